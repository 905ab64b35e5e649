/-
  WALKS: satchelref2.digit and Hex.
  The shortest beginning that tells an id from others; lists of ids in memory; the WALK of digest.Short.
  WALKS: satchellaw2.begins; satchelref2.digit, Hex, Begins: the same digits as the program's.
-/
import Derived.Test.YtlljiipmkjjhhaaDoorHex1
import Derived.Test.YtlljiipmkjjhhaaDoorAppH
import Derived.Lib.Bytes
import Derived.Deep.RegionLaw
import Derived.Deep.RegionWith
import Derived.Test.YtlljiipmkjjhhaaDoorEqAn
import Derived.Deep.WholeRow
import Derived.Laws.Strings2
namespace Go.Proofs.YtlljiipmkjjhhaaDoor
open Go.RowKit


set_option maxHeartbeats 400000 in
theorem rdigit_any (n : Int) (w : World) (h0 : 0 ≤ n) (h1 : n < 16) : Calls Tryd.prog 88 #[.int .i64 n] w fun e w' => e = .returned (.int .u8 (digitL n)) ∧ w' = w := by
  by_cases hn : n < 10
  · have e : digitL n = 48 + n := if_pos hn
    have r : IntKind.u8.wrap (48 + n) = 48 + n := by rw [IntKind.wrap_u8']; omega
    rw [e]
    clear e
    go_enter Tryd.func88, Tryd.ntmps88
    go_wp2
    go_ret
    exact ⟨rfl, rfl⟩
  · have e : digitL n = 87 + n := if_neg hn
    have r : IntKind.u8.wrap (97 + n - 10) = 87 + n := by rw [IntKind.wrap_u8']; omega
    rw [e]
    clear e
    go_enter Tryd.func88, Tryd.ntmps88
    go_wp2
    go_ret
    exact ⟨rfl, rfl⟩

theorem hexL_two (bs : List Int) (k : Nat) (h : k < 32) : (hexL bs).take (2 * (k + 1)) = (hexL bs).take (2 * k) ++ [digitL (bs[k]?.getD 0 / 16), digitL (bs[k]?.getD 0 % 16)] := by
  have hl := hexL_len bs
  have g1 := hexL_get bs (2 * k) (by omega)
  have g2 := hexL_get bs (2 * k + 1) (by omega)
  rw [List.getElem?_eq_getElem (by omega)] at g1 g2
  have e1 : halfL bs (2 * k) = bs[k]?.getD 0 / 16 := by
    unfold halfL
    rw [if_pos (by omega), show 2 * k / 2 = k by omega]
  have e2 : halfL bs (2 * k + 1) = bs[k]?.getD 0 % 16 := by
    unfold halfL
    rw [if_neg (by omega), show (2 * k + 1) / 2 = k by omega]
  rw [show 2 * (k + 1) = 2 * k + 1 + 1 by omega, List.take_succ_eq_append_getElem (show 2 * k + 1 < (hexL bs).length by omega), List.take_succ_eq_append_getElem (show 2 * k < (hexL bs).length by omega), List.append_assoc]
  simp only [Option.getD_some] at g1 g2
  rw [g1, g2, e1, e2]
  rfl

set_option maxRecDepth 100000 in
set_option maxHeartbeats 400000 in
theorem RHex_any (bs : List Int) (w : World) (hg : GoodID bs) :
    Calls Tryd.prog 80 #[.agg (idC bs)] w fun e w' => e = .returned (.string (strOfNums (hexL bs))) ∧ Kept [] w w' := by
  have HB : Hid ((w.alloc (.cells (idC bs) 24)).heap[w.heap.size]? = some (.cells (idC bs) 24 (0, 0))) := heap_alloc_new w _
  have hlen := hexL_len bs
  go_enter Tryd.func80, Tryd.ntmps80
  go_wp2
  go_loopw [3, 4] (fun s3 s4 wr => ∃ (k : Nat) (v : Value), v = s3 ∧ k ≤ 32 ∧ s4 = .int .i64 k ∧ Hid (wr.heap[w.heap.size]? = some (.cells (idC bs) 24 (0, 0))) ∧ Hid (OwnB wr (w.heap.size + 1) v ((hexL bs).take (2 * k))) ∧ Hid (Kept [] w wr)) (fun _ s4 _ => 32 - (intOf s4).toNat)
  case atStart => exact ⟨0, _, rfl, Nat.zero_le _, rfl, HB, (by have h := World.ownsRow_nil (w.alloc (.cells (idC bs) 24)) (w.heap.size + 1) 5 1; exact h), (Kept.refl _ _).alloc _⟩
  case round =>
    obtain ⟨k, v, hv, hk, rfl, H0, HO, HK⟩ := hrel
    subst hv
    by_cases hlt : k < 32
    · have hcell : wr.cell? ⟨w.heap.size, k, none⟩ = some (.int .u8 (bs[k]?.getD 0)) := by
        rw [cell_of_row _ _ _ _ _ _ H0.out]
        exact idC_get (by rw [hg.1]; exact hlt)
      have hz := octs_getD hg.2 k
      have HT : Hid _ := hexL_two bs k hlt
      generalize bs[k]?.getD 0 = z at *
      have r0 : IntKind.i64.wrap z = z := by rw [IntKind.wrap_i64]; omega
      have r1 : Int.tdiv z 16 = z / 16 := Int.tdiv_eq_ediv_of_nonneg hz.1
      have r2 : Int.tmod z 16 = z % 16 := Int.tmod_eq_emod_of_nonneg hz.1
      have d1 := fun W => rdigit_any (z / 16) W (by omega) (by omega)
      have d2 := fun W => rdigit_any (z % 16) W (by omega) (by omega)
      have r3 : IntKind.i64.wrap (z / 16) = z / 16 := by rw [IntKind.wrap_i64]; omega
      have r4 : IntKind.i64.wrap (z % 16) = z % 16 := by rw [IntKind.wrap_i64]; omega
      generalize z / 16 = za at *
      generalize z % 16 = zb at *
      generalize digitL za = da at *
      generalize digitL zb = db at *
      have hb0 := lt_of_block H0.out
      have hB : w.heap.size + 1 ≤ (wr.drew.alloc (.cells #[.int .u8 da, .int .u8 db] 5)).heap.size := by rw [World.size_alloc]; exact Nat.succ_le_succ (Nat.le_of_lt hb0)
      have HN : Hid (BytesAt (wr.drew.alloc (.cells #[.int .u8 da, .int .u8 db] 5)) (.slice (some ⟨wr.drew.heap.size, 0, none⟩) 2 2) [da, db]) := OwnB.bytes (World.ownsRow_lit (base := 0) (e := 5) (size := 1) wr.drew #[.int .u8 da, .int .u8 db] 2 (Nat.zero_le _) (by unfold maxLen; omega) (by simp))
      have HO1 : Hid (OwnB (wr.drew.alloc (.cells #[.int .u8 da, .int .u8 db] 5)) (w.heap.size + 1) v ((hexL bs).take (2 * k))) := OwnB.kept HO.out (((Kept.refl [] wr).drew).alloc _) (by simp)
      have hlt2 : ((hexL bs).take (2 * k)).length + [da, db].length ≤ 140737488355328 := by rw [List.length_take]; simp; omega
      go_wp2_with fail
      go_region_law (first
        | (go_simp; go_at_call_of 88 za; refine (d1 _).mono ?_; rintro e w1 ⟨rfl, rfl⟩)
        | (go_simp; go_at_call_of 88 zb; refine (d2 _).mono ?_; rintro e w1 ⟨rfl, rfl⟩)
        | (refine step_append_bytes (by rfl) (.tmp 9) (.tmp 22) (by rfl) (by rfl) HO1.out (by rfl) HN.out hlt2 hB ?_; intro v' w4 ha
           have HA : Hid (OwnB w4 (w.heap.size + 1) v' ((hexL bs).take (2 * (k + 1)))) := by
             have h := ha.own
             rw [← HT.out] at h
             exact h
           have HK4 : Hid (Kept [] w w4) := ha.keep w [] ((HK.out.drew).alloc _) (fun j hj => Or.inr (by have := (World.ownsRow.lt HO.out j hj).1; omega))
           have H4 : Hid (w4.heap[w.heap.size]? = some (.cells (idC bs) 24 (0, 0))) := (ha.keep _ v.ownBlock.toList (Kept.refl _ _) (fun j hj => Or.inl (by simp [hj]))).heap ((Below.heap_alloc wr.drew _ _ hb0).trans H0.out) (fun hm => by
             have := (World.ownsRow.lt HO.out w.heap.size (by simpa using hm)).1
             omega)
           clear ha))
      all_goals go_wp2
      all_goals go_roundw
      all_goals first
        | exact ⟨k + 1, _, rfl, by omega, by go_num, H4, HA, HK4⟩
        | (simp [intOf]; omega)
    · obtain rfl : k = 32 := by omega
      have hcv := (OwnB.bytes HO.out).conv
      rw [List.take_of_length_le (by omega)] at hcv
      go_wp2
      go_ret
      exact ⟨rfl, HK.out⟩
end Go.Proofs.YtlljiipmkjjhhaaDoor

namespace Go.Proofs.YtlljiipmkjjhhaaDoor
open Go.RowKit

theorem str_take (l : List Int) (n : Nat) : (strOfNums l).extract 0 n = strOfNums (l.take n) := by
  unfold strOfNums
  rw [ByteArray.extract_mk, List.drop_zero, Nat.sub_zero, List.map_take]


theorem half_split (a b : List Int) : ∀ n, (∀ j, j < n → halfL a j = halfL b j) ∨ ∃ k, k < n ∧ (∀ j, j < k → halfL a j = halfL b j) ∧ halfL a k ≠ halfL b k := by
  intro n
  induction n with
  | zero => exact Or.inl fun j hj => by omega
  | succ n ih =>
    rcases ih with h | ⟨k, h1, h2, h3⟩
    · by_cases he : halfL a n = halfL b n
      · refine Or.inl fun j hj => ?_
        by_cases hjn : j = n
        · rw [hjn]; exact he
        · exact h j (by omega)
      · exact Or.inr ⟨n, by omega, h, he⟩
    · exact Or.inr ⟨k, by omega, h2, h3⟩
/-- The halves up to there are the same, and there they are not. -/
theorem comL_spec (a b : List Int) : comL a b ≤ 64 ∧ (∀ j, j < comL a b → halfL a j = halfL b j) ∧ (comL a b < 64 → halfL a (comL a b) ≠ halfL b (comL a b)) := by
  rcases half_split a b 64 with h | ⟨k, h1, h2, h3⟩
  · rw [comL_eq a b 64 (Nat.le_refl _) h (fun h => by omega)]
    exact ⟨Nat.le_refl _, h, fun h => by omega⟩
  · rw [comL_eq a b k (by omega) h2 (fun _ => h3)]
    exact ⟨by omega, h2, fun _ => h3⟩
end Go.Proofs.YtlljiipmkjjhhaaDoor

namespace Go.Proofs.YtlljiipmkjjhhaaDoor
open Go.RowKit

theorem str_beq {xs ys : List Int} (hx : Octs xs) (hy : Octs ys) : ((strOfNums xs).toList == (strOfNums ys).toList) = decide (xs = ys) := by
  by_cases h : xs = ys
  · subst h; simp
  · rw [decide_eq_false h, beq_eq_false_iff_ne]
    intro e
    rw [Lib.strOfNums_toList, Lib.strOfNums_toList] at e
    refine h ((strOfNums_inj hx hy).1 ?_)
    have e2 : (strOfNums xs).data.toList = (strOfNums ys).data.toList := e
    cases hA : strOfNums xs with
    | mk d1 =>
      cases hB : strOfNums ys with
      | mk d2 =>
        rw [hA, hB] at e2
        have : d1 = d2 := by
          cases d1; cases d2
          simpa using e2
        rw [this]

def begB (s p : List Int) : Bool := decide (p.length ≤ s.length) && decide (s.take p.length = p)
theorem octs_take' {xs : List Int} (h : Octs xs) (n : Nat) : Octs (xs.take n) := fun u hu => h u (List.mem_of_mem_take hu)

set_option maxHeartbeats 1000000 in
theorem begins_any (s p : List Int) (w : World) (hs : Octs s) (hp : Octs p) :
    Calls Tryd.prog 10 #[.string (strOfNums s), .string (strOfNums p)] w fun e w' => e = .returned (.bool (begB s p)) ∧ w' = w := by
  have h1 := strOfNums_size s
  have h2 := strOfNums_size p
  have hq := str_beq (octs_take' hs p.length) hp
  rw [← str_take] at hq
  by_cases hle : p.length ≤ s.length
  · have hb : begB s p = decide (s.take p.length = p) := by unfold begB; rw [decide_eq_true hle, Bool.true_and]
    rw [hb]
    generalize decide (s.take p.length = p) = r at *
    generalize strOfNums s = S at *
    generalize strOfNums p = T at *
    go_enter Tryd.func10, Tryd.ntmps10
    go_wp2
    go_ret
    exact ⟨rfl, rfl⟩
  · have hb : begB s p = false := by unfold begB; rw [decide_eq_false hle, Bool.false_and]
    rw [hb]
    clear hq hb
    generalize strOfNums s = S at *
    generalize strOfNums p = T at *
    go_enter Tryd.func10, Tryd.ntmps10
    go_wp2
    go_ret
    exact ⟨rfl, rfl⟩

set_option maxRecDepth 100000 in
set_option maxHeartbeats 400000 in
theorem RBegins_any (bs p : List Int) (w : World) (hg : GoodID bs) (hp : Octs p) :
    Calls Tryd.prog 56 #[.agg (idC bs), .string (strOfNums p)] w fun e w' => e = .returned (.bool (begB (hexL bs) p)) ∧ Kept [] w w' := by
  have hsz : (Tryd.prog.info? 24).map (·.size) = some (idC bs).size := by rw [idC_size hg.1]; exact Tryd.infoID
  have hhex := fun W => RHex_any bs W hg
  have hoh : Octs (hexL bs) := fun u hu => (hexL_mem bs hg.2 u hu).2
  have h1 : (strOfNums (hexL bs)).size = 64 := by rw [strOfNums_size, hexL_len]
  have h2 := strOfNums_size p
  have hq := str_beq (octs_take' hoh p.length) hp
  rw [← str_take] at hq
  have HB : Hid ((w.alloc (.cells (idC bs) 24)).heap[w.heap.size]? = some (.cells (idC bs) 24 (0, 0))) := heap_alloc_new w _
  by_cases hle : p.length ≤ 64
  · have hb : begB (hexL bs) p = decide ((hexL bs).take p.length = p) := by unfold begB; rw [hexL_len, decide_eq_true hle, Bool.true_and]
    rw [hb]
    generalize decide ((hexL bs).take p.length = p) = r at *
    generalize strOfNums (hexL bs) = S at *
    generalize strOfNums p = T at *
    generalize idC bs = ic at *
    go_enter Tryd.func56, Tryd.ntmps56
    go_wp2_with (first
      | (refine wpList_load_row (by rfl) 24 (.tmp 2) (by rfl) w.heap.size (by rfl) 24 ic (0, 0) _ HB.out Tryd.underlying24 rfl hsz ?_)
      | (go_at_call 80; refine (hhex _).mono ?_; rintro e w2 ⟨rfl, hk2⟩; have HK2 : Hid (Kept [] w w2) := ((Kept.refl [] w).alloc _).then hk2; clear hk2))
    go_ret
    exact ⟨rfl, HK2.out⟩
  · have hb : begB (hexL bs) p = false := by unfold begB; rw [hexL_len, decide_eq_false hle, Bool.false_and]
    rw [hb]
    clear hq hb
    generalize strOfNums (hexL bs) = S at *
    generalize strOfNums p = T at *
    generalize idC bs = ic at *
    go_enter Tryd.func56, Tryd.ntmps56
    go_wp2_with (first
      | (refine wpList_load_row (by rfl) 24 (.tmp 2) (by rfl) w.heap.size (by rfl) 24 ic (0, 0) _ HB.out Tryd.underlying24 rfl hsz ?_)
      | (go_at_call 80; refine (hhex _).mono ?_; rintro e w2 ⟨rfl, hk2⟩; have HK2 : Hid (Kept [] w w2) := ((Kept.refl [] w).alloc _).then hk2; clear hk2))
    go_ret
    exact ⟨rfl, HK2.out⟩
end Go.Proofs.YtlljiipmkjjhhaaDoor
