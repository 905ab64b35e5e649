/-
  WALKS: satchelref2.digit and Hex.
-/
import Derived.Test.YtonnapjbplknlaaHex1
import Derived.Test.YtonnapjbplknlaaStep
import Derived.Lib.Bytes
import Derived.Deep.RegionLaw
import Derived.Deep.RegionWith
namespace Go.Proofs.Ytonnapjbplknlaa
open Go.RowKit

def GoodID (xs : List Int) : Prop := xs.length = 32 ∧ Octs xs

set_option maxHeartbeats 400000 in
theorem rdigit_any (n : Int) (w : World) (h0 : 0 ≤ n) (h1 : n < 16) : Calls Try.prog 15 #[.int .i64 n] w fun e w' => e = .returned (.int .u8 (digitL n)) ∧ w' = w := by
  by_cases hn : n < 10
  · have e : digitL n = 48 + n := if_pos hn
    have r : IntKind.u8.wrap (48 + n) = 48 + n := by rw [IntKind.wrap_u8']; omega
    rw [e]
    clear e
    go_enter Try.func15, Try.ntmps15
    go_wp2
    go_ret
    exact ⟨rfl, rfl⟩
  · have e : digitL n = 87 + n := if_neg hn
    have r : IntKind.u8.wrap (97 + n - 10) = 87 + n := by rw [IntKind.wrap_u8']; omega
    rw [e]
    clear e
    go_enter Try.func15, Try.ntmps15
    go_wp2
    go_ret
    exact ⟨rfl, rfl⟩

theorem hexL_two (bs : List Int) (k : Nat) (h : k < 32) : (hexL bs).take (2 * (k + 1)) = (hexL bs).take (2 * k) ++ [digitL (bs[k]?.getD 0 / 16), digitL (bs[k]?.getD 0 % 16)] := by
  have hl := hexL_len bs
  have g1 := hexL_get bs (2 * k) (by omega)
  have g2 := hexL_get bs (2 * k + 1) (by omega)
  rw [List.getElem?_eq_getElem (by omega)] at g1 g2
  have e1 : halfL bs (2 * k) = bs[k]?.getD 0 / 16 := by
    unfold halfL
    rw [if_pos (by omega), show 2 * k / 2 = k by omega]
  have e2 : halfL bs (2 * k + 1) = bs[k]?.getD 0 % 16 := by
    unfold halfL
    rw [if_neg (by omega), show (2 * k + 1) / 2 = k by omega]
  rw [show 2 * (k + 1) = 2 * k + 1 + 1 by omega, List.take_succ_eq_append_getElem (show 2 * k + 1 < (hexL bs).length by omega), List.take_succ_eq_append_getElem (show 2 * k < (hexL bs).length by omega), List.append_assoc]
  simp only [Option.getD_some] at g1 g2
  rw [g1, g2, e1, e2]
  rfl

set_option maxRecDepth 100000 in
set_option maxHeartbeats 400000 in
theorem RHex_any (bs : List Int) (w : World) (hg : GoodID bs) :
    Calls Try.prog 13 #[.agg (idC bs)] w fun e w' => e = .returned (.string (strOfNums (hexL bs))) ∧ Kept [] w w' := by
  have HB : Hid ((w.alloc (.cells (idC bs) 24)).heap[w.heap.size]? = some (.cells (idC bs) 24 (0, 0))) := heap_alloc_new w _
  have hlen := hexL_len bs
  go_enter Try.func13, Try.ntmps13
  go_wp2
  go_loopw [3, 4] (fun s3 s4 wr => ∃ (k : Nat) (v : Value), v = s3 ∧ k ≤ 32 ∧ s4 = .int .i64 k ∧ Hid (wr.heap[w.heap.size]? = some (.cells (idC bs) 24 (0, 0))) ∧ Hid (OwnB wr (w.heap.size + 1) v ((hexL bs).take (2 * k))) ∧ Hid (Kept [] w wr)) (fun _ s4 _ => 32 - (intOf s4).toNat)
  case atStart => exact ⟨0, _, rfl, Nat.zero_le _, rfl, HB, (by have h := World.ownsRow_nil (w.alloc (.cells (idC bs) 24)) (w.heap.size + 1) 5 1; exact h), (Kept.refl _ _).alloc _⟩
  case round =>
    obtain ⟨k, v, hv, hk, rfl, H0, HO, HK⟩ := hrel
    subst hv
    by_cases hlt : k < 32
    · have hcell : wr.cell? ⟨w.heap.size, k, none⟩ = some (.int .u8 (bs[k]?.getD 0)) := by
        rw [cell_of_row _ _ _ _ _ _ H0.out]
        exact idC_get (by rw [hg.1]; exact hlt)
      have hz := octs_getD hg.2 k
      have HT : Hid _ := hexL_two bs k hlt
      generalize bs[k]?.getD 0 = z at *
      have r0 : IntKind.i64.wrap z = z := by rw [IntKind.wrap_i64]; omega
      have r1 : Int.tdiv z 16 = z / 16 := Int.tdiv_eq_ediv_of_nonneg hz.1
      have r2 : Int.tmod z 16 = z % 16 := Int.tmod_eq_emod_of_nonneg hz.1
      have d1 := fun W => rdigit_any (z / 16) W (by omega) (by omega)
      have d2 := fun W => rdigit_any (z % 16) W (by omega) (by omega)
      have r3 : IntKind.i64.wrap (z / 16) = z / 16 := by rw [IntKind.wrap_i64]; omega
      have r4 : IntKind.i64.wrap (z % 16) = z % 16 := by rw [IntKind.wrap_i64]; omega
      generalize z / 16 = za at *
      generalize z % 16 = zb at *
      generalize digitL za = da at *
      generalize digitL zb = db at *
      have hb0 := lt_of_block H0.out
      have hB : w.heap.size + 1 ≤ (wr.drew.alloc (.cells #[.int .u8 da, .int .u8 db] 5)).heap.size := by rw [World.size_alloc]; exact Nat.succ_le_succ (Nat.le_of_lt hb0)
      have HN : Hid (BytesAt (wr.drew.alloc (.cells #[.int .u8 da, .int .u8 db] 5)) (.slice (some ⟨wr.drew.heap.size, 0, none⟩) 2 2) [da, db]) := OwnB.bytes (World.ownsRow_lit (base := 0) (e := 5) (size := 1) wr.drew #[.int .u8 da, .int .u8 db] 2 (Nat.zero_le _) (by unfold maxLen; omega) (by simp))
      have HO1 : Hid (OwnB (wr.drew.alloc (.cells #[.int .u8 da, .int .u8 db] 5)) (w.heap.size + 1) v ((hexL bs).take (2 * k))) := OwnB.kept HO.out (((Kept.refl [] wr).drew).alloc _) (by simp)
      have hlt2 : ((hexL bs).take (2 * k)).length + [da, db].length ≤ 140737488355328 := by rw [List.length_take]; simp; omega
      go_wp2_with fail
      go_region_law (first
        | (go_simp; go_at_call_of 15 za; refine (d1 _).mono ?_; rintro e w1 ⟨rfl, rfl⟩)
        | (go_simp; go_at_call_of 15 zb; refine (d2 _).mono ?_; rintro e w1 ⟨rfl, rfl⟩)
        | (refine step_append_bytes (by rfl) (.tmp 9) (.tmp 22) (by rfl) (by rfl) HO1.out (by rfl) HN.out hlt2 hB ?_; intro v' w4 ha
           have HA : Hid (OwnB w4 (w.heap.size + 1) v' ((hexL bs).take (2 * (k + 1)))) := by
             have h := ha.own
             rw [← HT.out] at h
             exact h
           have HK4 : Hid (Kept [] w w4) := ha.keep w [] ((HK.out.drew).alloc _) (fun j hj => Or.inr (by have := (World.ownsRow.lt HO.out j hj).1; omega))
           have H4 : Hid (w4.heap[w.heap.size]? = some (.cells (idC bs) 24 (0, 0))) := (ha.keep _ v.ownBlock.toList (Kept.refl _ _) (fun j hj => Or.inl (by simp [hj]))).heap ((Below.heap_alloc wr.drew _ _ hb0).trans H0.out) (fun hm => by
             have := (World.ownsRow.lt HO.out w.heap.size (by simpa using hm)).1
             omega)
           clear ha))
      all_goals go_wp2
      all_goals go_roundw
      all_goals first
        | exact ⟨k + 1, _, rfl, by omega, by go_num, H4, HA, HK4⟩
        | (simp [intOf]; omega)
    · obtain rfl : k = 32 := by omega
      have hcv := (OwnB.bytes HO.out).conv
      rw [List.take_of_length_le (by omega)] at hcv
      go_wp2
      go_ret
      exact ⟨rfl, HK.out⟩
end Go.Proofs.Ytonnapjbplknlaa
