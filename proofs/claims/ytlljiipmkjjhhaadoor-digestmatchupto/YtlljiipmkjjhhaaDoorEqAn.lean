/-
  How many digits two ids have in common; the WALK of digest.common.
  COPY of a list of structs of k cells into memory of its own.
  WALKS: satchelref0.Cmp and Eq over two slices of the same bytes; satchellaw1.into.
  WALKS: satchelref0.Cmp and Eq over any two slices of bytes.
-/
import Derived.Test.YtlljiipmkjjhhaaDoorQuiet
import Derived.Test.YtlljiipmkjjhhaaDoorHex0
import Derived.Test.YtlljiipmkjjhhaaDoorRw0
import Derived.Laws.CopyRow
import Derived.Laws.MakeOwn
import Derived.Lib.SlBuf
import Derived.Test.YtlljiipmkjjhhaaDoorSha1
import Derived.Test.YtlljiipmkjjhhaaDoorPlain2
import Derived.Deep.QuietTactic
import Derived.BigQuiet
namespace Go.Proofs.YtlljiipmkjjhhaaDoor
open Go.RowKit

def comL (a b : List Int) : Nat := ((List.range 64).takeWhile fun k => halfL a k == halfL b k).length

theorem takeWhile_range (p : Nat → Bool) (n : Nat) : ∀ k, k ≤ n → (∀ j, j < k → p j = true) → (k < n → p k = false) → ((List.range n).takeWhile p).length = k := by
  intro k hk hall hstop
  have e : List.range n = List.range k ++ (List.range (n - k)).map (k + ·) := by
    rw [← List.range_add]; congr 1; omega
  rw [e, List.takeWhile_append_of_pos (fun j hj => hall j (List.mem_range.1 hj)), List.length_append, List.length_range]
  have : ((List.range (n - k)).map (k + ·)).takeWhile p = [] := by
    by_cases hkn : k < n
    · obtain ⟨m, hm⟩ : ∃ m, n - k = m + 1 := ⟨n - k - 1, by omega⟩
      rw [hm, List.range_succ_eq_map, List.map_cons, List.takeWhile_cons, Nat.add_zero, hstop hkn]
      rfl
    · have : n - k = 0 := by omega
      rw [this]; rfl
  rw [this]; rfl

theorem comL_eq (a b : List Int) (k : Nat) (hk : k ≤ 64) (hall : ∀ j, j < k → halfL a j = halfL b j) (hstop : k < 64 → halfL a k ≠ halfL b k) : comL a b = k :=
  takeWhile_range _ 64 k hk (fun j hj => by simpa using hall j hj) (fun h => by simpa using hstop h)

set_option maxRecDepth 100000 in
set_option maxHeartbeats 2000000 in
theorem common_any (xs bs : List Int) (w : World) (hla : xs.length = 32) (hoa : Octs xs) (hlb : bs.length = 32) (hob : Octs bs) :
    Calls Tryd.prog 19 #[.agg (idC xs), .agg (idC bs)] w fun e w' => e = .returned (.int .i64 (comL xs bs)) ∧ Kept [] w w' := by
  have hsa : (Tryd.prog.info? 24).map (·.size) = some (xs.map (Value.int .u8)).length := by rw [List.length_map, hla]; exact Tryd.infoID
  have hsb : (Tryd.prog.info? 24).map (·.size) = some (bs.map (Value.int .u8)).length := by rw [List.length_map, hlb]; exact Tryd.infoID
  have hna : (xs.map (Value.int .u8)).length = 32 := by rw [List.length_map, hla]
  have hnb : (bs.map (Value.int .u8)).length = 32 := by rw [List.length_map, hlb]
  have hca := map_oneCell xs
  have hcb := map_oneCell bs
  have hun := Tryd.underlying24
  clear hna hnb hca hcb
  have HA : Hid (∀ W (k : Nat), k < 64 → Calls Tryd.prog 25 #[.agg (idC xs), .int .i64 k] W fun e w' => e = .returned (.int .u8 (halfL xs k)) ∧ Kept [] W w') := fun W k hk => half_any xs W hla hoa k hk
  have HB : Hid (∀ W (k : Nat), k < 64 → Calls Tryd.prog 25 #[.agg (idC bs), .int .i64 k] W fun e w' => e = .returned (.int .u8 (halfL bs k)) ∧ Kept [] W w') := fun W k hk => half_any bs W hlb hob k hk
  have HR : Hid (∀ W, Kept [] ((w.alloc (.cells (idC xs) 24)).alloc (.cells (idC bs) 24)) W → W.rangeAt w.heap.size 0 (xs.map (Value.int .u8)) ∧ W.rangeAt (w.heap.size + 1) 0 (bs.map (Value.int .u8))) := fun W k => by
    have h2 := range_box (w.alloc (.cells (idC xs) 24)) bs 24
    rw [World.size_alloc] at h2
    exact ⟨range_kept (range_kept (range_box w xs 24) ((Kept.refl [] _).alloc (.cells (idC bs) 24)) (by simp)) k (by simp), range_kept h2 k (by simp)⟩
  go_enter Tryd.func19, Tryd.ntmps19
  go_wp2
  go_loopw [5, 6] (fun _ s6 wr => ∃ k : Nat, k ≤ 64 ∧ s6 = .int .i64 k ∧ Hid (∀ j, j < k → halfL xs j = halfL bs j) ∧ Hid (Kept [] ((w.alloc (.cells (idC xs) 24)).alloc (.cells (idC bs) 24)) wr)) (fun _ s6 _ => 64 - (intOf s6).toNat)
  case atStart => exact ⟨0, Nat.zero_le _, rfl, fun j hj => absurd hj (by omega), Kept.refl _ _⟩
  case round =>
    obtain ⟨k, hk, rfl, HE, HK⟩ := hrel
    have HKW : Hid (Kept [] w wr) := (((Kept.refl [] w).alloc _).alloc _).then HK.out
    by_cases hlt : k < 64
    · go_wp2_with fail
      refine region_quiet (Kept [] ((w.alloc (.cells (idC xs) 24)).alloc (.cells (idC bs) 24))) (by kernel_rfl) (by kernel_rfl) HK.out.drew ?_
      refine quiet_row (by rfl) _ _ rfl w.heap.size 0 rfl (xs.map (Value.int .u8)) _ (fun W hW => (HR.out W hW).1) hun rfl hsa ?_
      simp only [Act.put, List.setIfInBounds_toArray, List.set_cons_zero, List.set_cons_succ]
      refine quiet_val (by rfl) (.int .i64 k) (fun W => rfl) ?_
      simp only [Act.put, List.setIfInBounds_toArray, List.set_cons_zero, List.set_cons_succ]
      refine quiet_call (by rfl) 25 #[.agg (idC xs), .int .i64 k] (.int .u8 (halfL xs k)) (fun W => by go_simp; rfl) (fun W hW => (HA.out W k hlt).mono fun e w' h => ⟨h.1, hW.then h.2⟩) ?_
      simp only [Act.put, List.setIfInBounds_toArray, List.set_cons_zero, List.set_cons_succ]
      refine quiet_row (by rfl) _ _ rfl (w.heap.size + 1) 0 rfl (bs.map (Value.int .u8)) _ (fun W hW => (HR.out W hW).2) hun rfl hsb ?_
      simp only [Act.put, List.setIfInBounds_toArray, List.set_cons_zero, List.set_cons_succ]
      refine quiet_val (by rfl) (.int .i64 k) (fun W => rfl) ?_
      simp only [Act.put, List.setIfInBounds_toArray, List.set_cons_zero, List.set_cons_succ]
      refine quiet_call (by rfl) 25 #[.agg (idC bs), .int .i64 k] (.int .u8 (halfL bs k)) (fun W => by go_simp; rfl) (fun W hW => (HB.out W k hlt).mono fun e w' h => ⟨h.1, hW.then h.2⟩) ?_
      simp only [Act.put, List.setIfInBounds_toArray, List.set_cons_zero, List.set_cons_succ]
      refine quiet_val (by rfl) (.bool (halfL xs k != halfL bs k)) (fun W => by rfl) ?_
      simp only [Act.put, List.setIfInBounds_toArray, List.set_cons_zero, List.set_cons_succ]
      refine wpQuiet_nil fun w3 hk3 => ?_
      have HK3 : Hid _ := hk3
      have HKW3 : Hid (Kept [] w w3) := (((Kept.refl [] w).alloc _).alloc _).then hk3
      clear hk3
      by_cases heq : halfL xs k = halfL bs k
      · have hb : (halfL xs k != halfL bs k) = false := by simp [heq]
        rw [hb]
        have HE' : Hid (∀ j, j < k + 1 → halfL xs j = halfL bs j) := fun j hj => by
          by_cases hjk : j = k
          · rw [hjk]; exact heq
          · exact HE.out j (by omega)
        clear heq hb
        go_wp2
        go_roundw
        case rel => exact ⟨k + 1, by omega, by go_num, HE', HK3⟩
        case measure => simp [intOf]; omega
      · have hb : (halfL xs k != halfL bs k) = true := by simp [heq]
        rw [hb]
        have HC : Hid (comL xs bs = k) := comL_eq xs bs k hk HE.out (fun _ => heq)
        clear heq hb
        go_wp2
        go_ret
        exact ⟨by rw [HC.out]; rfl, HKW3.out⟩
    · obtain rfl : k = 64 := by omega
      go_wp2
      go_ret
      exact ⟨by rw [comL_eq xs bs 64 (Nat.le_refl _) HE.out (fun h => by omega)]; rfl, HKW.out⟩
end Go.Proofs.YtlljiipmkjjhhaaDoor

namespace Go.Proofs.YtlljiipmkjjhhaaDoor
open Go.RowKit

theorem run_copy_k {P : Program} (w : World) (dT sT ty elem : TypeId) (k : Nat) (g dLen dCap : Nat) (a : Addr) (sLen sCap : Nat) (cur : Array Value) (t : TypeId) (cs : List Value)
    (hu : P.underlying dT = some (.slice elem)) (hs : (P.info? elem).map (·.size) = some k)
    (hg : w.heap[g]? = some (.cells cur t (0, 0))) (hn : cs.length = Nat.min sLen dLen * k)
    (hsrc : ∀ j v, cs[j]? = some v → w.cell? (a.add j) = some v) (hfit : cs.length = cur.size) (h1 : ∀ v ∈ cs, v.oneCell' = true) :
    (Builtin.copy_ #[dT, sT] ty #[.slice (some ⟨g, 0, none⟩) dLen dCap, .slice (some a) sLen sCap]).run P w =
      .ok (goInt (Nat.min sLen dLen)) (w.setRow g cs.toArray) := by
  have hl := run_loadCells_list (P := P) w a cs hsrc
  have hst := run_storeCells_at P g 0 t cs 0 cur w hg (by omega) h1
  have e : (cur.toList.take (0 + 0) ++ cs ++ cur.toList.drop (0 + 0 + cs.length)).toArray = cs.toArray := by
    rw [List.drop_eq_nil_of_le (by rw [Array.length_toList]; omega)]
    simp
  rw [e] at hst
  cases hq : P.info? elem with
  | none => simp [hq] at hs
  | some i =>
    have hi : i.size = k := by simpa [hq] using hs
    simp [Builtin.copy_, run_underlying hu, Builtin.lenOf, Builtin.firstCells, sizeOf, typeInfo, hq, hi, ← hn, hl, hst]

end Go.Proofs.YtlljiipmkjjhhaaDoor

namespace Go.Proofs.YtlljiipmkjjhhaaDoor
open Go.RowKit

theorem cmp_empty (ao bo : Option Addr) (ca cb : Nat) (w : World) : Calls Tryd.prog 26 #[.slice ao 0 ca, .slice bo 0 cb] w fun e w' => e = .returned (.int .i64 0) ∧ ∃ n, w' = w.drewN n := by
  go_enter Tryd.func26, Tryd.ntmps26
  go_wp2
  refine wp_loop_rounds 1 ?_
  rw [rounds_succ]
  go_wp2
  go_ret
  exact ⟨rfl, 0, rfl⟩

end Go.Proofs.YtlljiipmkjjhhaaDoor

namespace Go.Proofs.YtlljiipmkjjhhaaDoor
open Go.RowKit

theorem drew_two (w : World) (a b : Nat) : ∃ k, (w.drewN a).drewN b = w.drewN k := ⟨a + b, by simp [World.drewN, Nat.add_assoc]⟩
theorem drew_three (w : World) (a b c : Nat) : ∃ k, ((w.drewN a).drewN b).drewN c = w.drewN k := ⟨a + b + c, by simp [World.drewN, Nat.add_assoc]⟩

theorem take_eq_succ {us vs : List Int} {k : Nat} (ha : k < us.length) (hb : k < vs.length) (h : us.take k = vs.take k) (he : us[k]?.getD 0 = vs[k]?.getD 0) : us.take (k + 1) = vs.take (k + 1) := by
  rw [take_snoc us k ha, take_snoc vs k hb, h]
  congr 2
end Go.Proofs.YtlljiipmkjjhhaaDoor
