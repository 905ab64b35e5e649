/-
  WALKS: Bytes, for every Reader.
-/
import Derived.Test.YtddhhjgegkkjbaaGreatDoorReaderV
namespace Go.Proofs.YtddhhjgegkkjbaaGreatDoor
open Go.RowKit

set_option maxHeartbeats 400000 in
theorem Bytes_any {w : World} {r g : Nat} {xs : List Int} {pl f : Nat} (R : Rdr w r g xs pl f) (most : Int) (hm : most ≤ 9223372036854775807) (y : Took) (hy : Hid (y = takeL xs pl f 2 0 (max most 0))) :
    Calls Tryz.prog 90 #[.pointer (some ⟨r, 0, none⟩), .int .i64 most] w fun e w' =>
      ∃ q, e = .returned (.slice (some ⟨q, 0, none⟩) y.text.length y.text.length) ∧ w'.heap[q]? = some (.cells (y.text.map (Value.int .u8)).toArray 5 (0, 0)) ∧ w.heap.size ≤ q ∧ Rdr w' r g xs y.pl y.f ∧ Kept [r] w w' := by
  have hcall := take_any w r g xs pl f 2 0 (max most 0) R (by decide) (by decide) (by omega) y hy
  have hlen : y.text.length ≤ 140737488355328 := by rw [hy.out]; exact Nat.le_trans (take_len _ _ _ _ _ _) R.small
  clear R hy
  by_cases h0 : 0 ≤ most
  · rw [show max most 0 = most by omega] at hcall
    go_enter Tryz.func90, Tryz.ntmps90
    go_wp2_with (first | (go_at_call 63; refine hcall.mono ?_; rintro e w1 ⟨tv, rfl, hb, hr, hk⟩) | (go_at_call 62; refine (copied_any _ y.text _ (by assumption) hlen).mono ?_; rintro e w2 ⟨rfl, hq, hk2⟩; have HQ : Hid _ := hq; clear hq))
    go_ret
    exact ⟨w1.heap.size, rfl, HQ.out, hk.size, hr.kept hk2 (by simp) (by simp), hk.trans hk2 (by simp)⟩
  · rw [show max most 0 = 0 by omega] at hcall
    have h1 : most < 0 := by omega
    clear h0
    go_enter Tryz.func90, Tryz.ntmps90
    go_wp2_with (first | (go_at_call 63; refine hcall.mono ?_; rintro e w1 ⟨tv, rfl, hb, hr, hk⟩) | (go_at_call 62; refine (copied_any _ y.text _ (by assumption) hlen).mono ?_; rintro e w2 ⟨rfl, hq, hk2⟩; have HQ : Hid _ := hq; clear hq))
    go_ret
    exact ⟨w1.heap.size, rfl, HQ.out, hk.size, hr.kept hk2 (by simp) (by simp), hk.trans hk2 (by simp)⟩

end Go.Proofs.YtddhhjgegkkjbaaGreatDoor
