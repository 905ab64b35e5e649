/-
  WALKS: the methods of a Reader: Var and Raw; the number of a fault.
-/
import Derived.Test.YtpdlnmjnpodicaaDoorReaderA
namespace Go.Proofs.YtpdlnmjnpodicaaDoor
open Go.RowKit

def errL : Nat → Int
  | 0 => 0
  | 1 => 10
  | 2 => 11
  | 3 => 12
  | 4 => 14
  | _ => 0

theorem errno_any (f : Nat) (w : World) (hf : f ≤ 4) : Calls Tryd.prog 43 #[.int .i64 f] w fun e w' => e = .returned (.int .i64 (errL f)) ∧ w' = w := by
  match f, hf with
  | 0, _ => go_enter Tryd.func43, Tryd.ntmps43; go_wp2; go_ret; exact ⟨rfl, rfl⟩
  | 1, _ => go_enter Tryd.func43, Tryd.ntmps43; go_wp2; go_ret; exact ⟨rfl, rfl⟩
  | 2, _ => go_enter Tryd.func43, Tryd.ntmps43; go_wp2; go_ret; exact ⟨rfl, rfl⟩
  | 3, _ => go_enter Tryd.func43, Tryd.ntmps43; go_wp2; go_ret; exact ⟨rfl, rfl⟩
  | 4, _ => go_enter Tryd.func43, Tryd.ntmps43; go_wp2; go_ret; exact ⟨rfl, rfl⟩
  | _ + 5, h => omega

set_option maxHeartbeats 400000 in
theorem Var_any {w : World} {r g : Nat} {xs : List Int} {pl f : Nat} (R : Rdr w r g xs pl f) (most : Int) (hm : most ≤ 18446744073709551615) (y : Took) (hy : Hid (y = takeL xs pl f 1 0 most)) :
    Calls Tryd.prog 39 #[.pointer (some ⟨r, 0, none⟩), .int .u64 most] w fun e w' => e = .returned (.int .u64 y.n) ∧ Rdr w' r g xs y.pl y.f ∧ Kept [r] w w' := by
  have hcall := take_any w r g xs pl f 1 0 most R (by decide) (by decide) hm y hy
  clear R hy
  go_enter Tryd.func39, Tryd.ntmps39
  go_wp2_with (go_at_call 38; refine hcall.mono ?_; rintro e w1 ⟨tv, rfl, hb, hr, hk⟩)
  go_ret
  exact ⟨rfl, hr, hk⟩

theorem take_len (xs : List Int) (pl f : Nat) (kind size most : Int) : (takeL xs pl f kind size most).text.length ≤ xs.length := by
  unfold takeL
  split
  · exact Nat.zero_le _
  · split
    · exact Nat.zero_le _
    · simp only [List.length_drop, List.length_take]; omega

set_option maxHeartbeats 400000 in
theorem Raw_any {w : World} {r g : Nat} {xs : List Int} {pl f : Nat} (R : Rdr w r g xs pl f) (n : Int) (hn : n ≤ 9223372036854775807) (y : Took) (hy : Hid (y = takeL xs pl f 3 n 0)) :
    Calls Tryd.prog 29 #[.pointer (some ⟨r, 0, none⟩), .int .i64 n] w fun e w' =>
      ∃ q, e = .returned (.slice (some ⟨q, 0, none⟩) y.text.length y.text.length) ∧ w'.heap[q]? = some (.cells (y.text.map (Value.int .u8)).toArray 5 (0, 0)) ∧ w.heap.size ≤ q ∧ Rdr w' r g xs y.pl y.f ∧ Kept [r] w w' := by
  have hcall := take_any w r g xs pl f 3 n 0 R (fun h => absurd h (by decide)) hn (by decide) y hy
  have hlen : y.text.length ≤ 140737488355328 := by rw [hy.out]; exact Nat.le_trans (take_len _ _ _ _ _ _) R.small
  clear R hy
  go_enter Tryd.func29, Tryd.ntmps29
  go_wp2_with (first | (go_at_call 38; refine hcall.mono ?_; rintro e w1 ⟨tv, rfl, hb, hr, hk⟩) | (go_at_call 37; refine (copied_any _ y.text _ (by assumption) hlen).mono ?_; rintro e w2 ⟨rfl, hq, hk2⟩; have HQ : Hid _ := hq; clear hq))
  go_ret
  exact ⟨w1.heap.size, rfl, HQ.out, hk.size, hr.kept hk2 (by simp) (by simp), hk.trans hk2 (by simp)⟩

end Go.Proofs.YtpdlnmjnpodicaaDoor
