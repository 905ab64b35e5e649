/-
  WALKS: the methods of a Reader: Var and Raw; the number of a fault.
  WALKS: the methods of a Reader: End, U64, U8, for every Reader.
-/
import Derived.Test.YtmhbadkejhbbmaaGreatDoorReaderA
namespace Go.Proofs.YtmhbadkejhbbmaaGreatDoor
open Go.RowKit

def errL : Nat → Int
  | 0 => 0
  | 1 => 10
  | 2 => 11
  | 3 => 12
  | 4 => 14
  | _ => 0

theorem errno_any (f : Nat) (w : World) (hf : f ≤ 4) : Calls Tryz.prog 77 #[.int .i64 f] w fun e w' => e = .returned (.int .i64 (errL f)) ∧ w' = w := by
  match f, hf with
  | 0, _ => go_enter Tryz.func77, Tryz.ntmps77; go_wp2; go_ret; exact ⟨rfl, rfl⟩
  | 1, _ => go_enter Tryz.func77, Tryz.ntmps77; go_wp2; go_ret; exact ⟨rfl, rfl⟩
  | 2, _ => go_enter Tryz.func77, Tryz.ntmps77; go_wp2; go_ret; exact ⟨rfl, rfl⟩
  | 3, _ => go_enter Tryz.func77, Tryz.ntmps77; go_wp2; go_ret; exact ⟨rfl, rfl⟩
  | 4, _ => go_enter Tryz.func77, Tryz.ntmps77; go_wp2; go_ret; exact ⟨rfl, rfl⟩
  | _ + 5, h => omega

theorem take_len (xs : List Int) (pl f : Nat) (kind size most : Int) : (takeL xs pl f kind size most).text.length ≤ xs.length := by
  unfold takeL
  split
  · exact Nat.zero_le _
  · split
    · exact Nat.zero_le _
    · simp only [List.length_drop, List.length_take]; omega

set_option maxHeartbeats 400000 in
theorem Raw_any {w : World} {r g : Nat} {xs : List Int} {pl f : Nat} (R : Rdr w r g xs pl f) (n : Int) (hn : n ≤ 9223372036854775807) (y : Took) (hy : Hid (y = takeL xs pl f 3 n 0)) :
    Calls Tryz.prog 56 #[.pointer (some ⟨r, 0, none⟩), .int .i64 n] w fun e w' =>
      ∃ q, e = .returned (.slice (some ⟨q, 0, none⟩) y.text.length y.text.length) ∧ w'.heap[q]? = some (.cells (y.text.map (Value.int .u8)).toArray 5 (0, 0)) ∧ w.heap.size ≤ q ∧ Rdr w' r g xs y.pl y.f ∧ Kept [r] w w' := by
  have hcall := take_any w r g xs pl f 3 n 0 R (fun h => absurd h (by decide)) hn (by decide) y hy
  have hlen : y.text.length ≤ 140737488355328 := by rw [hy.out]; exact Nat.le_trans (take_len _ _ _ _ _ _) R.small
  clear R hy
  go_enter Tryz.func56, Tryz.ntmps56
  go_wp2_with (first | (go_at_call 72; refine hcall.mono ?_; rintro e w1 ⟨tv, rfl, hb, hr, hk⟩) | (go_at_call 71; refine (copied_any _ y.text _ (by assumption) hlen).mono ?_; rintro e w2 ⟨rfl, hq, hk2⟩; have HQ : Hid _ := hq; clear hq))
  go_ret
  exact ⟨w1.heap.size, rfl, HQ.out, hk.size, hr.kept hk2 (by simp) (by simp), hk.trans hk2 (by simp)⟩

end Go.Proofs.YtmhbadkejhbbmaaGreatDoor

namespace Go.Proofs.YtmhbadkejhbbmaaGreatDoor
open Go.RowKit

set_option maxHeartbeats 400000 in
theorem End_any {w : World} {r g : Nat} {xs : List Int} {pl f : Nat} (R : Rdr w r g xs pl f) (hf : f ≤ 4) : Calls Tryz.prog 61 #[.pointer (some ⟨r, 0, none⟩)] w fun e w' =>
    e = .returned (.int .i64 (if f ≠ 0 then errL f else if pl < xs.length then 13 else 0)) ∧ ∃ n, w' = w.drewN n := by
  obtain ⟨d0, d1, d2, d3, d4⟩ := R.facts
  have hleft := fun n => Left_any (R.kept (S := []) ((Kept.refl _ _).drewN n) (by simp) (by simp))
  have hleft0 := Left_any R
  have hle := R.le
  clear R
  by_cases h0 : f = 0
  · subst h0
    rw [if_neg (by decide)]
    by_cases h1 : pl < xs.length
    · rw [if_pos h1]
      go_enter Tryz.func61, Tryz.ntmps61
      go_wp2_with (go_at_call 57; refine hleft0.mono ?_; rintro e w1 ⟨rfl, n, rfl⟩)
      go_ret
      exact ⟨rfl, _, rfl⟩
    · rw [if_neg h1]
      go_enter Tryz.func61, Tryz.ntmps61
      go_wp2_with (go_at_call 57; refine hleft0.mono ?_; rintro e w1 ⟨rfl, n, rfl⟩)
      go_ret
      exact ⟨rfl, _, rfl⟩
  · rw [if_pos h0]
    have hf1 : 1 ≤ f := by omega
    clear h0
    go_enter Tryz.func61, Tryz.ntmps61
    go_wp2_with (go_at_call 77; refine (errno_any f _ hf).mono ?_; rintro e w1 ⟨rfl, rfl⟩)
    go_ret
    exact ⟨rfl, 0, rfl⟩

set_option maxHeartbeats 400000 in
theorem U8_any {w : World} {r g : Nat} {xs : List Int} {pl f : Nat} (R : Rdr w r g xs pl f) (y : Took) (hy : Hid (y = takeL xs pl f 0 1 0)) :
    Calls Tryz.prog 55 #[.pointer (some ⟨r, 0, none⟩)] w fun e w' => e = .returned (.int .u8 y.n) ∧ Rdr w' r g xs y.pl y.f ∧ Kept [r] w w' := by
  have hcall := take_any w r g xs pl f 0 1 0 R (by decide) (by decide) (by decide) y hy
  have hb := take_lt xs R.oct pl f 1
  have hb0 : 0 ≤ y.n := by rw [hy.out]; exact hb.1
  have hb1 : y.n < 256 := by rw [hy.out]; exact hb.2
  clear R hy hb
  go_enter Tryz.func55, Tryz.ntmps55
  go_wp2_with (go_at_call 72; refine hcall.mono ?_; rintro e w1 ⟨tv, rfl, hb, hr, hk⟩)
  go_ret
  exact ⟨rfl, hr, hk⟩

end Go.Proofs.YtmhbadkejhbbmaaGreatDoor
