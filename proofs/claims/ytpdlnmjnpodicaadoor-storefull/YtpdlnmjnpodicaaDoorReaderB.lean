/-
  WALKS: the methods of a Reader: End, U64, U8, for every Reader.
-/
import Derived.Test.YtpdlnmjnpodicaaDoorRdBy
namespace Go.Proofs.YtpdlnmjnpodicaaDoor
open Go.RowKit

set_option maxHeartbeats 400000 in
theorem End_any {w : World} {r g : Nat} {xs : List Int} {pl f : Nat} (R : Rdr w r g xs pl f) (hf : f ≤ 4) : Calls Tryd.prog 34 #[.pointer (some ⟨r, 0, none⟩)] w fun e w' =>
    e = .returned (.int .i64 (if f ≠ 0 then errL f else if pl < xs.length then 13 else 0)) ∧ ∃ n, w' = w.drewN n := by
  obtain ⟨d0, d1, d2, d3, d4⟩ := R.facts
  have hleft := fun n => Left_any (R.kept (S := []) ((Kept.refl _ _).drewN n) (by simp) (by simp))
  have hleft0 := Left_any R
  have hle := R.le
  clear R
  by_cases h0 : f = 0
  · subst h0
    rw [if_neg (by decide)]
    by_cases h1 : pl < xs.length
    · rw [if_pos h1]
      go_enter Tryd.func34, Tryd.ntmps34
      go_wp2_with (go_at_call 30; refine hleft0.mono ?_; rintro e w1 ⟨rfl, n, rfl⟩)
      go_ret
      exact ⟨rfl, _, rfl⟩
    · rw [if_neg h1]
      go_enter Tryd.func34, Tryd.ntmps34
      go_wp2_with (go_at_call 30; refine hleft0.mono ?_; rintro e w1 ⟨rfl, n, rfl⟩)
      go_ret
      exact ⟨rfl, _, rfl⟩
  · rw [if_pos h0]
    have hf1 : 1 ≤ f := by omega
    clear h0
    go_enter Tryd.func34, Tryd.ntmps34
    go_wp2_with (go_at_call 43; refine (errno_any f _ hf).mono ?_; rintro e w1 ⟨rfl, rfl⟩)
    go_ret
    exact ⟨rfl, 0, rfl⟩

set_option maxHeartbeats 400000 in
theorem U64_any {w : World} {r g : Nat} {xs : List Int} {pl f : Nat} (R : Rdr w r g xs pl f) (y : Took) (hy : Hid (y = takeL xs pl f 0 8 0)) :
    Calls Tryd.prog 42 #[.pointer (some ⟨r, 0, none⟩)] w fun e w' => e = .returned (.int .u64 y.n) ∧ Rdr w' r g xs y.pl y.f ∧ Kept [r] w w' := by
  have hcall := take_any w r g xs pl f 0 8 0 R (by decide) (by decide) (by decide) y hy
  clear R hy
  go_enter Tryd.func42, Tryd.ntmps42
  go_wp2_with (go_at_call 38; refine hcall.mono ?_; rintro e w1 ⟨tv, rfl, hb, hr, hk⟩)
  go_ret
  exact ⟨rfl, hr, hk⟩

set_option maxHeartbeats 400000 in
theorem U8_any {w : World} {r g : Nat} {xs : List Int} {pl f : Nat} (R : Rdr w r g xs pl f) (y : Took) (hy : Hid (y = takeL xs pl f 0 1 0)) :
    Calls Tryd.prog 28 #[.pointer (some ⟨r, 0, none⟩)] w fun e w' => e = .returned (.int .u8 y.n) ∧ Rdr w' r g xs y.pl y.f ∧ Kept [r] w w' := by
  have hcall := take_any w r g xs pl f 0 1 0 R (by decide) (by decide) (by decide) y hy
  have hb := take_lt xs R.oct pl f 1
  have hb0 : 0 ≤ y.n := by rw [hy.out]; exact hb.1
  have hb1 : y.n < 256 := by rw [hy.out]; exact hb.2
  clear R hy hb
  go_enter Tryd.func28, Tryd.ntmps28
  go_wp2_with (go_at_call 38; refine hcall.mono ?_; rintro e w1 ⟨tv, rfl, hb, hr, hk⟩)
  go_ret
  exact ⟨rfl, hr, hk⟩

end Go.Proofs.YtpdlnmjnpodicaaDoor
