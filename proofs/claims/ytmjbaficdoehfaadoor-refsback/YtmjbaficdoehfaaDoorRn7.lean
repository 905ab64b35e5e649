/-
  WALKS: satchellaw14's num, right.
-/
import Derived.Test.YtmjbaficdoehfaaDoorRn5
import Derived.Test.YtmjbaficdoehfaaDoorTabK2
import Derived.Deep.RegionWith
namespace Go.Proofs.YtmjbaficdoehfaaDoor
open Go.RowKit

set_option maxHeartbeats 1000000 in
theorem num14_any (n : Int) (w : World) : Calls Tryd.prog 10 #[.int .i64 n] w fun e w' => e = .returned (.int .i64 n) ∧ w' = w := by
  go_enter Tryd.func10, Tryd.ntmps10
  go_wp2
  go_ret
  exact ⟨rfl, rfl⟩
theorem good_headsa : checkB [104, 101, 97, 100, 115, 47, 97] = true := by kernel_rfl
theorem bad_slashes : checkB [97, 47, 47, 98] = false := by kernel_rfl
set_option maxHeartbeats 1000000 in
theorem right14_any (w : World) (hT : Tabs w) : Calls Tryd.prog 7 #[] w fun e w' => e = .returned (.bool true) ∧ Kept [] w w' := by
  have h1 : Calls Tryd.prog 11 #[.string ⟨#[104, 101, 97, 100, 115, 47, 97]⟩] w fun e w' => e = .returned (.int .i64 0) ∧ Kept [] w w' := by
    have h := Check_any [104, 101, 97, 100, 115, 47, 97] (fun u hu => by simp at hu; omega) (by decide) w hT
    rw [good_headsa, if_pos rfl] at h
    exact h
  have H2 : Hid (∀ W, Kept [] w W → Calls Tryd.prog 11 #[.string ⟨#[97, 47, 47, 98]⟩] W fun e w' => e = .returned (.int .i64 140) ∧ Kept [] W w') := fun W k => by
    have h := Check_any [97, 47, 47, 98] (fun u hu => by simp at hu; omega) (by decide) W (hT.kept k)
    rw [bad_slashes, if_neg (by decide)] at h
    exact h
  clear hT
  go_enter Tryd.func7, Tryd.ntmps7
  go_wp2_with fail
  go_at_call 11
  refine h1.mono ?_
  rintro e w1 ⟨rfl, k1⟩
  have h2 := H2.out w1 k1
  have HK1 : Hid (Kept [] w w1) := k1
  clear h1 k1
  go_wp2_with (first
    | (go_at_call 10; refine (num14_any _ _).mono ?_; rintro e w9 ⟨rfl, hw9⟩; subst w9)
    | (go_at_call 11; refine h2.mono ?_; rintro e w2 ⟨rfl, k2⟩))
  go_ret
  exact ⟨rfl, HK1.out.then k2⟩

end Go.Proofs.YtmjbaficdoehfaaDoor
