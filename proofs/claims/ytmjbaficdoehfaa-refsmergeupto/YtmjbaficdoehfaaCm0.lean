/-
  WALK: satchelref0.CmpID: which of two ids is first.
-/
import Derived.Test.YtmjbaficdoehfaaCmpZ
import Derived.Test.YtmjbaficdoehfaaCmpB
import Derived.Test.YtmjbaficdoehfaaId0
import Derived.Test.YtmjbaficdoehfaaQuiet
namespace Go.Proofs.Ytmjbaficdoehfaa
open Go.RowKit

theorem cmpZ_cmpB : ∀ xs ys : List Int, cmpZ xs ys = cmpB xs ys
  | [], [] => rfl
  | [], _ :: _ => rfl
  | _ :: _, [] => rfl
  | a :: x, b :: y => by
    unfold cmpZ cmpB
    rw [cmpZ_cmpB x y]
set_option maxRecDepth 100000 in
set_option maxHeartbeats 2000000 in
theorem CmpID_any (xs ys : List Int) (w : World) (hx : GoodID xs) (hy : GoodID ys) : Calls Try.prog 8 #[.agg (idC xs), .agg (idC ys)] w fun e w' => e = .returned (.int .i64 (cmpZ xs ys)) ∧ Kept [] w w' := by
  obtain ⟨W1, hW1⟩ : ∃ W1, W1 = w.alloc (.cells (idC xs) 29) := ⟨_, rfl⟩
  obtain ⟨W2, hW2⟩ : ∃ W2, W2 = W1.alloc (.cells (idC ys) 29) := ⟨_, rfl⟩
  have HW1 : Hid (W1 = w.alloc (.cells (idC xs) 29)) := hW1
  have HW2 : Hid (W2 = W1.alloc (.cells (idC ys) 29)) := hW2
  have k1 : Kept [] w W1 := by rw [hW1]; exact (Kept.refl _ _).alloc _
  have k2 : Kept [] W1 W2 := by rw [hW2]; exact (Kept.refl _ _).alloc _
  have HK : Hid (Kept [] w W2) := k1.then k2
  have b1 : BytesAt W2 (.slice (some ⟨w.heap.size, 0, none⟩) 32 32) xs := by
    have h := BytesAt.row (w := W2) (g := w.heap.size) (ys := xs) (zs := []) (t := 29) (by rw [List.append_nil]; exact k2.heap (by rw [hW1]; exact heap_alloc_new w _) (by simp)) 32 (by rw [hx.1]; decide)
    rwa [hx.1] at h
  have hs1 : W1.heap.size = w.heap.size + 1 := by rw [hW1]; exact World.size_alloc _ _
  have b2 : BytesAt W2 (.slice (some ⟨w.heap.size + 1, 0, none⟩) 32 32) ys := by
    have h := BytesAt.row (w := W2) (g := W1.heap.size) (ys := ys) (zs := []) (t := 29) (by rw [List.append_nil, hW2]; exact heap_alloc_new W1 _) 32 (by rw [hy.1]; decide)
    rwa [hy.1, hs1] at h
  obtain ⟨r, hr⟩ : ∃ r, r = cmpZ xs ys := ⟨_, rfl⟩
  have HCM : Hid (∀ W, Kept [] W2 W → Calls Try.prog 15 #[.slice (some ⟨w.heap.size, 0, none⟩) 32 32, .slice (some ⟨w.heap.size + 1, 0, none⟩) 32 32] W fun e w' => e = .returned (.int .i64 r) ∧ Kept [] W2 w') := fun W q => by
    rw [hr]
    refine (CmpZ_any (b1.kept' q (fun _ _ _ => by simp)) (b2.kept' q (fun _ _ _ => by simp)) (by rw [hx.1]; decide) (by rw [hy.1]; decide)).mono ?_
    rintro e w' ⟨h1, m, h2⟩
    exact ⟨h1, by rw [h2]; exact q.drewN m⟩
  have hz1 : (idC xs).size = 32 := idC_size hx.1
  have hz2 : (idC ys).size = 32 := idC_size hy.1
  rw [← hr]
  clear hx hy k1 k2 b1 b2 hr hW1 hW2 hs1
  go_enter Try.func8, Try.ntmps8
  go_wp2_with fail
  rw [← HW1.out, ← HW2.out]
  refine region_quiet (Kept [] W2) (by kernel_rfl) (by kernel_rfl) (Kept.refl [] W2).drew ?_
  refine quiet_val (by rfl) (.slice (some ⟨w.heap.size, 0, none⟩) 32 32) (fun W => by go_simp) ?_
  simp only [Act.put, List.setIfInBounds_toArray, List.set_cons_zero, List.set_cons_succ]
  refine quiet_val (by rfl) (.slice (some ⟨w.heap.size + 1, 0, none⟩) 32 32) (fun W => by go_simp) ?_
  simp only [Act.put, List.setIfInBounds_toArray, List.set_cons_zero, List.set_cons_succ]
  refine quiet_call (by rfl) 15 _ (.int .i64 r) (fun W => by go_simp) HCM.out ?_
  simp only [Act.put, List.setIfInBounds_toArray, List.set_cons_zero, List.set_cons_succ]
  refine quiet_assign (by rfl) (.tmp 7) rfl (.int .i64 r) rfl ?_
  simp only [Act.put, List.setIfInBounds_toArray, List.set_cons_zero, List.set_cons_succ]
  refine wpQuiet_nil fun w3 hk3 => ?_
  have HK3 : Hid (Kept [] w w3) := HK.out.then hk3
  clear hk3
  go_wp2
  go_ret
  exact ⟨rfl, HK3.out⟩
end Go.Proofs.Ytmjbaficdoehfaa
