/-
  WALK: refs.parseRule.
-/
import Derived.Test.YtbdkalicgpdbkaaDoorRr3
import Derived.Test.YtbdkalicgpdbkaaDoorRr9
namespace Go.Proofs.YtbdkalicgpdbkaaDoor
open Go.RowKit

set_option maxRecDepth 100000 in
set_option maxHeartbeats 4000000 in
set_option linter.unusedSimpArgs false in
theorem parse_neg (p : List Int) (ho : Octs p) (hl : p.length ≤ 1100000) (w : World) (hT : Tabs w) (hM : MaxW w) :
    Calls Tryd.prog 32 #[.string (strOfNums (94 :: p))] w fun e w' => e = .returned (.tuple #[.agg #[.string (strOfNums p), .string ⟨#[]⟩, .bool false, .bool true], .bool (sideL p)]) ∧ Kept [] w w' := by
  obtain ⟨W1, hW1⟩ : ∃ W1, W1 = w.alloc (.cells #[.string ⟨#[]⟩, .string ⟨#[]⟩, .bool false, .bool false] 37) := ⟨_, rfl⟩
  have HW1 : Hid (W1 = w.alloc (.cells #[.string ⟨#[]⟩, .string ⟨#[]⟩, .bool false, .bool false] 37)) := hW1
  have hb0 : W1.heap[w.heap.size]? = some (.cells #[.string ⟨#[]⟩, .string ⟨#[]⟩, .bool false, .bool false] 37 (0, 0)) := by rw [hW1]; exact heap_alloc_new w _
  have k1 : Kept [] w W1 := by rw [hW1]; exact (Kept.refl _ _).alloc _
  have HRB : Hid (RB w W1) := ⟨k1, _, hb0, rfl⟩
  have ho2 : Octs (94 :: p) := fun u hu => by
    rcases List.mem_cons.1 hu with rfl | h
    · omega
    · exact ho u h
  have HCP : Hid (∀ W, Calls Tryd.prog 49 #[.string (strOfNums (94 :: p)), .string ⟨#[94]⟩] W fun e w' => e = .returned (.tuple #[.string (strOfNums p), .bool true]) ∧ W = w') := fun W => by
    have h := CutP_any (94 :: p) [94] ho2 (fun u hu => by simp at hu; omega) W
    rw [show strOfNums [94] = (⟨#[94]⟩ : ByteArray) by kernel_rfl, show ([94] : List Int).isPrefixOf (94 :: p) = true by simp [List.isPrefixOf]] at h
    exact h.mono fun e w' h => ⟨h.1, h.2.symm⟩
  have HIS : Hid (∀ W, Kept [] w W → Calls Tryd.prog 50 #[.string (strOfNums p)] W fun e w' => e = .returned (.bool (sideL p)) ∧ Kept [] W w') := fun W k => isSide_any p ho (by omega) W (hT.kept k) (hM.kept k)
  clear ho ho2 hT hM hb0 k1 hW1
  generalize sideL p = b at *
  generalize strOfNums (94 :: p) = SW at *
  generalize strOfNums p = SP at *
  go_enter Tryd.func32, Tryd.ntmps32
  go_wp2_with (first
    | (go_at_call 49; with_reducible refine (HCP.out _).mono ?_; rintro e w9 ⟨rfl, rfl⟩)
    | (go_at_call 50; refine (HIS.out _ (by rw [← HW1.out]; exact HRB.out.1)).mono ?_
       rintro e w2 ⟨rfl, k2⟩
       have HR2 : Hid (RB w w2) := (by rw [← HW1.out] at k2; exact RB.then HRB.out k2)
       clear k2)
    | (with_reducible refine wpList_step ?_
       intro K hK
       rw [if_pos (by kernel_rfl)]
       obtain ⟨cs, hcs, hc4⟩ := HR2.out.2
       refine wp_store_row 37 (.tmp 2) (.tmp 18) rfl w.heap.size #[.string SP, .string ⟨#[]⟩, .bool false, .bool true] rfl rfl 37 cs hcs (by kernel_rfl) hc4 (by simp [Value.oneCell']) ?_
       refine hK _ _ ?_
       clear hK K
       have hbF := setRow_heap (cs' := #[.string SP, .string ⟨#[]⟩, .bool false, .bool true]) hcs
       have hkF : Kept [] w (w2.setRow w.heap.size #[.string SP, .string ⟨#[]⟩, .bool false, .bool true]) := (RB.set HR2.out _ rfl).1
       generalize hWF : World.setRow _ w.heap.size #[.string SP, .string ⟨#[]⟩, .bool false, .bool true] = WF at *
       have c0 : WF.cell? ⟨w.heap.size, 0, none⟩ = some (.string SP) := (by rw [cell_of_row _ _ _ _ _ _ hbF]; rfl)
       have c1 : WF.cell? ⟨w.heap.size, 1, none⟩ = some (.string ⟨#[]⟩) := (by rw [cell_of_row _ _ _ _ _ _ hbF]; rfl)
       have c2' : WF.cell? ⟨w.heap.size, 2, none⟩ = some (.bool false) := (by rw [cell_of_row _ _ _ _ _ _ hbF]; rfl)
       have c3 : WF.cell? ⟨w.heap.size, 3, none⟩ = some (.bool true) := (by rw [cell_of_row _ _ _ _ _ _ hbF]; rfl)
       have HKF : Hid (Kept [] w WF) := hkF
       clear hbF hkF hcs hc4 hWF))
  exact bodyPost_ret (v := .tuple #[.agg #[.string SP, .string ⟨#[]⟩, .bool false, .bool true], .bool b]) (by simp [results, Tryd.results32, go_sem, *]) rfl ⟨rfl, HKF.out⟩
end Go.Proofs.YtbdkalicgpdbkaaDoor
