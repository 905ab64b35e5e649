/-
  WALKS: refs.parseRule at the other words.
-/
import Derived.Test.YtbdkalicgpdbkaaDoorRr10
namespace Go.Proofs.YtbdkalicgpdbkaaDoor
open Go.RowKit

theorem RB.kp {w W : World} (h : RB w W) : Kept [] w W := h.1
theorem octs_src {p : List Int} (h : Octs p) : Octs (srcL p) := fun u hu => h u ((List.takeWhile_sublist _).subset hu)
theorem octs_dst {p : List Int} (h : Octs p) : Octs (dstL p) := fun u hu => h u ((List.dropWhile_sublist _).subset (List.mem_of_mem_tail hu))
theorem src_le (p : List Int) : (srcL p).length ≤ p.length := (List.takeWhile_sublist _).length_le
theorem dst_le (p : List Int) : (dstL p).length ≤ p.length := Nat.le_trans (by unfold dstL; rw [List.length_tail]; omega) (List.dropWhile_sublist (fun b => decide (b ≠ 58))).length_le
theorem no_col : ∀ {p : List Int}, colB p = false → srcL p = p ∧ dstL p = []
  | [], _ => ⟨rfl, rfl⟩
  | b :: t, h => by
    unfold colB at h
    have h0 := of_decide_eq_false h
    have hb : b ≠ 58 := fun e => h0 (by simp [e])
    have ht : colB t = false := decide_eq_false fun e => h0 (List.mem_cons_of_mem _ e)
    obtain ⟨i1, i2⟩ := no_col ht
    have hd : decide (b ≠ 58) = true := decide_eq_true hb
    constructor
    · unfold srcL at i1 ⊢
      rw [List.takeWhile_cons, if_pos hd, i1]
    · unfold dstL at i2 ⊢
      rw [List.dropWhile_cons, if_pos hd, i2]
theorem cut_parts (p : List Int) (ho : Octs p) (hl : p.length ≤ 1100000) (W : World) : Calls Tryd.prog 51 #[.string (strOfNums p), .string ⟨#[58]⟩] W fun e w' => ∃ b, e = .returned (.tuple #[.string (strOfNums (srcL p)), .string (strOfNums (dstL p)), .bool b]) ∧ Kept [] W w' := by
  refine (CutC_any p ho (by omega) W).mono ?_
  rintro e w' ⟨rfl, n, rfl⟩
  refine ⟨colB p, ?_, (Kept.refl _ _).drewN n⟩
  cases h : colB p with
  | true => rfl
  | false => obtain ⟨h1, h2⟩ := no_col h; rw [h1, h2]; rfl
set_option maxRecDepth 100000 in
set_option maxHeartbeats 4000000 in
set_option linter.unusedSimpArgs false in
theorem parse_plus (p : List Int) (ho : Octs p) (hl : p.length ≤ 1100000) (w : World) (hT : Tabs w) (hM : MaxW w) :
    Calls Tryd.prog 32 #[.string (strOfNums (43 :: p))] w fun e w' => e = .returned (.tuple #[.agg #[.string (strOfNums (srcL p)), .string (strOfNums (dstL p)), .bool true, .bool false], .bool (pairL (srcL p) (dstL p))]) ∧ Kept [] w w' := by
  obtain ⟨W1, hW1⟩ : ∃ W1, W1 = w.alloc (.cells #[.string ⟨#[]⟩, .string ⟨#[]⟩, .bool false, .bool false] 37) := ⟨_, rfl⟩
  have HW1 : Hid (W1 = w.alloc (.cells #[.string ⟨#[]⟩, .string ⟨#[]⟩, .bool false, .bool false] 37)) := hW1
  have hb0 : W1.heap[w.heap.size]? = some (.cells #[.string ⟨#[]⟩, .string ⟨#[]⟩, .bool false, .bool false] 37 (0, 0)) := by rw [hW1]; exact heap_alloc_new w _
  have k1 : Kept [] w W1 := by rw [hW1]; exact (Kept.refl _ _).alloc _
  have HRB : Hid (RB w W1) := ⟨k1, _, hb0, rfl⟩
  have ho2 : Octs (43 :: p) := fun u hu => by
    rcases List.mem_cons.1 hu with rfl | h
    · omega
    · exact ho u h
  have hp94 : ([94] : List Int).isPrefixOf (43 :: p) = false := by simp [List.isPrefixOf]
  have hp43 : ([43] : List Int).isPrefixOf (43 :: p) = true := by simp [List.isPrefixOf]
  have HCP : Hid (∀ W, Calls Tryd.prog 49 #[.string (strOfNums (43 :: p)), .string ⟨#[94]⟩] W fun e w' => e = .returned (.tuple #[.string (strOfNums (43 :: p)), .bool false]) ∧ W = w') := fun W => by
    have h := CutP_any (43 :: p) [94] ho2 (fun u hu => by simp at hu; omega) W
    rw [show strOfNums [94] = (⟨#[94]⟩ : ByteArray) by kernel_rfl, hp94] at h
    exact h.mono fun e w' h => ⟨h.1, h.2.symm⟩
  have HCF : Hid (∀ W, Calls Tryd.prog 49 #[.string (strOfNums (43 :: p)), .string ⟨#[43]⟩] W fun e w' => e = .returned (.tuple #[.string (strOfNums p), .bool true]) ∧ W = w') := fun W => by
    have h := CutP_any (43 :: p) [43] ho2 (fun u hu => by simp at hu; omega) W
    rw [show strOfNums [43] = (⟨#[43]⟩ : ByteArray) by kernel_rfl, hp43] at h
    exact h.mono fun e w' h => ⟨h.1, h.2.symm⟩
  have HCC : Hid (∀ W, Calls Tryd.prog 51 #[.string (strOfNums p), .string ⟨#[58]⟩] W fun e w' => ∃ b, e = .returned (.tuple #[.string (strOfNums (srcL p)), .string (strOfNums (dstL p)), .bool b]) ∧ Kept [] W w') := fun W => (cut_parts p ho hl W)
  have hos := octs_src ho
  have hod := octs_dst ho
  have hsl := src_le p
  have hdl := dst_le p
  have HSS : Hid (∀ W, Kept [] w W → Calls Tryd.prog 50 #[.string (strOfNums (srcL p))] W fun e w' => e = .returned (.bool (sideL (srcL p))) ∧ Kept [] W w') := fun W k => isSide_any _ hos (by omega) W (hT.kept k) (hM.kept k)
  have HSD : Hid (∀ W, Kept [] w W → Calls Tryd.prog 50 #[.string (strOfNums (dstL p))] W fun e w' => e = .returned (.bool (sideL (dstL p))) ∧ Kept [] W w') := fun W k => isSide_any _ hod (by omega) W (hT.kept k) (hM.kept k)
  have HTS : Hid (∀ W, Calls Tryd.prog 42 #[.string (strOfNums (srcL p))] W fun e w' => e = .returned (.bool (starB (srcL p))) ∧ W = w') := fun W => (hasStar_any _ hos W).mono fun e w' h => ⟨h.1, h.2.symm⟩
  have HTD : Hid (∀ W, Calls Tryd.prog 42 #[.string (strOfNums (dstL p))] W fun e w' => e = .returned (.bool (starB (dstL p))) ∧ W = w') := fun W => (hasStar_any _ hod W).mono fun e w' h => ⟨h.1, h.2.symm⟩
  have hpl : pairL (srcL p) (dstL p) = (sideL (srcL p) && sideL (dstL p) && (starB (srcL p) == starB (dstL p))) := rfl
  rw [hpl]
  clear hpl hos hod hsl hdl ho ho2 hp94 hp43 hT hM hb0 k1 hW1
  generalize sideL (srcL p) = gs at *
  generalize sideL (dstL p) = gd at *
  generalize starB (srcL p) = bs at *
  generalize starB (dstL p) = bd at *
  generalize strOfNums (srcL p) = SS at *
  generalize strOfNums (dstL p) = SD at *
  generalize strOfNums (43 :: p) = SW at *
  generalize strOfNums p = SP at *
  cases gs <;> cases gd <;> cases bs <;> cases bd
  all_goals
    go_enter Tryd.func32, Tryd.ntmps32
    go_wp2_with (first
      | (go_at_call 49; (first | (with_reducible refine (HCP.out _).mono ?_) | (with_reducible refine (HCF.out _).mono ?_)); rintro e w9 ⟨rfl, rfl⟩)
      | (go_at_call 51; refine (HCC.out _).mono ?_; rintro e w2 ⟨b, rfl, k2⟩
         have HR2 : Hid (RB w w2) := (by rw [← HW1.out] at k2; exact RB.then HRB.out k2)
         clear k2)
      | (go_at_call 50; with_reducible refine (HSS.out _ (RB.kp HR2.out)).mono ?_
         rintro e w3 ⟨rfl, k3⟩
         have HR3 : Hid (RB w w3) := RB.then HR2.out k3
         clear k3)
      | (go_at_call 50; with_reducible refine (HSD.out _ (RB.kp HR3.out)).mono ?_
         rintro e w4 ⟨rfl, k4⟩
         have HR4 : Hid (RB w w4) := RB.then HR3.out k4
         clear k4)
      | (go_at_call 42; (first | (with_reducible refine (HTS.out _).mono ?_) | (with_reducible refine (HTD.out _).mono ?_)); rintro e w9 ⟨rfl, rfl⟩)
      | (with_reducible refine wpList_step ?_
         intro K hK
         rw [if_pos (by kernel_rfl)]
         have hRr := HR4.out
         obtain ⟨cs, hcs, hc4⟩ := hRr.2
         refine wp_store_row 37 (.tmp 2) (.tmp 35) rfl w.heap.size #[.string SS, .string SD, .bool true, .bool false] rfl rfl 37 cs hcs (by kernel_rfl) hc4 (by simp [Value.oneCell']) ?_
         refine hK _ _ ?_
         clear hK K
         have hbF := setRow_heap (cs' := #[.string SS, .string SD, .bool true, .bool false]) hcs
         have hkF := (RB.set hRr #[.string SS, .string SD, .bool true, .bool false] rfl).1
         generalize hWF : World.setRow _ w.heap.size #[.string SS, .string SD, .bool true, .bool false] = WF at *
         have c0 : WF.cell? ⟨w.heap.size, 0, none⟩ = some (.string SS) := (by rw [cell_of_row _ _ _ _ _ _ hbF]; rfl)
         have c1 : WF.cell? ⟨w.heap.size, 1, none⟩ = some (.string SD) := (by rw [cell_of_row _ _ _ _ _ _ hbF]; rfl)
         have c2' : WF.cell? ⟨w.heap.size, 2, none⟩ = some (.bool true) := (by rw [cell_of_row _ _ _ _ _ _ hbF]; rfl)
         have c3 : WF.cell? ⟨w.heap.size, 3, none⟩ = some (.bool false) := (by rw [cell_of_row _ _ _ _ _ _ hbF]; rfl)
         have HKF : Hid (Kept [] w WF) := hkF
         clear hbF hkF hcs hc4 hWF hRr)
      | (with_reducible refine wpList_step ?_
         intro K hK
         rw [if_pos (by kernel_rfl)]
         have hRr := HR3.out
         obtain ⟨cs, hcs, hc4⟩ := hRr.2
         refine wp_store_row 37 (.tmp 2) (.tmp 35) rfl w.heap.size #[.string SS, .string SD, .bool true, .bool false] rfl rfl 37 cs hcs (by kernel_rfl) hc4 (by simp [Value.oneCell']) ?_
         refine hK _ _ ?_
         clear hK K
         have hbF := setRow_heap (cs' := #[.string SS, .string SD, .bool true, .bool false]) hcs
         have hkF := (RB.set hRr #[.string SS, .string SD, .bool true, .bool false] rfl).1
         generalize hWF : World.setRow _ w.heap.size #[.string SS, .string SD, .bool true, .bool false] = WF at *
         have c0 : WF.cell? ⟨w.heap.size, 0, none⟩ = some (.string SS) := (by rw [cell_of_row _ _ _ _ _ _ hbF]; rfl)
         have c1 : WF.cell? ⟨w.heap.size, 1, none⟩ = some (.string SD) := (by rw [cell_of_row _ _ _ _ _ _ hbF]; rfl)
         have c2' : WF.cell? ⟨w.heap.size, 2, none⟩ = some (.bool true) := (by rw [cell_of_row _ _ _ _ _ _ hbF]; rfl)
         have c3 : WF.cell? ⟨w.heap.size, 3, none⟩ = some (.bool false) := (by rw [cell_of_row _ _ _ _ _ _ hbF]; rfl)
         have HKF : Hid (Kept [] w WF) := hkF
         clear hbF hkF hcs hc4 hWF hRr))
    first
      | exact bodyPost_ret (v := .tuple #[.agg #[.string SS, .string SD, .bool true, .bool false], .bool false]) (by simp [results, Tryd.results32, go_sem, *]) rfl ⟨rfl, HKF.out⟩
      | exact bodyPost_ret (v := .tuple #[.agg #[.string SS, .string SD, .bool true, .bool false], .bool true]) (by simp [results, Tryd.results32, go_sem, *]) rfl ⟨rfl, HKF.out⟩
end Go.Proofs.YtbdkalicgpdbkaaDoor
