/-
  WALK: satchelref14.rule: one word.
-/
import Derived.Test.YtbdkalicgpdbkaaDoorRr2
import Derived.Test.YtbdkalicgpdbkaaDoorTkP
namespace Go.Proofs.YtbdkalicgpdbkaaDoor
open Go.RowKit

/-- The block of the answer, beside the old world. -/
def RB (w W : World) : Prop := Kept [] w W ∧ ∃ cs, W.heap[w.heap.size]? = some (.cells cs 37 (0, 0)) ∧ cs.size = 4
theorem RB.then {w W V : World} (h : RB w W) (k : Kept [] W V) : RB w V := by
  obtain ⟨h1, cs, h2, h3⟩ := h
  exact ⟨h1.then k, cs, k.heap h2 (by simp), h3⟩
theorem setRow_heap {W : World} {g : Nat} {cs cs' : Array Value} {t : TypeId} {fr : Nat × Nat} (h : W.heap[g]? = some (.cells cs t fr)) : (W.setRow g cs').heap[g]? = some (.cells cs' t fr) := by
  show (W.heap.modify g _)[g]? = _
  rw [Array.getElem?_modify, if_pos rfl, h]
  rfl
theorem RB.set {w W : World} (h : RB w W) (cs : Array Value) (hs : cs.size = 4) : RB w (W.setRow w.heap.size cs) := by
  obtain ⟨h1, cs0, h2, h3⟩ := h
  exact ⟨kept_setRow h1 (Nat.le_refl _) cs, cs, setRow_heap h2, hs⟩
set_option maxRecDepth 100000 in
set_option maxHeartbeats 4000000 in
set_option linter.unusedSimpArgs false in
theorem rule14_neg (p : List Int) (ho : Octs p) (hl : p.length ≤ 1100000) (w : World) :
    Calls Tryd.prog 34 #[.string (strOfNums (94 :: p))] w fun e w' => e = .returned (.tuple #[.agg #[.string (strOfNums p), .string ⟨#[]⟩, .bool false, .bool true], .bool (sideL p)]) ∧ Kept [] w w' := by
  obtain ⟨W1, hW1⟩ : ∃ W1, W1 = w.alloc (.cells #[.string ⟨#[]⟩, .string ⟨#[]⟩, .bool false, .bool false] 37) := ⟨_, rfl⟩
  have HW1 : Hid (W1 = w.alloc (.cells #[.string ⟨#[]⟩, .string ⟨#[]⟩, .bool false, .bool false] 37)) := hW1
  have hb0 : W1.heap[w.heap.size]? = some (.cells #[.string ⟨#[]⟩, .string ⟨#[]⟩, .bool false, .bool false] 37 (0, 0)) := by rw [hW1]; exact heap_alloc_new w _
  have k1 : Kept [] w W1 := by rw [hW1]; exact (Kept.refl _ _).alloc _
  have HBK : Hid (∀ W, Kept [] W1 W → W.heap[w.heap.size]? = some (.cells #[.string ⟨#[]⟩, .string ⟨#[]⟩, .bool false, .bool false] 37 (0, 0))) := fun W k => k.heap hb0 (by simp)
  have ho2 : Octs (94 :: p) := fun u hu => by
    rcases List.mem_cons.1 hu with rfl | h
    · omega
    · exact ho u h
  have hix : ∀ W, (Instr.index 9 (.string (strOfNums (94 :: p))) (.int .i64 0)).run Tryd.prog W = .ok (.int .u8 94) W := fun W => str_ix (94 :: p) ho2 0 (by simp) W
  have hsz : (strOfNums (94 :: p)).size = p.length + 1 := strOfNums_size (94 :: p)
  have hex : (strOfNums (94 :: p)).extract 1 (p.length + 1) = strOfNums p := by
    rw [str_sub (94 :: p) 1 (p.length + 1)]
    congr 1
    simp
  have hx120 : strOfNums [120] = (⟨#[120]⟩ : ByteArray) := by kernel_rfl
  have HPUT : Hid (∀ W, Calls Tryd.prog 38 #[.string (strOfNums p), .string ⟨#[120]⟩] W fun e w' => e = .returned (.string (strOfNums (fillL p [120]))) ∧ ∃ n, w' = W.drewN n) := fun W => by
    have h := Put_any p [120] ho (by omega) (by decide) W
    rw [hx120] at h
    exact h
  have hfo : Octs (fillL p [120]) := octs_put ho (fun u hu => by simp at hu; omega)
  have hfl : (fillL p [120]).length ≤ p.length + 1 := by
    cases h : starB p with
    | true => have := put_len p [120] h; simp at this; omega
    | false => rw [put_no p [120] h]; omega
  have HGOOD : Hid (∀ W, Calls Tryd.prog 35 #[.string (strOfNums (fillL p [120]))] W fun e w' => e = .returned (.bool (sideL p)) ∧ Kept [] W w') := fun W => Good_wide (fillL p [120]) hfo (by omega) W
  have hb1 : W1.drew.heap[w.heap.size]? = some (.cells #[.string ⟨#[]⟩, .string ⟨#[]⟩, .bool false, .bool false] 37 (0, 0)) := hb0
  clear ho ho2 hb0 hW1 hfo hfl hx120
  obtain ⟨SF, hSF⟩ : ∃ SF, SF = strOfNums (fillL p [120]) := ⟨_, rfl⟩
  rw [← hSF] at HPUT HGOOD
  clear hSF
  obtain ⟨SP, hSP⟩ : ∃ SP, SP = strOfNums p := ⟨_, rfl⟩
  rw [← hSP] at HPUT hex ⊢
  clear hSP
  obtain ⟨SW, hSW⟩ : ∃ SW, SW = strOfNums (94 :: p) := ⟨_, rfl⟩
  rw [← hSW] at hix hsz hex ⊢
  clear hSW
  have hneg : ¬ ((p.length : Int) + 1 < 1) := by omega
  have HRB : Hid (RB w W1.drew) := ⟨k1.drew, _, hb1, rfl⟩
  clear hb1 HBK k1
  go_enter Tryd.func34, Tryd.ntmps34
  go_wp2_with fail
  rw [← HW1.out]
  refine wp_region_held_drew (S := RB w) (by kernel_rfl) HRB.out (fun hHeld => ?_)
  refine takeP 0 (v := .string SW) (some 11) #[true, false, false, false, false, false, false, false, false] rfl rfl rfl (by kernel_rfl) (by kernel_rfl) (by kernel_rfl) (fun _ _ _ h => h) (Or.inl ⟨by rfl, fun W hSW => by go_simp⟩) hHeld ?_
  simp only [Act.put, List.setIfInBounds_toArray, List.set_cons_zero, List.set_cons_succ]
  refine takeP 1 (v := .string SP) (some 12) #[true, true, false, false, false, false, false, false, false] rfl rfl rfl (by kernel_rfl) (by kernel_rfl) (by kernel_rfl) (fun _ _ _ h => h) (Or.inl ⟨by rfl, fun W hSW => by go_simp⟩) hHeld ?_
  simp only [Act.put, List.setIfInBounds_toArray, List.set_cons_zero, List.set_cons_succ]
  refine takeP 2 (v := .agg #[.string SP, .string ⟨#[]⟩, .bool false, .bool true]) (some 13) #[true, true, true, false, false, false, false, false, false] rfl rfl rfl (by kernel_rfl) (by kernel_rfl) (by kernel_rfl) (fun _ _ _ h => h) (Or.inl ⟨by rfl, fun W hSW => by go_simp⟩) hHeld ?_
  simp only [Act.put, List.setIfInBounds_toArray, List.set_cons_zero, List.set_cons_succ]
  refine takeP 3 (v := .string SW) (some 14) #[true, true, true, true, false, false, false, false, false] rfl rfl rfl (by kernel_rfl) (by kernel_rfl) (by kernel_rfl) (fun _ _ _ h => h) (Or.inl ⟨by rfl, fun W hSW => by go_simp⟩) hHeld ?_
  simp only [Act.put, List.setIfInBounds_toArray, List.set_cons_zero, List.set_cons_succ]
  refine takeP 4 (v := .string SP) (some 15) #[true, true, true, true, true, false, false, false, false] rfl rfl rfl (by kernel_rfl) (by kernel_rfl) (by kernel_rfl) (fun _ _ _ h => h) (Or.inl ⟨by rfl, fun W hSW => by go_simp⟩) hHeld ?_
  simp only [Act.put, List.setIfInBounds_toArray, List.set_cons_zero, List.set_cons_succ]
  refine wpAnyH_ready (rs := [5]) (by kernel_rfl) (by simp) (AllReadyH.cons rfl (fun K hK => ?_) AllReadyH.nil)
  rw [if_pos (by kernel_rfl)]
  refine wp_call_ret 38 #[.string SP, .string ⟨#[120]⟩] (by go_simp) ?_
  refine (HPUT.out _).mono ?_
  rintro e w2 ⟨rfl, m, hw2⟩
  refine ⟨_, rfl, hK.out _ _ (by rw [hw2]; exact ⟨hHeld.1.drewN m, hHeld.2⟩) (fun hHeld => ?_)⟩
  clear hK K
  simp only [Act.put, List.getElem_toArray, List.getElem_cons_succ, List.getElem_cons_zero, List.setIfInBounds_toArray, List.set_cons_zero, List.set_cons_succ]
  refine wpAnyH_ready (rs := [6]) (by kernel_rfl) (by simp) (AllReadyH.cons rfl (fun K hK => ?_) AllReadyH.nil)
  rw [if_pos (by kernel_rfl)]
  refine wp_call_ret 35 #[.string SF] (by go_simp) ?_
  refine (HGOOD.out _).mono ?_
  rintro e w3 ⟨rfl, k3⟩
  refine ⟨_, rfl, hK.out _ _ (RB.then hHeld k3) (fun hHeld => ?_)⟩
  clear hK K
  simp only [Act.put, List.getElem_toArray, List.getElem_cons_succ, List.getElem_cons_zero, List.setIfInBounds_toArray, List.set_cons_zero, List.set_cons_succ]
  refine wpAnyH_ready (rs := [7]) (by kernel_rfl) (by simp) (AllReadyH.cons rfl (fun K hK => ?_) AllReadyH.nil)
  rw [if_pos (by kernel_rfl)]
  obtain ⟨cs, hcs, hc4⟩ := hHeld.2
  have hKe : Kept [] w w3 := hHeld.1
  refine wp_store_row 37 (.tmp 2) (.tmp 13) rfl w.heap.size #[.string SP, .string ⟨#[]⟩, .bool false, .bool true] rfl rfl 37 cs hcs (by kernel_rfl) hc4 (by simp [Value.oneCell']) ?_
  refine hK.out _ _ (RB.set hHeld #[.string SP, .string ⟨#[]⟩, .bool false, .bool true] rfl) (fun hHeld => ?_)
  clear hK K
  simp only [Act.put, List.getElem_toArray, List.getElem_cons_succ, List.getElem_cons_zero, List.setIfInBounds_toArray, List.set_cons_zero, List.set_cons_succ]
  refine takeP 8 (v := .bool (sideL p)) (some 3) #[true, true, true, true, true, true, true, true, true] rfl rfl rfl (by kernel_rfl) (by kernel_rfl) (by kernel_rfl) (fun _ _ _ h => h) (Or.inl ⟨by rfl, fun W hSW => by go_simp⟩) hHeld ?_
  simp only [Act.put, List.setIfInBounds_toArray, List.set_cons_zero, List.set_cons_succ]
  refine wpAnyH_done (by kernel_rfl) ?_ _
  have hbF : (w3.setRow w.heap.size #[.string SP, .string ⟨#[]⟩, .bool false, .bool true]).heap[w.heap.size]? = some (.cells #[.string SP, .string ⟨#[]⟩, .bool false, .bool true] 37 (0, 0)) := setRow_heap hcs
  have c0 : (w3.setRow w.heap.size #[.string SP, .string ⟨#[]⟩, .bool false, .bool true]).cell? ⟨w.heap.size, 0, none⟩ = some (.string SP) := by rw [cell_of_row _ _ _ _ _ _ hbF]; rfl
  have c1 : (w3.setRow w.heap.size #[.string SP, .string ⟨#[]⟩, .bool false, .bool true]).cell? ⟨w.heap.size, 1, none⟩ = some (.string ⟨#[]⟩) := by rw [cell_of_row _ _ _ _ _ _ hbF]; rfl
  have c2 : (w3.setRow w.heap.size #[.string SP, .string ⟨#[]⟩, .bool false, .bool true]).cell? ⟨w.heap.size, 2, none⟩ = some (.bool false) := by rw [cell_of_row _ _ _ _ _ _ hbF]; rfl
  have c3 : (w3.setRow w.heap.size #[.string SP, .string ⟨#[]⟩, .bool false, .bool true]).cell? ⟨w.heap.size, 3, none⟩ = some (.bool true) := by rw [cell_of_row _ _ _ _ _ _ hbF]; rfl
  have HKF : Hid (Kept [] w (w3.setRow w.heap.size #[.string SP, .string ⟨#[]⟩, .bool false, .bool true])) := hHeld.1
  clear hbF hcs hc4 hKe hHeld
  go_wp2
  exact bodyPost_ret (v := .tuple #[.agg #[.string SP, .string ⟨#[]⟩, .bool false, .bool true], .bool (sideL p)]) (by simp [results, Tryd.results34, go_sem, *]) rfl ⟨rfl, HKF.out⟩
end Go.Proofs.YtbdkalicgpdbkaaDoor
