/-
  WALK: satchelref14.rule at words that begin with neither 94 nor 43.
-/
import Derived.Test.YtbdkalicgpdbkaaDoorRr4
namespace Go.Proofs.YtbdkalicgpdbkaaDoor
open Go.RowKit

set_option maxRecDepth 100000 in
set_option maxHeartbeats 4000000 in
set_option linter.unusedSimpArgs false in
theorem rule14_word (p : List Int) (hne : p ≠ []) (h94 : p.head? ≠ some 94) (h43 : p.head? ≠ some 43) (ho : Octs p) (hl : p.length ≤ 1100000) (w : World) :
    Calls Tryd.prog 34 #[.string (strOfNums p)] w fun e w' => ∃ r : RuleL, e = .returned (.tuple #[.agg r.row.toArray, .bool (readL p).isSome]) ∧ (∀ q, readL p = some q → r = q) ∧ Kept [] w w' := by
  have HRL : Hid (readL p = if pairL (srcL p) (dstL p) = true then some ⟨srcL p, dstL p, false, false⟩ else none) := by
    have h : readL p = if pairL (srcL p) (dstL p) = true then some ⟨srcL p, dstL p, false, false⟩ else none := by
      unfold readL
      rw [if_neg h94, if_neg h43]
    exact h
  obtain ⟨W1, hW1⟩ : ∃ W1, W1 = w.alloc (.cells #[.string ⟨#[]⟩, .string ⟨#[]⟩, .bool false, .bool false] 37) := ⟨_, rfl⟩
  have HW1 : Hid (W1 = w.alloc (.cells #[.string ⟨#[]⟩, .string ⟨#[]⟩, .bool false, .bool false] 37)) := hW1
  have hb0 : W1.heap[w.heap.size]? = some (.cells #[.string ⟨#[]⟩, .string ⟨#[]⟩, .bool false, .bool false] 37 (0, 0)) := by rw [hW1]; exact heap_alloc_new w _
  have k1 : Kept [] w W1 := by rw [hW1]; exact (Kept.refl _ _).alloc _
  have hpos : 0 < p.length := List.length_pos_iff.2 hne
  have hix : ∀ W, (Instr.index 9 (.string (strOfNums p)) (.int .i64 0)).run Tryd.prog W = .ok (.int .u8 (p.getD 0 0)) W := fun W => str_ix p ho 0 hpos W
  have hsz : (strOfNums p).size = p.length := strOfNums_size p
  obtain ⟨x, hx⟩ : ∃ x, x = p.getD 0 0 := ⟨_, rfl⟩
  have hx94 : ¬ x = 94 := by
    intro e
    cases p with
    | nil => exact hne rfl
    | cons y q => exact h94 (by rw [← e, hx]; rfl)
  have hx43 : ¬ x = 43 := by
    intro e
    cases p with
    | nil => exact hne rfl
    | cons y q => exact h43 (by rw [← e, hx]; rfl)
  rw [← hx] at hix
  have HRB : Hid (RB w W1) := ⟨k1, _, hb0, rfl⟩
  clear hx hne h94 h43 hb0 hW1 k1
  by_cases h2 : (cutC [] p).length = 2
  · obtain ⟨s, d, hc⟩ := two_of_len h2
    obtain ⟨hsr, hds⟩ := two_parts hc
    have hrd : readL (p) = if pairL s d = true then some ⟨s, d, false, false⟩ else none := by
      rw [HRL.out, hsr, hds]
    suffices hgoal : Calls Tryd.prog 34 #[.string (strOfNums (p))] w fun e w' => e = .returned (.tuple #[.agg #[.string (strOfNums s), .string (strOfNums d), .bool false, .bool false], .bool (pairL s d)]) ∧ Kept [] w w' by
      refine hgoal.mono ?_
      rintro e w' ⟨rfl, k⟩
      refine ⟨⟨s, d, false, false⟩, ?_, ?_, k⟩
      · rw [hrd]
        cases pairL s d <;> rfl
      · intro q hq
        rw [hrd] at hq
        split at hq
        · injection hq
        · cases hq
    have hsm := cutC_mem p [] s (by rw [hc]; simp)
    have hdm := cutC_mem p [] d (by rw [hc]; simp)
    have hos : Octs s := fun u hu => (hsm.2 u hu).elim (fun h => by cases h) (fun h => ho u h)
    have hod : Octs d := fun u hu => (hdm.2 u hu).elim (fun h => by cases h) (fun h => ho u h)
    have hsl : s.length ≤ 1100000 := by have := hsm.1; simp at this; omega
    have hdl : d.length ≤ 1100000 := by have := hdm.1; simp at this; omega
    have HPT : Hid (∀ W, Calls Tryd.prog 52 #[.string (strOfNums p), .int .u8 58] W fun e w' => ∃ g c, e = .returned (.slice (some ⟨g, 0, none⟩) 2 c) ∧ (∀ V, Kept [] w' V → V.cell? ⟨g, 0, none⟩ = some (.string (strOfNums s)) ∧ V.cell? ⟨g, 1, none⟩ = some (.string (strOfNums d))) ∧ Kept [] W w') := fun W => by
      refine (PartedC_any p ho hl W).mono ?_
      rintro e w2 ⟨v2, rfl, ho2, k2⟩
      rw [hc] at ho2
      obtain ⟨g, c, rfl, _, hh⟩ := ho2.form (by simp)
      refine ⟨g, c, rfl, fun V k => ⟨?_, ?_⟩, k2⟩
      · have h := hh 0 s rfl
        exact k.cell h (by simp)
      · have h := hh 1 d rfl
        exact k.cell h (by simp)
    have HPS : Hid (∀ W, Calls Tryd.prog 38 #[.string (strOfNums s), .string ⟨#[120]⟩] W fun e w' => e = .returned (.string (strOfNums (fillL s [120]))) ∧ Kept [] W w') := fun W => put_x hos hsl W
    have HPD : Hid (∀ W, Calls Tryd.prog 38 #[.string (strOfNums d), .string ⟨#[120]⟩] W fun e w' => e = .returned (.string (strOfNums (fillL d [120]))) ∧ Kept [] W w') := fun W => put_x hod hdl W
    have HGS : Hid (∀ W, Calls Tryd.prog 35 #[.string (strOfNums (fillL s [120]))] W fun e w' => e = .returned (.bool (sideL s)) ∧ Kept [] W w') := fun W => good_x hos hsl W
    have HGD : Hid (∀ W, Calls Tryd.prog 35 #[.string (strOfNums (fillL d [120]))] W fun e w' => e = .returned (.bool (sideL d)) ∧ Kept [] W w') := fun W => good_x hod hdl W
    have HTS : Hid (∀ W, Calls Tryd.prog 53 #[.string (strOfNums s)] W fun e w' => e = .returned (.int .i64 (starI s)) ∧ W = w') := fun W => (star_any s hos (by omega) W).mono fun e w' h => ⟨h.1, h.2.symm⟩
    have HTD : Hid (∀ W, Calls Tryd.prog 53 #[.string (strOfNums d)] W fun e w' => e = .returned (.int .i64 (starI d)) ∧ W = w') := fun W => (star_any d hod (by omega) W).mono fun e w' h => ⟨h.1, h.2.symm⟩
    have hIS := star_side s
    have hID := star_side d
    have hpl : pairL s d = (sideL s && sideL d && (starB s == starB d)) := rfl
    rw [hpl]
    clear hpl h2 hc hsr hds hsm hdm hos hod hsl hdl ho hrd HRL
    generalize sideL s = gs at *
    generalize sideL d = gd at *
    generalize starB s = bs at *
    generalize starB d = bd at *
    generalize starI s = IS at *
    generalize starI d = ID at *
    generalize strOfNums (fillL s [120]) = FS at *
    generalize strOfNums (fillL d [120]) = FD at *
    generalize strOfNums s = SS at *
    generalize strOfNums d = SD at *
    generalize strOfNums p = SP at *
    go_enter Tryd.func34, Tryd.ntmps34
    go_wp2_with (go_at_call 52
                 refine (HPT.out _).mono ?_
                 rintro e w2 ⟨g2, c2, rfl, hce, k2⟩
                 have HCE : Hid (∀ V, Kept [] w2 V → V.cell? ⟨g2, 0, none⟩ = some (.string SS) ∧ V.cell? ⟨g2, 1, none⟩ = some (.string SD)) := hce
                 have HR2 : Hid (RB w w2) := (by rw [← HW1.out] at k2; exact RB.then HRB.out k2)
                 have HAL : Hid ((w2.drew.alloc (.cells #[.string ⟨#[]⟩, .string ⟨#[]⟩, .bool false, .bool false] 37)).heap[w2.heap.size]? = some (.cells #[.string ⟨#[]⟩, .string ⟨#[]⟩, .bool false, .bool false] 37 (0, 0))) := heap_alloc_new w2.drew _
                 clear hce k2)
    refine wp_region_held_drew (S := fun W => RB w W ∧ Kept [] w2 W) (by kernel_rfl) ⟨⟨HR2.out.1.drew, HR2.out.2⟩, (Kept.refl [] w2).drew⟩ (fun hHeld => ?_)
    refine takeP 0 (v := .slice (some ⟨g2, 0, none⟩) 2 c2) (some 30) #[true, false, false, false, false, false, false, false, false, false] rfl rfl rfl (by kernel_rfl) (by kernel_rfl) (by kernel_rfl) (fun _ _ _ h => h) (Or.inl ⟨by rfl, fun W hSW => by go_simp⟩) hHeld ?_
    simp only [Act.put, List.setIfInBounds_toArray, List.set_cons_zero, List.set_cons_succ]
    refine takeP 1 (v := .pointer (some ⟨g2, 0, none⟩)) (some 31) #[true, true, false, false, false, false, false, false, false, false] rfl rfl rfl (by kernel_rfl) (by kernel_rfl) (by kernel_rfl) (fun _ _ _ h => h) (Or.inl ⟨by rfl, fun W hSW => by go_simp⟩) hHeld ?_
    simp only [Act.put, List.setIfInBounds_toArray, List.set_cons_zero, List.set_cons_succ]
    refine takeP 2 (v := .string SS) (some 32) #[true, true, true, false, false, false, false, false, false, false] rfl rfl rfl (by kernel_rfl) (by kernel_rfl) (by kernel_rfl) (fun _ _ _ h => h) (Or.inl ⟨by rfl, fun W hSW => by have hcc := (HCE.out W hSW.2).1; go_simp⟩) hHeld ?_
    simp only [Act.put, List.setIfInBounds_toArray, List.set_cons_zero, List.set_cons_succ]
    refine takeP 3 (v := .slice (some ⟨g2, 0, none⟩) 2 c2) (some 33) #[true, true, true, true, false, false, false, false, false, false] rfl rfl rfl (by kernel_rfl) (by kernel_rfl) (by kernel_rfl) (fun _ _ _ h => h) (Or.inl ⟨by rfl, fun W hSW => by go_simp⟩) hHeld ?_
    simp only [Act.put, List.setIfInBounds_toArray, List.set_cons_zero, List.set_cons_succ]
    refine takeP 4 (v := .pointer (some ⟨g2, 1, none⟩)) (some 34) #[true, true, true, true, true, false, false, false, false, false] rfl rfl rfl (by kernel_rfl) (by kernel_rfl) (by kernel_rfl) (fun _ _ _ h => h) (Or.inl ⟨by rfl, fun W hSW => by go_simp⟩) hHeld ?_
    simp only [Act.put, List.setIfInBounds_toArray, List.set_cons_zero, List.set_cons_succ]
    refine takeP 5 (v := .string SD) (some 35) #[true, true, true, true, true, true, false, false, false, false] rfl rfl rfl (by kernel_rfl) (by kernel_rfl) (by kernel_rfl) (fun _ _ _ h => h) (Or.inl ⟨by rfl, fun W hSW => by have hcc := (HCE.out W hSW.2).2; go_simp⟩) hHeld ?_
    simp only [Act.put, List.setIfInBounds_toArray, List.set_cons_zero, List.set_cons_succ]
    refine takeP 6 (v := .bool false) (some 36) #[true, true, true, true, true, true, true, false, false, false] rfl rfl rfl (by kernel_rfl) (by kernel_rfl) (by kernel_rfl) (fun _ _ _ h => h) (Or.inl ⟨by rfl, fun W hSW => by go_simp⟩) hHeld ?_
    simp only [Act.put, List.setIfInBounds_toArray, List.set_cons_zero, List.set_cons_succ]
    refine takeP 7 (v := .agg #[.string SS, .string SD, .bool false, .bool false]) (some 37) #[true, true, true, true, true, true, true, true, false, false] rfl rfl rfl (by kernel_rfl) (by kernel_rfl) (by kernel_rfl) (fun _ _ _ h => h) (Or.inl ⟨by rfl, fun W hSW => by go_simp⟩) hHeld ?_
    simp only [Act.put, List.setIfInBounds_toArray, List.set_cons_zero, List.set_cons_succ]
    refine wpAnyH_ready (rs := [8]) (by kernel_rfl) (by simp) (AllReadyH.cons rfl (fun K hK => ?_) AllReadyH.nil)
    rw [if_pos (by kernel_rfl)]
    go_simp
    refine hK.out _ _ ⟨RB.then hHeld.1 ((Kept.refl _ _).alloc _), hHeld.2.alloc _⟩ (fun hHeld => ?_)
    clear hK K
    simp only [Act.put, List.getElem_toArray, List.getElem_cons_succ, List.getElem_cons_zero, List.setIfInBounds_toArray, List.set_cons_zero, List.set_cons_succ]
    refine wpAnyH_ready (rs := [9]) (by kernel_rfl) (by simp) (AllReadyH.cons rfl (fun K hK => ?_) AllReadyH.nil)
    rw [if_pos (by kernel_rfl)]
    refine wp_store_row 37 (.tmp 6) (.tmp 37) rfl w2.heap.size #[.string SS, .string SD, .bool false, .bool false] rfl rfl 37 #[.string ⟨#[]⟩, .string ⟨#[]⟩, .bool false, .bool false] (HAL.out) (by kernel_rfl) rfl (by simp [Value.oneCell']) ?_
    obtain ⟨W9, hW9⟩ : ∃ W9, W9 = ((w2.alloc (.cells #[.string ⟨#[]⟩, .string ⟨#[]⟩, .bool false, .bool false] 37)).drew.setRow w2.heap.size #[.string SS, .string SD, .bool false, .bool false]) := ⟨_, rfl⟩
    have hb9 : W9.heap[w2.heap.size]? = some (.cells #[.string SS, .string SD, .bool false, .bool false] 37 (0, 0)) := by rw [hW9]; exact setRow_heap HAL.out
    have hk9 : Kept [] w2 W9 := by rw [hW9]; exact kept_setRow (((Kept.refl [] w2).alloc _).drew) (Nat.le_refl _) _
    have HR9 : Hid (RB w W9) := RB.then HR2.out hk9
    have HB9 : Hid (∀ V, Kept [] W9 V → V.heap[w2.heap.size]? = some (.cells #[.string SS, .string SD, .bool false, .bool false] 37 (0, 0))) := fun V k => k.heap hb9 (by simp)
    rw [← hW9]
    refine hK.out _ _ ⟨HR9.out, hk9⟩ (fun hHeld => ?_)
    clear hK K hHeld hk9 hW9 hb9
    simp only [Act.put, List.getElem_toArray, List.getElem_cons_succ, List.getElem_cons_zero, List.setIfInBounds_toArray, List.set_cons_zero, List.set_cons_succ]
    refine wpAnyH_done (by kernel_rfl) ?_ _
    have c0 : W9.cell? ⟨w2.heap.size, 0, none⟩ = some (.string SS) := by rw [cell_of_row _ _ _ _ _ _ (HB9.out _ (Kept.refl _ _))]; rfl
    have c1 : W9.cell? ⟨w2.heap.size, 1, none⟩ = some (.string SD) := by rw [cell_of_row _ _ _ _ _ _ (HB9.out _ (Kept.refl _ _))]; rfl
    cases bs <;> cases bd <;> simp only [Bool.false_eq_true, if_false, if_true] at hIS hID
    · obtain ⟨hi1, hi2⟩ := hIS
      obtain ⟨hi3, hi4⟩ := hID
      go_wp2_with (go_at_call 53; (first | (with_reducible refine (HTS.out _).mono ?_) | (with_reducible refine (HTD.out _).mono ?_)); rintro e wq ⟨rfl, rfl⟩)
      clear c0 c1
      have hlt : w.heap.size < w2.heap.size := HR2.out.lt
      refine wp_region_held_drew (S := fun W => RB w W ∧ W.heap[w2.heap.size]? = some (.cells #[.string SS, .string SD, .bool false, .bool false] 37 (0, 0))) (by kernel_rfl) ⟨RB.then HR9.out (Kept.refl [] W9).drew, HB9.out _ (Kept.refl [] W9).drew⟩ (fun hHeld => ?_)
      cases gs
      · refine takeP 0 (v := .agg #[.string SS, .string SD, .bool false, .bool false]) (some 60) #[true, false, false, false, false, false, false, false, false, false, false, false, false, false, false, false] rfl rfl rfl (by kernel_rfl) (by kernel_rfl) (by kernel_rfl) (fun _ _ _ h => h) (yields_row 37 (.tmp 6) rfl (by kernel_rfl) w2.heap.size rfl 37 #[.string SS, .string SD, .bool false, .bool false] (0, 0) _ (fun W hSW => hSW.2) Tryd.underlying37 rfl (by kernel_rfl)) hHeld ?_
        simp only [Act.put, List.setIfInBounds_toArray, List.set_cons_zero, List.set_cons_succ]
        refine takeP 1 (v := .bool true) (some 61) #[true, true, false, false, false, false, false, false, false, false, false, false, false, false, false, false] rfl rfl rfl (by kernel_rfl) (by kernel_rfl) (by kernel_rfl) (fun _ _ _ h => h) (Or.inl ⟨by rfl, fun W hSW => by go_simp⟩) hHeld ?_
        simp only [Act.put, List.setIfInBounds_toArray, List.set_cons_zero, List.set_cons_succ]
        refine takeP 2 (v := .bool true) (some 62) #[true, true, true, false, false, false, false, false, false, false, false, false, false, false, false, false] rfl rfl rfl (by kernel_rfl) (by kernel_rfl) (by kernel_rfl) (fun _ _ _ h => h) (Or.inl ⟨by rfl, fun W hSW => by go_simp⟩) hHeld ?_
        simp only [Act.put, List.setIfInBounds_toArray, List.set_cons_zero, List.set_cons_succ]
        refine takeP 3 (v := .pointer (some ⟨w2.heap.size, 0, none⟩)) (some 63) #[true, true, true, true, false, false, false, false, false, false, false, false, false, false, false, false] rfl rfl rfl (by kernel_rfl) (by kernel_rfl) (by kernel_rfl) (fun _ _ _ h => h) (Or.inl ⟨by rfl, fun W hSW => by go_simp⟩) hHeld ?_
        simp only [Act.put, List.setIfInBounds_toArray, List.set_cons_zero, List.set_cons_succ]
        refine takeP 4 (v := .string SS) (some 64) #[true, true, true, true, true, false, false, false, false, false, false, false, false, false, false, false] rfl rfl rfl (by kernel_rfl) (by kernel_rfl) (by kernel_rfl) (fun _ _ _ h => h) (Or.inl ⟨by rfl, fun W hSW => by have hcc := (cell_of_row W w2.heap.size 0 _ _ _ hSW.2); go_simp⟩) hHeld ?_
        simp only [Act.put, List.setIfInBounds_toArray, List.set_cons_zero, List.set_cons_succ]
        refine wpAnyH_ready (rs := [5]) (by kernel_rfl) (by simp) (AllReadyH.cons rfl (fun K hK => ?_) AllReadyH.nil)
        rw [if_pos (by kernel_rfl)]
        refine wp_call_ret 38 #[.string SS, .string ⟨#[120]⟩] (by go_simp) ?_
        refine (HPS.out _).mono ?_
        rintro e wk ⟨rfl, kk⟩
        refine ⟨_, rfl, hK.out _ _ (⟨RB.then hHeld.1 kk, kk.heap hHeld.2 (by simp)⟩) (fun hHeld => ?_)⟩
        clear hK K
        simp only [Act.put, List.getElem_toArray, List.getElem_cons_succ, List.getElem_cons_zero, List.setIfInBounds_toArray, List.set_cons_zero, List.set_cons_succ]
        refine wpAnyH_ready (rs := [6]) (by kernel_rfl) (by simp) (AllReadyH.cons rfl (fun K hK => ?_) AllReadyH.nil)
        rw [if_pos (by kernel_rfl)]
        refine wp_call_ret 35 #[.string FS] (by go_simp) ?_
        refine (HGS.out _).mono ?_
        rintro e wk ⟨rfl, kk⟩
        refine ⟨_, rfl, hK.out _ _ (⟨RB.then hHeld.1 kk, kk.heap hHeld.2 (by simp)⟩) (fun hHeld => ?_)⟩
        clear hK K
        simp only [Act.put, List.getElem_toArray, List.getElem_cons_succ, List.getElem_cons_zero, List.setIfInBounds_toArray, List.set_cons_zero, List.set_cons_succ]
        refine takeP 7 (v := .bool false) (some 67) #[true, true, true, true, true, true, true, true, false, false, false, false, false, false, false, false] rfl rfl rfl (by kernel_rfl) (by kernel_rfl) (by kernel_rfl) (fun _ _ _ h => h) (Or.inl ⟨by rfl, fun W hSW => by go_simp⟩) hHeld ?_
        simp only [Act.put, List.setIfInBounds_toArray, List.set_cons_zero, List.set_cons_succ]
        refine takeP 8 (v := .bool false) (some 68) #[true, true, true, true, true, true, true, true, true, false, false, false, false, false, false, false] rfl rfl rfl (by kernel_rfl) (by kernel_rfl) (by kernel_rfl) (fun _ _ _ h => h) (Or.inl ⟨by rfl, fun W hSW => by go_simp⟩) hHeld ?_
        simp only [Act.put, List.setIfInBounds_toArray, List.set_cons_zero, List.set_cons_succ]
        refine takeP 9 (v := undef) (some 69) #[true, true, true, true, true, true, true, true, true, true, false, false, false, false, false, false] rfl rfl rfl (by kernel_rfl) (by kernel_rfl) (by kernel_rfl) (fun _ _ _ h => h) (Or.inr ⟨by kernel_rfl, rfl⟩) hHeld ?_
        simp only [Act.put, List.setIfInBounds_toArray, List.set_cons_zero, List.set_cons_succ]
        refine takeP 10 (v := undef) (some 70) #[true, true, true, true, true, true, true, true, true, true, true, false, false, false, false, false] rfl rfl rfl (by kernel_rfl) (by kernel_rfl) (by kernel_rfl) (fun _ _ _ h => h) (Or.inr ⟨by kernel_rfl, rfl⟩) hHeld ?_
        simp only [Act.put, List.setIfInBounds_toArray, List.set_cons_zero, List.set_cons_succ]
        refine wpAnyH_ready (rs := [11]) (by kernel_rfl) (by simp) (AllReadyH.cons rfl (fun K hK => ?_) AllReadyH.nil)
        rw [if_neg (by go_simp)]
        refine hK.out _ _ hHeld (fun hHeld => ?_)
        clear hK K
        simp only [Act.put, List.getElem_toArray, List.getElem_cons_succ, List.getElem_cons_zero, List.setIfInBounds_toArray, List.set_cons_zero, List.set_cons_succ]
        refine wpAnyH_ready (rs := [12]) (by kernel_rfl) (by simp) (AllReadyH.cons rfl (fun K hK => ?_) AllReadyH.nil)
        rw [if_neg (by go_simp)]
        refine hK.out _ _ hHeld (fun hHeld => ?_)
        clear hK K
        simp only [Act.put, List.getElem_toArray, List.getElem_cons_succ, List.getElem_cons_zero, List.setIfInBounds_toArray, List.set_cons_zero, List.set_cons_succ]
        refine takeP 13 (v := .bool false) (some 73) #[true, true, true, true, true, true, true, true, true, true, true, true, true, true, false, false] rfl rfl rfl (by kernel_rfl) (by kernel_rfl) (by kernel_rfl) (fun _ _ _ h => h) (Or.inl ⟨by rfl, fun W hSW => by go_simp⟩) hHeld ?_
        simp only [Act.put, List.setIfInBounds_toArray, List.set_cons_zero, List.set_cons_succ]
        refine wpAnyH_ready (rs := [14]) (by kernel_rfl) (by simp) (AllReadyH.cons rfl (fun K hK => ?_) AllReadyH.nil)
        rw [if_pos (by kernel_rfl)]
        obtain ⟨cs, hcs, hc4⟩ := hHeld.1.2
        refine wp_store_row 37 (.tmp 2) (.tmp 60) rfl w.heap.size #[.string SS, .string SD, .bool false, .bool false] rfl rfl 37 cs hcs (by kernel_rfl) hc4 (by simp [Value.oneCell']) ?_
        have hbF := setRow_heap (cs' := #[.string SS, .string SD, .bool false, .bool false]) hcs
        refine hK.out _ _ ⟨RB.set hHeld.1 #[.string SS, .string SD, .bool false, .bool false] rfl, (setRow_other (by omega) _).trans hHeld.2⟩ (fun hHeld => ?_)
        clear hK K
        simp only [Act.put, List.getElem_toArray, List.getElem_cons_succ, List.getElem_cons_zero, List.setIfInBounds_toArray, List.set_cons_zero, List.set_cons_succ]
        refine takeP 15 (v := .bool false) (some 3) #[true, true, true, true, true, true, true, true, true, true, true, true, true, true, true, true] rfl rfl rfl (by kernel_rfl) (by kernel_rfl) (by kernel_rfl) (fun _ _ _ h => h) (Or.inl ⟨by rfl, fun W hSW => by go_simp⟩) hHeld ?_
        simp only [Act.put, List.setIfInBounds_toArray, List.set_cons_zero, List.set_cons_succ]
        refine wpAnyH_done (by kernel_rfl) ?_ _
        generalize hWF : World.setRow _ w.heap.size #[.string SS, .string SD, .bool false, .bool false] = WF at *
        have c0 : WF.cell? ⟨w.heap.size, 0, none⟩ = some (.string SS) := by rw [cell_of_row _ _ _ _ _ _ hbF]; rfl
        have c1 : WF.cell? ⟨w.heap.size, 1, none⟩ = some (.string SD) := by rw [cell_of_row _ _ _ _ _ _ hbF]; rfl
        have c2' : WF.cell? ⟨w.heap.size, 2, none⟩ = some (.bool false) := by rw [cell_of_row _ _ _ _ _ _ hbF]; rfl
        have c3 : WF.cell? ⟨w.heap.size, 3, none⟩ = some (.bool false) := by rw [cell_of_row _ _ _ _ _ _ hbF]; rfl
        have HKF : Hid (Kept [] w WF) := hHeld.1.1
        clear hbF hcs hc4 hHeld hWF
        go_wp2
        exact bodyPost_ret (v := .tuple #[.agg #[.string SS, .string SD, .bool false, .bool false], .bool false]) (by simp [results, Tryd.results34, go_sem, *]) rfl ⟨by first | rfl | (cases gd <;> rfl) | (cases gs <;> cases gd <;> rfl), HKF.out⟩
      · refine takeP 0 (v := .agg #[.string SS, .string SD, .bool false, .bool false]) (some 60) #[true, false, false, false, false, false, false, false, false, false, false, false, false, false, false, false] rfl rfl rfl (by kernel_rfl) (by kernel_rfl) (by kernel_rfl) (fun _ _ _ h => h) (yields_row 37 (.tmp 6) rfl (by kernel_rfl) w2.heap.size rfl 37 #[.string SS, .string SD, .bool false, .bool false] (0, 0) _ (fun W hSW => hSW.2) Tryd.underlying37 rfl (by kernel_rfl)) hHeld ?_
        simp only [Act.put, List.setIfInBounds_toArray, List.set_cons_zero, List.set_cons_succ]
        refine takeP 1 (v := .bool true) (some 61) #[true, true, false, false, false, false, false, false, false, false, false, false, false, false, false, false] rfl rfl rfl (by kernel_rfl) (by kernel_rfl) (by kernel_rfl) (fun _ _ _ h => h) (Or.inl ⟨by rfl, fun W hSW => by go_simp⟩) hHeld ?_
        simp only [Act.put, List.setIfInBounds_toArray, List.set_cons_zero, List.set_cons_succ]
        refine takeP 2 (v := .bool true) (some 62) #[true, true, true, false, false, false, false, false, false, false, false, false, false, false, false, false] rfl rfl rfl (by kernel_rfl) (by kernel_rfl) (by kernel_rfl) (fun _ _ _ h => h) (Or.inl ⟨by rfl, fun W hSW => by go_simp⟩) hHeld ?_
        simp only [Act.put, List.setIfInBounds_toArray, List.set_cons_zero, List.set_cons_succ]
        refine takeP 3 (v := .pointer (some ⟨w2.heap.size, 0, none⟩)) (some 63) #[true, true, true, true, false, false, false, false, false, false, false, false, false, false, false, false] rfl rfl rfl (by kernel_rfl) (by kernel_rfl) (by kernel_rfl) (fun _ _ _ h => h) (Or.inl ⟨by rfl, fun W hSW => by go_simp⟩) hHeld ?_
        simp only [Act.put, List.setIfInBounds_toArray, List.set_cons_zero, List.set_cons_succ]
        refine takeP 4 (v := .string SS) (some 64) #[true, true, true, true, true, false, false, false, false, false, false, false, false, false, false, false] rfl rfl rfl (by kernel_rfl) (by kernel_rfl) (by kernel_rfl) (fun _ _ _ h => h) (Or.inl ⟨by rfl, fun W hSW => by have hcc := (cell_of_row W w2.heap.size 0 _ _ _ hSW.2); go_simp⟩) hHeld ?_
        simp only [Act.put, List.setIfInBounds_toArray, List.set_cons_zero, List.set_cons_succ]
        refine wpAnyH_ready (rs := [5]) (by kernel_rfl) (by simp) (AllReadyH.cons rfl (fun K hK => ?_) AllReadyH.nil)
        rw [if_pos (by kernel_rfl)]
        refine wp_call_ret 38 #[.string SS, .string ⟨#[120]⟩] (by go_simp) ?_
        refine (HPS.out _).mono ?_
        rintro e wk ⟨rfl, kk⟩
        refine ⟨_, rfl, hK.out _ _ (⟨RB.then hHeld.1 kk, kk.heap hHeld.2 (by simp)⟩) (fun hHeld => ?_)⟩
        clear hK K
        simp only [Act.put, List.getElem_toArray, List.getElem_cons_succ, List.getElem_cons_zero, List.setIfInBounds_toArray, List.set_cons_zero, List.set_cons_succ]
        refine wpAnyH_ready (rs := [6]) (by kernel_rfl) (by simp) (AllReadyH.cons rfl (fun K hK => ?_) AllReadyH.nil)
        rw [if_pos (by kernel_rfl)]
        refine wp_call_ret 35 #[.string FS] (by go_simp) ?_
        refine (HGS.out _).mono ?_
        rintro e wk ⟨rfl, kk⟩
        refine ⟨_, rfl, hK.out _ _ (⟨RB.then hHeld.1 kk, kk.heap hHeld.2 (by simp)⟩) (fun hHeld => ?_)⟩
        clear hK K
        simp only [Act.put, List.getElem_toArray, List.getElem_cons_succ, List.getElem_cons_zero, List.setIfInBounds_toArray, List.set_cons_zero, List.set_cons_succ]
        refine takeP 7 (v := .bool true) (some 67) #[true, true, true, true, true, true, true, true, false, false, false, false, false, false, false, false] rfl rfl rfl (by kernel_rfl) (by kernel_rfl) (by kernel_rfl) (fun _ _ _ h => h) (Or.inl ⟨by rfl, fun W hSW => by go_simp⟩) hHeld ?_
        simp only [Act.put, List.setIfInBounds_toArray, List.set_cons_zero, List.set_cons_succ]
        refine takeP 8 (v := .bool true) (some 68) #[true, true, true, true, true, true, true, true, true, false, false, false, false, false, false, false] rfl rfl rfl (by kernel_rfl) (by kernel_rfl) (by kernel_rfl) (fun _ _ _ h => h) (Or.inl ⟨by rfl, fun W hSW => by go_simp⟩) hHeld ?_
        simp only [Act.put, List.setIfInBounds_toArray, List.set_cons_zero, List.set_cons_succ]
        refine takeP 9 (v := .pointer (some ⟨w2.heap.size, 1, none⟩)) (some 69) #[true, true, true, true, true, true, true, true, true, true, false, false, false, false, false, false] rfl rfl rfl (by kernel_rfl) (by kernel_rfl) (by kernel_rfl) (fun _ _ _ h => h) (Or.inl ⟨by rfl, fun W hSW => by go_simp⟩) hHeld ?_
        simp only [Act.put, List.setIfInBounds_toArray, List.set_cons_zero, List.set_cons_succ]
        refine takeP 10 (v := .string SD) (some 70) #[true, true, true, true, true, true, true, true, true, true, true, false, false, false, false, false] rfl rfl rfl (by kernel_rfl) (by kernel_rfl) (by kernel_rfl) (fun _ _ _ h => h) (Or.inl ⟨by rfl, fun W hSW => by have hcc := (cell_of_row W w2.heap.size 1 _ _ _ hSW.2); go_simp⟩) hHeld ?_
        simp only [Act.put, List.setIfInBounds_toArray, List.set_cons_zero, List.set_cons_succ]
        refine wpAnyH_ready (rs := [11]) (by kernel_rfl) (by simp) (AllReadyH.cons rfl (fun K hK => ?_) AllReadyH.nil)
        rw [if_pos (by kernel_rfl)]
        refine wp_call_ret 38 #[.string SD, .string ⟨#[120]⟩] (by go_simp) ?_
        refine (HPD.out _).mono ?_
        rintro e wk ⟨rfl, kk⟩
        refine ⟨_, rfl, hK.out _ _ (⟨RB.then hHeld.1 kk, kk.heap hHeld.2 (by simp)⟩) (fun hHeld => ?_)⟩
        clear hK K
        simp only [Act.put, List.getElem_toArray, List.getElem_cons_succ, List.getElem_cons_zero, List.setIfInBounds_toArray, List.set_cons_zero, List.set_cons_succ]
        refine wpAnyH_ready (rs := [12]) (by kernel_rfl) (by simp) (AllReadyH.cons rfl (fun K hK => ?_) AllReadyH.nil)
        rw [if_pos (by kernel_rfl)]
        refine wp_call_ret 35 #[.string FD] (by go_simp) ?_
        refine (HGD.out _).mono ?_
        rintro e wk ⟨rfl, kk⟩
        refine ⟨_, rfl, hK.out _ _ (⟨RB.then hHeld.1 kk, kk.heap hHeld.2 (by simp)⟩) (fun hHeld => ?_)⟩
        clear hK K
        simp only [Act.put, List.getElem_toArray, List.getElem_cons_succ, List.getElem_cons_zero, List.setIfInBounds_toArray, List.set_cons_zero, List.set_cons_succ]
        refine takeP 13 (v := .bool gd) (some 73) #[true, true, true, true, true, true, true, true, true, true, true, true, true, true, false, false] rfl rfl rfl (by kernel_rfl) (by kernel_rfl) (by kernel_rfl) (fun _ _ _ h => h) (Or.inl ⟨by rfl, fun W hSW => by go_simp⟩) hHeld ?_
        simp only [Act.put, List.setIfInBounds_toArray, List.set_cons_zero, List.set_cons_succ]
        refine wpAnyH_ready (rs := [14]) (by kernel_rfl) (by simp) (AllReadyH.cons rfl (fun K hK => ?_) AllReadyH.nil)
        rw [if_pos (by kernel_rfl)]
        obtain ⟨cs, hcs, hc4⟩ := hHeld.1.2
        refine wp_store_row 37 (.tmp 2) (.tmp 60) rfl w.heap.size #[.string SS, .string SD, .bool false, .bool false] rfl rfl 37 cs hcs (by kernel_rfl) hc4 (by simp [Value.oneCell']) ?_
        have hbF := setRow_heap (cs' := #[.string SS, .string SD, .bool false, .bool false]) hcs
        refine hK.out _ _ ⟨RB.set hHeld.1 #[.string SS, .string SD, .bool false, .bool false] rfl, (setRow_other (by omega) _).trans hHeld.2⟩ (fun hHeld => ?_)
        clear hK K
        simp only [Act.put, List.getElem_toArray, List.getElem_cons_succ, List.getElem_cons_zero, List.setIfInBounds_toArray, List.set_cons_zero, List.set_cons_succ]
        refine takeP 15 (v := .bool gd) (some 3) #[true, true, true, true, true, true, true, true, true, true, true, true, true, true, true, true] rfl rfl rfl (by kernel_rfl) (by kernel_rfl) (by kernel_rfl) (fun _ _ _ h => h) (Or.inl ⟨by rfl, fun W hSW => by go_simp⟩) hHeld ?_
        simp only [Act.put, List.setIfInBounds_toArray, List.set_cons_zero, List.set_cons_succ]
        refine wpAnyH_done (by kernel_rfl) ?_ _
        generalize hWF : World.setRow _ w.heap.size #[.string SS, .string SD, .bool false, .bool false] = WF at *
        have c0 : WF.cell? ⟨w.heap.size, 0, none⟩ = some (.string SS) := by rw [cell_of_row _ _ _ _ _ _ hbF]; rfl
        have c1 : WF.cell? ⟨w.heap.size, 1, none⟩ = some (.string SD) := by rw [cell_of_row _ _ _ _ _ _ hbF]; rfl
        have c2' : WF.cell? ⟨w.heap.size, 2, none⟩ = some (.bool false) := by rw [cell_of_row _ _ _ _ _ _ hbF]; rfl
        have c3 : WF.cell? ⟨w.heap.size, 3, none⟩ = some (.bool false) := by rw [cell_of_row _ _ _ _ _ _ hbF]; rfl
        have HKF : Hid (Kept [] w WF) := hHeld.1.1
        clear hbF hcs hc4 hHeld hWF
        go_wp2
        exact bodyPost_ret (v := .tuple #[.agg #[.string SS, .string SD, .bool false, .bool false], .bool gd]) (by simp [results, Tryd.results34, go_sem, *]) rfl ⟨by first | rfl | (cases gd <;> rfl) | (cases gs <;> cases gd <;> rfl), HKF.out⟩
    · obtain ⟨hi1, hi2⟩ := hIS
      obtain ⟨hi3, hi4⟩ := hID
      go_wp2_with (go_at_call 53; (first | (with_reducible refine (HTS.out _).mono ?_) | (with_reducible refine (HTD.out _).mono ?_)); rintro e wq ⟨rfl, rfl⟩)
      clear c0 c1
      have hlt : w.heap.size < w2.heap.size := HR2.out.lt
      refine wp_region_held_drew (S := fun W => RB w W ∧ W.heap[w2.heap.size]? = some (.cells #[.string SS, .string SD, .bool false, .bool false] 37 (0, 0))) (by kernel_rfl) ⟨RB.then HR9.out (Kept.refl [] W9).drew, HB9.out _ (Kept.refl [] W9).drew⟩ (fun hHeld => ?_)
      refine takeP 0 (v := .agg #[.string SS, .string SD, .bool false, .bool false]) (some 60) #[true, false, false, false, false, false, false, false, false, false, false, false, false, false, false, false] rfl rfl rfl (by kernel_rfl) (by kernel_rfl) (by kernel_rfl) (fun _ _ _ h => h) (yields_row 37 (.tmp 6) rfl (by kernel_rfl) w2.heap.size rfl 37 #[.string SS, .string SD, .bool false, .bool false] (0, 0) _ (fun W hSW => hSW.2) Tryd.underlying37 rfl (by kernel_rfl)) hHeld ?_
      simp only [Act.put, List.setIfInBounds_toArray, List.set_cons_zero, List.set_cons_succ]
      refine takeP 1 (v := .bool false) (some 61) #[true, true, false, false, false, false, false, false, false, false, false, false, false, false, false, false] rfl rfl rfl (by kernel_rfl) (by kernel_rfl) (by kernel_rfl) (fun _ _ _ h => h) (Or.inl ⟨by rfl, fun W hSW => by go_simp⟩) hHeld ?_
      simp only [Act.put, List.setIfInBounds_toArray, List.set_cons_zero, List.set_cons_succ]
      refine takeP 2 (v := .bool false) (some 62) #[true, true, true, false, false, false, false, false, false, false, false, false, false, false, false, false] rfl rfl rfl (by kernel_rfl) (by kernel_rfl) (by kernel_rfl) (fun _ _ _ h => h) (Or.inl ⟨by rfl, fun W hSW => by go_simp⟩) hHeld ?_
      simp only [Act.put, List.setIfInBounds_toArray, List.set_cons_zero, List.set_cons_succ]
      refine takeP 3 (v := undef) (some 63) #[true, true, true, true, false, false, false, false, false, false, false, false, false, false, false, false] rfl rfl rfl (by kernel_rfl) (by kernel_rfl) (by kernel_rfl) (fun _ _ _ h => h) (Or.inr ⟨by kernel_rfl, rfl⟩) hHeld ?_
      simp only [Act.put, List.setIfInBounds_toArray, List.set_cons_zero, List.set_cons_succ]
      refine takeP 4 (v := undef) (some 64) #[true, true, true, true, true, false, false, false, false, false, false, false, false, false, false, false] rfl rfl rfl (by kernel_rfl) (by kernel_rfl) (by kernel_rfl) (fun _ _ _ h => h) (Or.inr ⟨by kernel_rfl, rfl⟩) hHeld ?_
      simp only [Act.put, List.setIfInBounds_toArray, List.set_cons_zero, List.set_cons_succ]
      refine wpAnyH_ready (rs := [5]) (by kernel_rfl) (by simp) (AllReadyH.cons rfl (fun K hK => ?_) AllReadyH.nil)
      rw [if_neg (by go_simp)]
      refine hK.out _ _ hHeld (fun hHeld => ?_)
      clear hK K
      simp only [Act.put, List.getElem_toArray, List.getElem_cons_succ, List.getElem_cons_zero, List.setIfInBounds_toArray, List.set_cons_zero, List.set_cons_succ]
      refine wpAnyH_ready (rs := [6]) (by kernel_rfl) (by simp) (AllReadyH.cons rfl (fun K hK => ?_) AllReadyH.nil)
      rw [if_neg (by go_simp)]
      refine hK.out _ _ hHeld (fun hHeld => ?_)
      clear hK K
      simp only [Act.put, List.getElem_toArray, List.getElem_cons_succ, List.getElem_cons_zero, List.setIfInBounds_toArray, List.set_cons_zero, List.set_cons_succ]
      refine takeP 7 (v := .bool false) (some 67) #[true, true, true, true, true, true, true, true, false, false, false, false, false, false, false, false] rfl rfl rfl (by kernel_rfl) (by kernel_rfl) (by kernel_rfl) (fun _ _ _ h => h) (Or.inl ⟨by rfl, fun W hSW => by go_simp⟩) hHeld ?_
      simp only [Act.put, List.setIfInBounds_toArray, List.set_cons_zero, List.set_cons_succ]
      refine takeP 8 (v := .bool false) (some 68) #[true, true, true, true, true, true, true, true, true, false, false, false, false, false, false, false] rfl rfl rfl (by kernel_rfl) (by kernel_rfl) (by kernel_rfl) (fun _ _ _ h => h) (Or.inl ⟨by rfl, fun W hSW => by go_simp⟩) hHeld ?_
      simp only [Act.put, List.setIfInBounds_toArray, List.set_cons_zero, List.set_cons_succ]
      refine takeP 9 (v := undef) (some 69) #[true, true, true, true, true, true, true, true, true, true, false, false, false, false, false, false] rfl rfl rfl (by kernel_rfl) (by kernel_rfl) (by kernel_rfl) (fun _ _ _ h => h) (Or.inr ⟨by kernel_rfl, rfl⟩) hHeld ?_
      simp only [Act.put, List.setIfInBounds_toArray, List.set_cons_zero, List.set_cons_succ]
      refine takeP 10 (v := undef) (some 70) #[true, true, true, true, true, true, true, true, true, true, true, false, false, false, false, false] rfl rfl rfl (by kernel_rfl) (by kernel_rfl) (by kernel_rfl) (fun _ _ _ h => h) (Or.inr ⟨by kernel_rfl, rfl⟩) hHeld ?_
      simp only [Act.put, List.setIfInBounds_toArray, List.set_cons_zero, List.set_cons_succ]
      refine wpAnyH_ready (rs := [11]) (by kernel_rfl) (by simp) (AllReadyH.cons rfl (fun K hK => ?_) AllReadyH.nil)
      rw [if_neg (by go_simp)]
      refine hK.out _ _ hHeld (fun hHeld => ?_)
      clear hK K
      simp only [Act.put, List.getElem_toArray, List.getElem_cons_succ, List.getElem_cons_zero, List.setIfInBounds_toArray, List.set_cons_zero, List.set_cons_succ]
      refine wpAnyH_ready (rs := [12]) (by kernel_rfl) (by simp) (AllReadyH.cons rfl (fun K hK => ?_) AllReadyH.nil)
      rw [if_neg (by go_simp)]
      refine hK.out _ _ hHeld (fun hHeld => ?_)
      clear hK K
      simp only [Act.put, List.getElem_toArray, List.getElem_cons_succ, List.getElem_cons_zero, List.setIfInBounds_toArray, List.set_cons_zero, List.set_cons_succ]
      refine takeP 13 (v := .bool false) (some 73) #[true, true, true, true, true, true, true, true, true, true, true, true, true, true, false, false] rfl rfl rfl (by kernel_rfl) (by kernel_rfl) (by kernel_rfl) (fun _ _ _ h => h) (Or.inl ⟨by rfl, fun W hSW => by go_simp⟩) hHeld ?_
      simp only [Act.put, List.setIfInBounds_toArray, List.set_cons_zero, List.set_cons_succ]
      refine wpAnyH_ready (rs := [14]) (by kernel_rfl) (by simp) (AllReadyH.cons rfl (fun K hK => ?_) AllReadyH.nil)
      rw [if_pos (by kernel_rfl)]
      obtain ⟨cs, hcs, hc4⟩ := hHeld.1.2
      refine wp_store_row 37 (.tmp 2) (.tmp 60) rfl w.heap.size #[.string SS, .string SD, .bool false, .bool false] rfl rfl 37 cs hcs (by kernel_rfl) hc4 (by simp [Value.oneCell']) ?_
      have hbF := setRow_heap (cs' := #[.string SS, .string SD, .bool false, .bool false]) hcs
      refine hK.out _ _ ⟨RB.set hHeld.1 #[.string SS, .string SD, .bool false, .bool false] rfl, (setRow_other (by omega) _).trans hHeld.2⟩ (fun hHeld => ?_)
      clear hK K
      simp only [Act.put, List.getElem_toArray, List.getElem_cons_succ, List.getElem_cons_zero, List.setIfInBounds_toArray, List.set_cons_zero, List.set_cons_succ]
      refine takeP 15 (v := .bool false) (some 3) #[true, true, true, true, true, true, true, true, true, true, true, true, true, true, true, true] rfl rfl rfl (by kernel_rfl) (by kernel_rfl) (by kernel_rfl) (fun _ _ _ h => h) (Or.inl ⟨by rfl, fun W hSW => by go_simp⟩) hHeld ?_
      simp only [Act.put, List.setIfInBounds_toArray, List.set_cons_zero, List.set_cons_succ]
      refine wpAnyH_done (by kernel_rfl) ?_ _
      generalize hWF : World.setRow _ w.heap.size #[.string SS, .string SD, .bool false, .bool false] = WF at *
      have c0 : WF.cell? ⟨w.heap.size, 0, none⟩ = some (.string SS) := by rw [cell_of_row _ _ _ _ _ _ hbF]; rfl
      have c1 : WF.cell? ⟨w.heap.size, 1, none⟩ = some (.string SD) := by rw [cell_of_row _ _ _ _ _ _ hbF]; rfl
      have c2' : WF.cell? ⟨w.heap.size, 2, none⟩ = some (.bool false) := by rw [cell_of_row _ _ _ _ _ _ hbF]; rfl
      have c3 : WF.cell? ⟨w.heap.size, 3, none⟩ = some (.bool false) := by rw [cell_of_row _ _ _ _ _ _ hbF]; rfl
      have HKF : Hid (Kept [] w WF) := hHeld.1.1
      clear hbF hcs hc4 hHeld hWF
      go_wp2
      exact bodyPost_ret (v := .tuple #[.agg #[.string SS, .string SD, .bool false, .bool false], .bool false]) (by simp [results, Tryd.results34, go_sem, *]) rfl ⟨by first | rfl | (cases gd <;> rfl) | (cases gs <;> cases gd <;> rfl), HKF.out⟩
    · obtain ⟨hi1, hi2⟩ := hIS
      obtain ⟨hi3, hi4⟩ := hID
      go_wp2_with (go_at_call 53; (first | (with_reducible refine (HTS.out _).mono ?_) | (with_reducible refine (HTD.out _).mono ?_)); rintro e wq ⟨rfl, rfl⟩)
      clear c0 c1
      have hlt : w.heap.size < w2.heap.size := HR2.out.lt
      refine wp_region_held_drew (S := fun W => RB w W ∧ W.heap[w2.heap.size]? = some (.cells #[.string SS, .string SD, .bool false, .bool false] 37 (0, 0))) (by kernel_rfl) ⟨RB.then HR9.out (Kept.refl [] W9).drew, HB9.out _ (Kept.refl [] W9).drew⟩ (fun hHeld => ?_)
      refine takeP 0 (v := .agg #[.string SS, .string SD, .bool false, .bool false]) (some 60) #[true, false, false, false, false, false, false, false, false, false, false, false, false, false, false, false] rfl rfl rfl (by kernel_rfl) (by kernel_rfl) (by kernel_rfl) (fun _ _ _ h => h) (yields_row 37 (.tmp 6) rfl (by kernel_rfl) w2.heap.size rfl 37 #[.string SS, .string SD, .bool false, .bool false] (0, 0) _ (fun W hSW => hSW.2) Tryd.underlying37 rfl (by kernel_rfl)) hHeld ?_
      simp only [Act.put, List.setIfInBounds_toArray, List.set_cons_zero, List.set_cons_succ]
      refine takeP 1 (v := .bool false) (some 61) #[true, true, false, false, false, false, false, false, false, false, false, false, false, false, false, false] rfl rfl rfl (by kernel_rfl) (by kernel_rfl) (by kernel_rfl) (fun _ _ _ h => h) (Or.inl ⟨by rfl, fun W hSW => by go_simp⟩) hHeld ?_
      simp only [Act.put, List.setIfInBounds_toArray, List.set_cons_zero, List.set_cons_succ]
      refine takeP 2 (v := .bool false) (some 62) #[true, true, true, false, false, false, false, false, false, false, false, false, false, false, false, false] rfl rfl rfl (by kernel_rfl) (by kernel_rfl) (by kernel_rfl) (fun _ _ _ h => h) (Or.inl ⟨by rfl, fun W hSW => by go_simp⟩) hHeld ?_
      simp only [Act.put, List.setIfInBounds_toArray, List.set_cons_zero, List.set_cons_succ]
      refine takeP 3 (v := undef) (some 63) #[true, true, true, true, false, false, false, false, false, false, false, false, false, false, false, false] rfl rfl rfl (by kernel_rfl) (by kernel_rfl) (by kernel_rfl) (fun _ _ _ h => h) (Or.inr ⟨by kernel_rfl, rfl⟩) hHeld ?_
      simp only [Act.put, List.setIfInBounds_toArray, List.set_cons_zero, List.set_cons_succ]
      refine takeP 4 (v := undef) (some 64) #[true, true, true, true, true, false, false, false, false, false, false, false, false, false, false, false] rfl rfl rfl (by kernel_rfl) (by kernel_rfl) (by kernel_rfl) (fun _ _ _ h => h) (Or.inr ⟨by kernel_rfl, rfl⟩) hHeld ?_
      simp only [Act.put, List.setIfInBounds_toArray, List.set_cons_zero, List.set_cons_succ]
      refine wpAnyH_ready (rs := [5]) (by kernel_rfl) (by simp) (AllReadyH.cons rfl (fun K hK => ?_) AllReadyH.nil)
      rw [if_neg (by go_simp)]
      refine hK.out _ _ hHeld (fun hHeld => ?_)
      clear hK K
      simp only [Act.put, List.getElem_toArray, List.getElem_cons_succ, List.getElem_cons_zero, List.setIfInBounds_toArray, List.set_cons_zero, List.set_cons_succ]
      refine wpAnyH_ready (rs := [6]) (by kernel_rfl) (by simp) (AllReadyH.cons rfl (fun K hK => ?_) AllReadyH.nil)
      rw [if_neg (by go_simp)]
      refine hK.out _ _ hHeld (fun hHeld => ?_)
      clear hK K
      simp only [Act.put, List.getElem_toArray, List.getElem_cons_succ, List.getElem_cons_zero, List.setIfInBounds_toArray, List.set_cons_zero, List.set_cons_succ]
      refine takeP 7 (v := .bool false) (some 67) #[true, true, true, true, true, true, true, true, false, false, false, false, false, false, false, false] rfl rfl rfl (by kernel_rfl) (by kernel_rfl) (by kernel_rfl) (fun _ _ _ h => h) (Or.inl ⟨by rfl, fun W hSW => by go_simp⟩) hHeld ?_
      simp only [Act.put, List.setIfInBounds_toArray, List.set_cons_zero, List.set_cons_succ]
      refine takeP 8 (v := .bool false) (some 68) #[true, true, true, true, true, true, true, true, true, false, false, false, false, false, false, false] rfl rfl rfl (by kernel_rfl) (by kernel_rfl) (by kernel_rfl) (fun _ _ _ h => h) (Or.inl ⟨by rfl, fun W hSW => by go_simp⟩) hHeld ?_
      simp only [Act.put, List.setIfInBounds_toArray, List.set_cons_zero, List.set_cons_succ]
      refine takeP 9 (v := undef) (some 69) #[true, true, true, true, true, true, true, true, true, true, false, false, false, false, false, false] rfl rfl rfl (by kernel_rfl) (by kernel_rfl) (by kernel_rfl) (fun _ _ _ h => h) (Or.inr ⟨by kernel_rfl, rfl⟩) hHeld ?_
      simp only [Act.put, List.setIfInBounds_toArray, List.set_cons_zero, List.set_cons_succ]
      refine takeP 10 (v := undef) (some 70) #[true, true, true, true, true, true, true, true, true, true, true, false, false, false, false, false] rfl rfl rfl (by kernel_rfl) (by kernel_rfl) (by kernel_rfl) (fun _ _ _ h => h) (Or.inr ⟨by kernel_rfl, rfl⟩) hHeld ?_
      simp only [Act.put, List.setIfInBounds_toArray, List.set_cons_zero, List.set_cons_succ]
      refine wpAnyH_ready (rs := [11]) (by kernel_rfl) (by simp) (AllReadyH.cons rfl (fun K hK => ?_) AllReadyH.nil)
      rw [if_neg (by go_simp)]
      refine hK.out _ _ hHeld (fun hHeld => ?_)
      clear hK K
      simp only [Act.put, List.getElem_toArray, List.getElem_cons_succ, List.getElem_cons_zero, List.setIfInBounds_toArray, List.set_cons_zero, List.set_cons_succ]
      refine wpAnyH_ready (rs := [12]) (by kernel_rfl) (by simp) (AllReadyH.cons rfl (fun K hK => ?_) AllReadyH.nil)
      rw [if_neg (by go_simp)]
      refine hK.out _ _ hHeld (fun hHeld => ?_)
      clear hK K
      simp only [Act.put, List.getElem_toArray, List.getElem_cons_succ, List.getElem_cons_zero, List.setIfInBounds_toArray, List.set_cons_zero, List.set_cons_succ]
      refine takeP 13 (v := .bool false) (some 73) #[true, true, true, true, true, true, true, true, true, true, true, true, true, true, false, false] rfl rfl rfl (by kernel_rfl) (by kernel_rfl) (by kernel_rfl) (fun _ _ _ h => h) (Or.inl ⟨by rfl, fun W hSW => by go_simp⟩) hHeld ?_
      simp only [Act.put, List.setIfInBounds_toArray, List.set_cons_zero, List.set_cons_succ]
      refine wpAnyH_ready (rs := [14]) (by kernel_rfl) (by simp) (AllReadyH.cons rfl (fun K hK => ?_) AllReadyH.nil)
      rw [if_pos (by kernel_rfl)]
      obtain ⟨cs, hcs, hc4⟩ := hHeld.1.2
      refine wp_store_row 37 (.tmp 2) (.tmp 60) rfl w.heap.size #[.string SS, .string SD, .bool false, .bool false] rfl rfl 37 cs hcs (by kernel_rfl) hc4 (by simp [Value.oneCell']) ?_
      have hbF := setRow_heap (cs' := #[.string SS, .string SD, .bool false, .bool false]) hcs
      refine hK.out _ _ ⟨RB.set hHeld.1 #[.string SS, .string SD, .bool false, .bool false] rfl, (setRow_other (by omega) _).trans hHeld.2⟩ (fun hHeld => ?_)
      clear hK K
      simp only [Act.put, List.getElem_toArray, List.getElem_cons_succ, List.getElem_cons_zero, List.setIfInBounds_toArray, List.set_cons_zero, List.set_cons_succ]
      refine takeP 15 (v := .bool false) (some 3) #[true, true, true, true, true, true, true, true, true, true, true, true, true, true, true, true] rfl rfl rfl (by kernel_rfl) (by kernel_rfl) (by kernel_rfl) (fun _ _ _ h => h) (Or.inl ⟨by rfl, fun W hSW => by go_simp⟩) hHeld ?_
      simp only [Act.put, List.setIfInBounds_toArray, List.set_cons_zero, List.set_cons_succ]
      refine wpAnyH_done (by kernel_rfl) ?_ _
      generalize hWF : World.setRow _ w.heap.size #[.string SS, .string SD, .bool false, .bool false] = WF at *
      have c0 : WF.cell? ⟨w.heap.size, 0, none⟩ = some (.string SS) := by rw [cell_of_row _ _ _ _ _ _ hbF]; rfl
      have c1 : WF.cell? ⟨w.heap.size, 1, none⟩ = some (.string SD) := by rw [cell_of_row _ _ _ _ _ _ hbF]; rfl
      have c2' : WF.cell? ⟨w.heap.size, 2, none⟩ = some (.bool false) := by rw [cell_of_row _ _ _ _ _ _ hbF]; rfl
      have c3 : WF.cell? ⟨w.heap.size, 3, none⟩ = some (.bool false) := by rw [cell_of_row _ _ _ _ _ _ hbF]; rfl
      have HKF : Hid (Kept [] w WF) := hHeld.1.1
      clear hbF hcs hc4 hHeld hWF
      go_wp2
      exact bodyPost_ret (v := .tuple #[.agg #[.string SS, .string SD, .bool false, .bool false], .bool false]) (by simp [results, Tryd.results34, go_sem, *]) rfl ⟨by first | rfl | (cases gd <;> rfl) | (cases gs <;> cases gd <;> rfl), HKF.out⟩
    · obtain ⟨hi1, hi2⟩ := hIS
      obtain ⟨hi3, hi4⟩ := hID
      go_wp2_with (go_at_call 53; (first | (with_reducible refine (HTS.out _).mono ?_) | (with_reducible refine (HTD.out _).mono ?_)); rintro e wq ⟨rfl, rfl⟩)
      clear c0 c1
      have hlt : w.heap.size < w2.heap.size := HR2.out.lt
      refine wp_region_held_drew (S := fun W => RB w W ∧ W.heap[w2.heap.size]? = some (.cells #[.string SS, .string SD, .bool false, .bool false] 37 (0, 0))) (by kernel_rfl) ⟨RB.then HR9.out (Kept.refl [] W9).drew, HB9.out _ (Kept.refl [] W9).drew⟩ (fun hHeld => ?_)
      cases gs
      · refine takeP 0 (v := .agg #[.string SS, .string SD, .bool false, .bool false]) (some 60) #[true, false, false, false, false, false, false, false, false, false, false, false, false, false, false, false] rfl rfl rfl (by kernel_rfl) (by kernel_rfl) (by kernel_rfl) (fun _ _ _ h => h) (yields_row 37 (.tmp 6) rfl (by kernel_rfl) w2.heap.size rfl 37 #[.string SS, .string SD, .bool false, .bool false] (0, 0) _ (fun W hSW => hSW.2) Tryd.underlying37 rfl (by kernel_rfl)) hHeld ?_
        simp only [Act.put, List.setIfInBounds_toArray, List.set_cons_zero, List.set_cons_succ]
        refine takeP 1 (v := .bool true) (some 61) #[true, true, false, false, false, false, false, false, false, false, false, false, false, false, false, false] rfl rfl rfl (by kernel_rfl) (by kernel_rfl) (by kernel_rfl) (fun _ _ _ h => h) (Or.inl ⟨by rfl, fun W hSW => by go_simp⟩) hHeld ?_
        simp only [Act.put, List.setIfInBounds_toArray, List.set_cons_zero, List.set_cons_succ]
        refine takeP 2 (v := .bool true) (some 62) #[true, true, true, false, false, false, false, false, false, false, false, false, false, false, false, false] rfl rfl rfl (by kernel_rfl) (by kernel_rfl) (by kernel_rfl) (fun _ _ _ h => h) (Or.inl ⟨by rfl, fun W hSW => by go_simp⟩) hHeld ?_
        simp only [Act.put, List.setIfInBounds_toArray, List.set_cons_zero, List.set_cons_succ]
        refine takeP 3 (v := .pointer (some ⟨w2.heap.size, 0, none⟩)) (some 63) #[true, true, true, true, false, false, false, false, false, false, false, false, false, false, false, false] rfl rfl rfl (by kernel_rfl) (by kernel_rfl) (by kernel_rfl) (fun _ _ _ h => h) (Or.inl ⟨by rfl, fun W hSW => by go_simp⟩) hHeld ?_
        simp only [Act.put, List.setIfInBounds_toArray, List.set_cons_zero, List.set_cons_succ]
        refine takeP 4 (v := .string SS) (some 64) #[true, true, true, true, true, false, false, false, false, false, false, false, false, false, false, false] rfl rfl rfl (by kernel_rfl) (by kernel_rfl) (by kernel_rfl) (fun _ _ _ h => h) (Or.inl ⟨by rfl, fun W hSW => by have hcc := (cell_of_row W w2.heap.size 0 _ _ _ hSW.2); go_simp⟩) hHeld ?_
        simp only [Act.put, List.setIfInBounds_toArray, List.set_cons_zero, List.set_cons_succ]
        refine wpAnyH_ready (rs := [5]) (by kernel_rfl) (by simp) (AllReadyH.cons rfl (fun K hK => ?_) AllReadyH.nil)
        rw [if_pos (by kernel_rfl)]
        refine wp_call_ret 38 #[.string SS, .string ⟨#[120]⟩] (by go_simp) ?_
        refine (HPS.out _).mono ?_
        rintro e wk ⟨rfl, kk⟩
        refine ⟨_, rfl, hK.out _ _ (⟨RB.then hHeld.1 kk, kk.heap hHeld.2 (by simp)⟩) (fun hHeld => ?_)⟩
        clear hK K
        simp only [Act.put, List.getElem_toArray, List.getElem_cons_succ, List.getElem_cons_zero, List.setIfInBounds_toArray, List.set_cons_zero, List.set_cons_succ]
        refine wpAnyH_ready (rs := [6]) (by kernel_rfl) (by simp) (AllReadyH.cons rfl (fun K hK => ?_) AllReadyH.nil)
        rw [if_pos (by kernel_rfl)]
        refine wp_call_ret 35 #[.string FS] (by go_simp) ?_
        refine (HGS.out _).mono ?_
        rintro e wk ⟨rfl, kk⟩
        refine ⟨_, rfl, hK.out _ _ (⟨RB.then hHeld.1 kk, kk.heap hHeld.2 (by simp)⟩) (fun hHeld => ?_)⟩
        clear hK K
        simp only [Act.put, List.getElem_toArray, List.getElem_cons_succ, List.getElem_cons_zero, List.setIfInBounds_toArray, List.set_cons_zero, List.set_cons_succ]
        refine takeP 7 (v := .bool false) (some 67) #[true, true, true, true, true, true, true, true, false, false, false, false, false, false, false, false] rfl rfl rfl (by kernel_rfl) (by kernel_rfl) (by kernel_rfl) (fun _ _ _ h => h) (Or.inl ⟨by rfl, fun W hSW => by go_simp⟩) hHeld ?_
        simp only [Act.put, List.setIfInBounds_toArray, List.set_cons_zero, List.set_cons_succ]
        refine takeP 8 (v := .bool false) (some 68) #[true, true, true, true, true, true, true, true, true, false, false, false, false, false, false, false] rfl rfl rfl (by kernel_rfl) (by kernel_rfl) (by kernel_rfl) (fun _ _ _ h => h) (Or.inl ⟨by rfl, fun W hSW => by go_simp⟩) hHeld ?_
        simp only [Act.put, List.setIfInBounds_toArray, List.set_cons_zero, List.set_cons_succ]
        refine takeP 9 (v := undef) (some 69) #[true, true, true, true, true, true, true, true, true, true, false, false, false, false, false, false] rfl rfl rfl (by kernel_rfl) (by kernel_rfl) (by kernel_rfl) (fun _ _ _ h => h) (Or.inr ⟨by kernel_rfl, rfl⟩) hHeld ?_
        simp only [Act.put, List.setIfInBounds_toArray, List.set_cons_zero, List.set_cons_succ]
        refine takeP 10 (v := undef) (some 70) #[true, true, true, true, true, true, true, true, true, true, true, false, false, false, false, false] rfl rfl rfl (by kernel_rfl) (by kernel_rfl) (by kernel_rfl) (fun _ _ _ h => h) (Or.inr ⟨by kernel_rfl, rfl⟩) hHeld ?_
        simp only [Act.put, List.setIfInBounds_toArray, List.set_cons_zero, List.set_cons_succ]
        refine wpAnyH_ready (rs := [11]) (by kernel_rfl) (by simp) (AllReadyH.cons rfl (fun K hK => ?_) AllReadyH.nil)
        rw [if_neg (by go_simp)]
        refine hK.out _ _ hHeld (fun hHeld => ?_)
        clear hK K
        simp only [Act.put, List.getElem_toArray, List.getElem_cons_succ, List.getElem_cons_zero, List.setIfInBounds_toArray, List.set_cons_zero, List.set_cons_succ]
        refine wpAnyH_ready (rs := [12]) (by kernel_rfl) (by simp) (AllReadyH.cons rfl (fun K hK => ?_) AllReadyH.nil)
        rw [if_neg (by go_simp)]
        refine hK.out _ _ hHeld (fun hHeld => ?_)
        clear hK K
        simp only [Act.put, List.getElem_toArray, List.getElem_cons_succ, List.getElem_cons_zero, List.setIfInBounds_toArray, List.set_cons_zero, List.set_cons_succ]
        refine takeP 13 (v := .bool false) (some 73) #[true, true, true, true, true, true, true, true, true, true, true, true, true, true, false, false] rfl rfl rfl (by kernel_rfl) (by kernel_rfl) (by kernel_rfl) (fun _ _ _ h => h) (Or.inl ⟨by rfl, fun W hSW => by go_simp⟩) hHeld ?_
        simp only [Act.put, List.setIfInBounds_toArray, List.set_cons_zero, List.set_cons_succ]
        refine wpAnyH_ready (rs := [14]) (by kernel_rfl) (by simp) (AllReadyH.cons rfl (fun K hK => ?_) AllReadyH.nil)
        rw [if_pos (by kernel_rfl)]
        obtain ⟨cs, hcs, hc4⟩ := hHeld.1.2
        refine wp_store_row 37 (.tmp 2) (.tmp 60) rfl w.heap.size #[.string SS, .string SD, .bool false, .bool false] rfl rfl 37 cs hcs (by kernel_rfl) hc4 (by simp [Value.oneCell']) ?_
        have hbF := setRow_heap (cs' := #[.string SS, .string SD, .bool false, .bool false]) hcs
        refine hK.out _ _ ⟨RB.set hHeld.1 #[.string SS, .string SD, .bool false, .bool false] rfl, (setRow_other (by omega) _).trans hHeld.2⟩ (fun hHeld => ?_)
        clear hK K
        simp only [Act.put, List.getElem_toArray, List.getElem_cons_succ, List.getElem_cons_zero, List.setIfInBounds_toArray, List.set_cons_zero, List.set_cons_succ]
        refine takeP 15 (v := .bool false) (some 3) #[true, true, true, true, true, true, true, true, true, true, true, true, true, true, true, true] rfl rfl rfl (by kernel_rfl) (by kernel_rfl) (by kernel_rfl) (fun _ _ _ h => h) (Or.inl ⟨by rfl, fun W hSW => by go_simp⟩) hHeld ?_
        simp only [Act.put, List.setIfInBounds_toArray, List.set_cons_zero, List.set_cons_succ]
        refine wpAnyH_done (by kernel_rfl) ?_ _
        generalize hWF : World.setRow _ w.heap.size #[.string SS, .string SD, .bool false, .bool false] = WF at *
        have c0 : WF.cell? ⟨w.heap.size, 0, none⟩ = some (.string SS) := by rw [cell_of_row _ _ _ _ _ _ hbF]; rfl
        have c1 : WF.cell? ⟨w.heap.size, 1, none⟩ = some (.string SD) := by rw [cell_of_row _ _ _ _ _ _ hbF]; rfl
        have c2' : WF.cell? ⟨w.heap.size, 2, none⟩ = some (.bool false) := by rw [cell_of_row _ _ _ _ _ _ hbF]; rfl
        have c3 : WF.cell? ⟨w.heap.size, 3, none⟩ = some (.bool false) := by rw [cell_of_row _ _ _ _ _ _ hbF]; rfl
        have HKF : Hid (Kept [] w WF) := hHeld.1.1
        clear hbF hcs hc4 hHeld hWF
        go_wp2
        exact bodyPost_ret (v := .tuple #[.agg #[.string SS, .string SD, .bool false, .bool false], .bool false]) (by simp [results, Tryd.results34, go_sem, *]) rfl ⟨by first | rfl | (cases gd <;> rfl) | (cases gs <;> cases gd <;> rfl), HKF.out⟩
      · refine takeP 0 (v := .agg #[.string SS, .string SD, .bool false, .bool false]) (some 60) #[true, false, false, false, false, false, false, false, false, false, false, false, false, false, false, false] rfl rfl rfl (by kernel_rfl) (by kernel_rfl) (by kernel_rfl) (fun _ _ _ h => h) (yields_row 37 (.tmp 6) rfl (by kernel_rfl) w2.heap.size rfl 37 #[.string SS, .string SD, .bool false, .bool false] (0, 0) _ (fun W hSW => hSW.2) Tryd.underlying37 rfl (by kernel_rfl)) hHeld ?_
        simp only [Act.put, List.setIfInBounds_toArray, List.set_cons_zero, List.set_cons_succ]
        refine takeP 1 (v := .bool true) (some 61) #[true, true, false, false, false, false, false, false, false, false, false, false, false, false, false, false] rfl rfl rfl (by kernel_rfl) (by kernel_rfl) (by kernel_rfl) (fun _ _ _ h => h) (Or.inl ⟨by rfl, fun W hSW => by go_simp⟩) hHeld ?_
        simp only [Act.put, List.setIfInBounds_toArray, List.set_cons_zero, List.set_cons_succ]
        refine takeP 2 (v := .bool true) (some 62) #[true, true, true, false, false, false, false, false, false, false, false, false, false, false, false, false] rfl rfl rfl (by kernel_rfl) (by kernel_rfl) (by kernel_rfl) (fun _ _ _ h => h) (Or.inl ⟨by rfl, fun W hSW => by go_simp⟩) hHeld ?_
        simp only [Act.put, List.setIfInBounds_toArray, List.set_cons_zero, List.set_cons_succ]
        refine takeP 3 (v := .pointer (some ⟨w2.heap.size, 0, none⟩)) (some 63) #[true, true, true, true, false, false, false, false, false, false, false, false, false, false, false, false] rfl rfl rfl (by kernel_rfl) (by kernel_rfl) (by kernel_rfl) (fun _ _ _ h => h) (Or.inl ⟨by rfl, fun W hSW => by go_simp⟩) hHeld ?_
        simp only [Act.put, List.setIfInBounds_toArray, List.set_cons_zero, List.set_cons_succ]
        refine takeP 4 (v := .string SS) (some 64) #[true, true, true, true, true, false, false, false, false, false, false, false, false, false, false, false] rfl rfl rfl (by kernel_rfl) (by kernel_rfl) (by kernel_rfl) (fun _ _ _ h => h) (Or.inl ⟨by rfl, fun W hSW => by have hcc := (cell_of_row W w2.heap.size 0 _ _ _ hSW.2); go_simp⟩) hHeld ?_
        simp only [Act.put, List.setIfInBounds_toArray, List.set_cons_zero, List.set_cons_succ]
        refine wpAnyH_ready (rs := [5]) (by kernel_rfl) (by simp) (AllReadyH.cons rfl (fun K hK => ?_) AllReadyH.nil)
        rw [if_pos (by kernel_rfl)]
        refine wp_call_ret 38 #[.string SS, .string ⟨#[120]⟩] (by go_simp) ?_
        refine (HPS.out _).mono ?_
        rintro e wk ⟨rfl, kk⟩
        refine ⟨_, rfl, hK.out _ _ (⟨RB.then hHeld.1 kk, kk.heap hHeld.2 (by simp)⟩) (fun hHeld => ?_)⟩
        clear hK K
        simp only [Act.put, List.getElem_toArray, List.getElem_cons_succ, List.getElem_cons_zero, List.setIfInBounds_toArray, List.set_cons_zero, List.set_cons_succ]
        refine wpAnyH_ready (rs := [6]) (by kernel_rfl) (by simp) (AllReadyH.cons rfl (fun K hK => ?_) AllReadyH.nil)
        rw [if_pos (by kernel_rfl)]
        refine wp_call_ret 35 #[.string FS] (by go_simp) ?_
        refine (HGS.out _).mono ?_
        rintro e wk ⟨rfl, kk⟩
        refine ⟨_, rfl, hK.out _ _ (⟨RB.then hHeld.1 kk, kk.heap hHeld.2 (by simp)⟩) (fun hHeld => ?_)⟩
        clear hK K
        simp only [Act.put, List.getElem_toArray, List.getElem_cons_succ, List.getElem_cons_zero, List.setIfInBounds_toArray, List.set_cons_zero, List.set_cons_succ]
        refine takeP 7 (v := .bool true) (some 67) #[true, true, true, true, true, true, true, true, false, false, false, false, false, false, false, false] rfl rfl rfl (by kernel_rfl) (by kernel_rfl) (by kernel_rfl) (fun _ _ _ h => h) (Or.inl ⟨by rfl, fun W hSW => by go_simp⟩) hHeld ?_
        simp only [Act.put, List.setIfInBounds_toArray, List.set_cons_zero, List.set_cons_succ]
        refine takeP 8 (v := .bool true) (some 68) #[true, true, true, true, true, true, true, true, true, false, false, false, false, false, false, false] rfl rfl rfl (by kernel_rfl) (by kernel_rfl) (by kernel_rfl) (fun _ _ _ h => h) (Or.inl ⟨by rfl, fun W hSW => by go_simp⟩) hHeld ?_
        simp only [Act.put, List.setIfInBounds_toArray, List.set_cons_zero, List.set_cons_succ]
        refine takeP 9 (v := .pointer (some ⟨w2.heap.size, 1, none⟩)) (some 69) #[true, true, true, true, true, true, true, true, true, true, false, false, false, false, false, false] rfl rfl rfl (by kernel_rfl) (by kernel_rfl) (by kernel_rfl) (fun _ _ _ h => h) (Or.inl ⟨by rfl, fun W hSW => by go_simp⟩) hHeld ?_
        simp only [Act.put, List.setIfInBounds_toArray, List.set_cons_zero, List.set_cons_succ]
        refine takeP 10 (v := .string SD) (some 70) #[true, true, true, true, true, true, true, true, true, true, true, false, false, false, false, false] rfl rfl rfl (by kernel_rfl) (by kernel_rfl) (by kernel_rfl) (fun _ _ _ h => h) (Or.inl ⟨by rfl, fun W hSW => by have hcc := (cell_of_row W w2.heap.size 1 _ _ _ hSW.2); go_simp⟩) hHeld ?_
        simp only [Act.put, List.setIfInBounds_toArray, List.set_cons_zero, List.set_cons_succ]
        refine wpAnyH_ready (rs := [11]) (by kernel_rfl) (by simp) (AllReadyH.cons rfl (fun K hK => ?_) AllReadyH.nil)
        rw [if_pos (by kernel_rfl)]
        refine wp_call_ret 38 #[.string SD, .string ⟨#[120]⟩] (by go_simp) ?_
        refine (HPD.out _).mono ?_
        rintro e wk ⟨rfl, kk⟩
        refine ⟨_, rfl, hK.out _ _ (⟨RB.then hHeld.1 kk, kk.heap hHeld.2 (by simp)⟩) (fun hHeld => ?_)⟩
        clear hK K
        simp only [Act.put, List.getElem_toArray, List.getElem_cons_succ, List.getElem_cons_zero, List.setIfInBounds_toArray, List.set_cons_zero, List.set_cons_succ]
        refine wpAnyH_ready (rs := [12]) (by kernel_rfl) (by simp) (AllReadyH.cons rfl (fun K hK => ?_) AllReadyH.nil)
        rw [if_pos (by kernel_rfl)]
        refine wp_call_ret 35 #[.string FD] (by go_simp) ?_
        refine (HGD.out _).mono ?_
        rintro e wk ⟨rfl, kk⟩
        refine ⟨_, rfl, hK.out _ _ (⟨RB.then hHeld.1 kk, kk.heap hHeld.2 (by simp)⟩) (fun hHeld => ?_)⟩
        clear hK K
        simp only [Act.put, List.getElem_toArray, List.getElem_cons_succ, List.getElem_cons_zero, List.setIfInBounds_toArray, List.set_cons_zero, List.set_cons_succ]
        refine takeP 13 (v := .bool gd) (some 73) #[true, true, true, true, true, true, true, true, true, true, true, true, true, true, false, false] rfl rfl rfl (by kernel_rfl) (by kernel_rfl) (by kernel_rfl) (fun _ _ _ h => h) (Or.inl ⟨by rfl, fun W hSW => by go_simp⟩) hHeld ?_
        simp only [Act.put, List.setIfInBounds_toArray, List.set_cons_zero, List.set_cons_succ]
        refine wpAnyH_ready (rs := [14]) (by kernel_rfl) (by simp) (AllReadyH.cons rfl (fun K hK => ?_) AllReadyH.nil)
        rw [if_pos (by kernel_rfl)]
        obtain ⟨cs, hcs, hc4⟩ := hHeld.1.2
        refine wp_store_row 37 (.tmp 2) (.tmp 60) rfl w.heap.size #[.string SS, .string SD, .bool false, .bool false] rfl rfl 37 cs hcs (by kernel_rfl) hc4 (by simp [Value.oneCell']) ?_
        have hbF := setRow_heap (cs' := #[.string SS, .string SD, .bool false, .bool false]) hcs
        refine hK.out _ _ ⟨RB.set hHeld.1 #[.string SS, .string SD, .bool false, .bool false] rfl, (setRow_other (by omega) _).trans hHeld.2⟩ (fun hHeld => ?_)
        clear hK K
        simp only [Act.put, List.getElem_toArray, List.getElem_cons_succ, List.getElem_cons_zero, List.setIfInBounds_toArray, List.set_cons_zero, List.set_cons_succ]
        refine takeP 15 (v := .bool gd) (some 3) #[true, true, true, true, true, true, true, true, true, true, true, true, true, true, true, true] rfl rfl rfl (by kernel_rfl) (by kernel_rfl) (by kernel_rfl) (fun _ _ _ h => h) (Or.inl ⟨by rfl, fun W hSW => by go_simp⟩) hHeld ?_
        simp only [Act.put, List.setIfInBounds_toArray, List.set_cons_zero, List.set_cons_succ]
        refine wpAnyH_done (by kernel_rfl) ?_ _
        generalize hWF : World.setRow _ w.heap.size #[.string SS, .string SD, .bool false, .bool false] = WF at *
        have c0 : WF.cell? ⟨w.heap.size, 0, none⟩ = some (.string SS) := by rw [cell_of_row _ _ _ _ _ _ hbF]; rfl
        have c1 : WF.cell? ⟨w.heap.size, 1, none⟩ = some (.string SD) := by rw [cell_of_row _ _ _ _ _ _ hbF]; rfl
        have c2' : WF.cell? ⟨w.heap.size, 2, none⟩ = some (.bool false) := by rw [cell_of_row _ _ _ _ _ _ hbF]; rfl
        have c3 : WF.cell? ⟨w.heap.size, 3, none⟩ = some (.bool false) := by rw [cell_of_row _ _ _ _ _ _ hbF]; rfl
        have HKF : Hid (Kept [] w WF) := hHeld.1.1
        clear hbF hcs hc4 hHeld hWF
        go_wp2
        exact bodyPost_ret (v := .tuple #[.agg #[.string SS, .string SD, .bool false, .bool false], .bool gd]) (by simp [results, Tryd.results34, go_sem, *]) rfl ⟨by first | rfl | (cases gd <;> rfl) | (cases gs <;> cases gd <;> rfl), HKF.out⟩
  · have hrd : readL (p) = none := by rw [HRL.out, not_two h2]; rfl
    suffices hgoal : Calls Tryd.prog 34 #[.string (strOfNums (p))] w fun e w' => e = .returned (.tuple #[.agg #[.string ⟨#[]⟩, .string ⟨#[]⟩, .bool false, .bool false], .bool false]) ∧ Kept [] w w' by
      refine hgoal.mono ?_
      rintro e w' ⟨rfl, k⟩
      refine ⟨⟨[], [], false, false⟩, ?_, ?_, k⟩
      · rw [hrd]
        rfl
      · intro q hq
        rw [hrd] at hq
        cases hq
    obtain ⟨n, hn⟩ : ∃ n, n = (cutC [] p).length := ⟨_, rfl⟩
    have HPT : Hid (∀ W, Calls Tryd.prog 52 #[.string (strOfNums p), .int .u8 58] W fun e w' => ∃ g c, e = .returned (.slice (some ⟨g, 0, none⟩) n c) ∧ Kept [] W w') := fun W => by
      refine (PartedC_any p ho hl W).mono ?_
      rintro e w2 ⟨v2, rfl, ho2, k2⟩
      obtain ⟨g, c, rfl, _, _⟩ := ho2.form (cutC_ne p [])
      exact ⟨g, c, by rw [hn], k2⟩
    rw [← hn] at h2
    have hn2 : ¬ (n : Int) = 2 := by omega
    clear hrd hn ho HRL h2
    generalize strOfNums p = SP at *
    go_enter Tryd.func34, Tryd.ntmps34
    go_wp2_with (first
      | (go_at_call 52
         refine (HPT.out _).mono ?_
         rintro e w2 ⟨g2, c2, rfl, k2⟩
         have HR2 : Hid (RB w w2) := (by rw [← HW1.out] at k2; exact RB.then HRB.out k2)
         clear k2)
      | (with_reducible refine wpList_step ?_
         intro K hK
         rw [if_pos (by kernel_rfl)]
         obtain ⟨cs, hcs, hc4⟩ := HR2.out.2
         refine wp_store_row 37 (.tmp 2) (.tmp 29) rfl w.heap.size #[.string ⟨#[]⟩, .string ⟨#[]⟩, .bool false, .bool false] rfl rfl 37 cs hcs (by kernel_rfl) hc4 (by simp [Value.oneCell']) ?_
         refine hK _ _ ?_
         clear hK K
         have hbF := setRow_heap (cs' := #[.string ⟨#[]⟩, .string ⟨#[]⟩, .bool false, .bool false]) hcs
         have hkF : Kept [] w (w2.setRow w.heap.size #[.string ⟨#[]⟩, .string ⟨#[]⟩, .bool false, .bool false]) := (RB.set HR2.out _ rfl).1
         generalize hWF : World.setRow _ w.heap.size #[.string ⟨#[]⟩, .string ⟨#[]⟩, .bool false, .bool false] = WF at *
         have c0 : WF.cell? ⟨w.heap.size, 0, none⟩ = some (.string ⟨#[]⟩) := (by rw [cell_of_row _ _ _ _ _ _ hbF]; rfl)
         have c1 : WF.cell? ⟨w.heap.size, 1, none⟩ = some (.string ⟨#[]⟩) := (by rw [cell_of_row _ _ _ _ _ _ hbF]; rfl)
         have c2' : WF.cell? ⟨w.heap.size, 2, none⟩ = some (.bool false) := (by rw [cell_of_row _ _ _ _ _ _ hbF]; rfl)
         have c3 : WF.cell? ⟨w.heap.size, 3, none⟩ = some (.bool false) := (by rw [cell_of_row _ _ _ _ _ _ hbF]; rfl)
         have HKF : Hid (Kept [] w WF) := hkF
         clear hbF hkF hcs hc4 hWF))
    exact bodyPost_ret (v := .tuple #[.agg #[.string ⟨#[]⟩, .string ⟨#[]⟩, .bool false, .bool false], .bool false]) (by simp [results, Tryd.results34, go_sem, *]) rfl ⟨rfl, HKF.out⟩
end Go.Proofs.YtbdkalicgpdbkaaDoor
