/-
  THE LAW: RefsMerge answers true.
-/
import Derived.Test.YtmjbaficdoehfaaMg12
import Derived.Test.YtmjbaficdoehfaaTkP
namespace Go.Proofs.Ytmjbaficdoehfaa
open Go.RowKit Go.Sort

theorem row_facts {w : World} {b o : Nat} {x : StampE} (h : w.rangeAt b o x.row) : w.cell? ⟨b, o, none⟩ = some (.string (strOfNums x.name)) ∧ w.cell? ⟨b, o + 33, none⟩ = some (.int .u64 x.seq) ∧ w.rangeAt b (o + 1) (x.id.map (Value.int .u8)) := by
  refine ⟨?_, ?_, fun j v hv => ?_⟩
  · have := h 0 _ rfl
    rwa [Nat.add_zero] at this
  · have h1 := x.get_seq
    rw [List.getElem?_toArray] at h1
    exact h 33 _ h1
  · rw [List.getElem?_map] at hv
    obtain ⟨a, ha, rfl⟩ := Option.map_eq_some_iff.1 hv
    have h1 := x.get_id j a ha
    rw [List.getElem?_toArray] at h1
    have h2 := h (1 + j) _ h1
    rwa [← Nat.add_assoc] at h2
theorem Merge_to {va vb : Value} {A B M : List StampE} {w : World} (ha : StampsAt w va A) (hb : StampsAt w vb B) (hl : A.length + B.length ≤ 1000000) (hM : MergedTo (A ++ B) M) :
    Calls Try.prog 5 #[va, vb] w fun e w' => ∃ ao cap, e = .returned (.slice ao M.length cap) ∧ StampsAt w' (.slice ao M.length cap) M ∧ Kept [] w w' := by
  refine (Merge_any va vb A B w ha hb hl).mono ?_
  rintro e w' ⟨v', N, rfl, h1, h2, h3, h4⟩
  obtain rfl := h1.uniq hM
  obtain ⟨ao, cap, rfl⟩ := h3.is
  exact ⟨ao, cap, rfl, h3.at (by rw [List.length_append] at h2; omega), h4⟩
theorem Merge14_to {va vb : Value} {A B M : List StampE} {w : World} (ha : StampsAt w va A) (hb : StampsAt w vb B) (hl : A.length + B.length ≤ 100000) (hm : M.length ≤ 100000) (hM : MergedTo (A ++ B) M) :
    Calls Try.prog 9 #[va, vb] w fun e w' => ∃ ao cap, e = .returned (.slice ao M.length cap) ∧ StampsAt w' (.slice ao M.length cap) M ∧ Kept [] w w' := by
  refine (Merge14_any va vb A B w ha hb hl).mono ?_
  rintro e w' ⟨v', N, rfl, h1, h3, h4⟩
  obtain rfl := h1.uniq hM
  obtain ⟨ao, cap, rfl⟩ := h3.is
  exact ⟨ao, cap, rfl, h3.at (by omega), h4⟩
theorem EqSt_same {va vb : Value} {L M : List StampE} {w : World} (ha : StampsAt w va L) (hb : StampsAt w vb M) (h : L = M) :
    Calls Try.prog 6 #[va, vb] w fun e w' => e = .returned (.bool true) ∧ Kept [] w w' := by
  have h1 := EqStamps_any va vb L M w ha hb
  rw [decide_eq_true h] at h1
  exact h1
theorem two_ways {A B C N X Y : List StampE} (hX : MergedTo (A ++ B ++ C) X) (hN : MergedTo (C ++ B) N) (hY : MergedTo (A ++ N) Y) : X = Y := by
  have h1 : MergedTo (N ++ A) Y := hY.mono fun x => by rw [List.mem_append, List.mem_append]; exact or_comm
  have h2 : MergedTo (C ++ B ++ A) Y := hN.again h1
  refine hX.uniq (h2.mono fun x => ?_)
  simp only [List.mem_append]
  constructor
  · rintro ((h | h) | h)
    · exact .inr h
    · exact .inl (.inr h)
    · exact .inl (.inl h)
  · rintro ((h | h) | h)
    · exact .inr h
    · exact .inl (.inr h)
    · exact .inl (.inl h)
theorem oneA_row : oneA.row = ([.string ⟨#[97]⟩, .int .u8 0, .int .u8 0, .int .u8 0, .int .u8 0, .int .u8 0, .int .u8 0, .int .u8 0, .int .u8 0, .int .u8 0, .int .u8 0, .int .u8 0, .int .u8 0, .int .u8 0, .int .u8 0, .int .u8 0, .int .u8 0, .int .u8 0, .int .u8 0, .int .u8 0, .int .u8 0, .int .u8 0, .int .u8 0, .int .u8 0, .int .u8 0, .int .u8 0, .int .u8 0, .int .u8 0, .int .u8 0, .int .u8 0, .int .u8 0, .int .u8 0, .int .u8 0, .int .u64 1] : List Value) := by kernel_rfl
theorem oneB_row : oneB.row = ([.string ⟨#[97]⟩, .int .u8 0, .int .u8 0, .int .u8 0, .int .u8 0, .int .u8 0, .int .u8 0, .int .u8 0, .int .u8 0, .int .u8 0, .int .u8 0, .int .u8 0, .int .u8 0, .int .u8 0, .int .u8 0, .int .u8 0, .int .u8 0, .int .u8 0, .int .u8 0, .int .u8 0, .int .u8 0, .int .u8 0, .int .u8 0, .int .u8 0, .int .u8 0, .int .u8 0, .int .u8 0, .int .u8 0, .int .u8 0, .int .u8 0, .int .u8 0, .int .u8 0, .int .u8 0, .int .u64 2] : List Value) := by kernel_rfl
theorem Try.builtOneA : Try.prog.built 32 [(0, .string ⟨#[97]⟩), (2, .int .u64 1)] = some ([.string ⟨#[97]⟩, .int .u8 0, .int .u8 0, .int .u8 0, .int .u8 0, .int .u8 0, .int .u8 0, .int .u8 0, .int .u8 0, .int .u8 0, .int .u8 0, .int .u8 0, .int .u8 0, .int .u8 0, .int .u8 0, .int .u8 0, .int .u8 0, .int .u8 0, .int .u8 0, .int .u8 0, .int .u8 0, .int .u8 0, .int .u8 0, .int .u8 0, .int .u8 0, .int .u8 0, .int .u8 0, .int .u8 0, .int .u8 0, .int .u8 0, .int .u8 0, .int .u8 0, .int .u8 0, .int .u64 1] : List Value).toArray := by kernel_rfl
theorem Try.builtOneB : Try.prog.built 32 [(0, .string ⟨#[97]⟩), (2, .int .u64 2)] = some ([.string ⟨#[97]⟩, .int .u8 0, .int .u8 0, .int .u8 0, .int .u8 0, .int .u8 0, .int .u8 0, .int .u8 0, .int .u8 0, .int .u8 0, .int .u8 0, .int .u8 0, .int .u8 0, .int .u8 0, .int .u8 0, .int .u8 0, .int .u8 0, .int .u8 0, .int .u8 0, .int .u8 0, .int .u8 0, .int .u8 0, .int .u8 0, .int .u8 0, .int .u8 0, .int .u8 0, .int .u8 0, .int .u8 0, .int .u8 0, .int .u8 0, .int .u8 0, .int .u8 0, .int .u8 0, .int .u64 2] : List Value).toArray := by kernel_rfl
theorem cmpZ_geq {xs ys : List Int} (h : ¬ cmpB xs ys < 0) : 0 ≤ cmpZ xs ys := by rw [cmpZ_cmpB]; omega
set_option maxRecDepth 100000 in
set_option maxHeartbeats 16000000 in
set_option linter.unusedSimpArgs false in
theorem mergeLaw_any (va vb vc : Value) (A B C : List StampE) (w : World) (ha : StampsAt w va A) (hb : StampsAt w vb B) (hc : StampsAt w vc C) (hl : A.length + B.length + C.length ≤ 90000) :
    Calls Try.prog 3 #[.agg #[va, vb, vc]] w fun e w' => e = .returned (.bool true) ∧ Kept [] w w' := by
  obtain ⟨aA, cA, rfl, _, _⟩ := ha.is
  obtain ⟨aB, cB, rfl, _, _⟩ := hb.is
  obtain ⟨aC, cC, rfl, _, _⟩ := hc.is
  obtain ⟨W0, hW0⟩ : ∃ W0, W0 = w.alloc (.cells #[.slice aA A.length cA, .slice aB B.length cB, .slice aC C.length cC] 24) := ⟨_, rfl⟩
  have k0 : Kept [] w W0 := by rw [hW0]; exact (Kept.refl _ _).alloc _
  have hbx : W0.heap[w.heap.size]? = some (.cells #[.slice aA A.length cA, .slice aB B.length cB, .slice aC C.length cC] 24 (0, 0)) := by rw [hW0]; exact heap_alloc_new w _
  have HBX : Hid (∀ W, Kept [] W0 W → W.cell? ⟨w.heap.size, 0, none⟩ = some (.slice aA A.length cA) ∧ W.cell? ⟨w.heap.size, 1, none⟩ = some (.slice aB B.length cB) ∧ W.cell? ⟨w.heap.size, 2, none⟩ = some (.slice aC C.length cC)) := fun W k => by
    have h := k.heap hbx (by simp)
    exact ⟨by rw [cell_of_row _ _ _ _ _ _ h]; rfl, by rw [cell_of_row _ _ _ _ _ _ h]; rfl, by rw [cell_of_row _ _ _ _ _ _ h]; rfl⟩
  have HW0 : Hid (W0 = w.alloc (.cells #[.slice aA A.length cA, .slice aB B.length cB, .slice aC C.length cC] 24)) := hW0
  have HK0 : Hid (Kept [] w W0) := k0
  have HA : Hid (∀ W, Kept [] W0 W → StampsAt W (.slice aA A.length cA) A) := fun W k => ha.kept (k0.then k)
  have HB : Hid (∀ W, Kept [] W0 W → StampsAt W (.slice aB B.length cB) B) := fun W k => hb.kept (k0.then k)
  have HC : Hid (∀ W, Kept [] W0 W → StampsAt W (.slice aC C.length cC) C) := fun W k => hc.kept (k0.then k)
  have HSA : Hid (∀ W, Kept [] W0 W → Calls Try.prog 4 #[.slice aA A.length cA] W fun e w' => ∃ g cap, e = .returned (.slice (some ⟨g, 0, none⟩) A.length cap) ∧ A.length + 1 ≤ cap ∧ StampOwn w' W.heap.size (.slice (some ⟨g, 0, none⟩) A.length cap) A ∧ w'.cell? ⟨g, A.length * 34 + 33, none⟩ = some (.int .u64 77) ∧ Kept [] W w') := fun W k => stamps_any _ A W (ha.kept (k0.then k)) (by omega)
  have HSB : Hid (∀ W, Kept [] W0 W → Calls Try.prog 4 #[.slice aB B.length cB] W fun e w' => ∃ g cap, e = .returned (.slice (some ⟨g, 0, none⟩) B.length cap) ∧ B.length + 1 ≤ cap ∧ StampOwn w' W.heap.size (.slice (some ⟨g, 0, none⟩) B.length cap) B ∧ w'.cell? ⟨g, B.length * 34 + 33, none⟩ = some (.int .u64 77) ∧ Kept [] W w') := fun W k => stamps_any _ B W (hb.kept (k0.then k)) (by omega)
  have HCL : Hid (∀ W, Kept [] W0 W → Kept [] W0 W ∧ W.cell? ⟨w.heap.size, 0, none⟩ = some (.slice aA A.length cA) ∧ W.cell? ⟨w.heap.size, 1, none⟩ = some (.slice aB B.length cB)) := fun W k => ⟨k, (HBX.out W k).1, (HBX.out W k).2.1⟩
  have hun := Try.underlying24
  have has := Try.underlying32
  have hui := Try.underlying29
  clear ha hb hc k0 hbx hW0
  go_enter Try.func3, Try.ntmps3
  go_wp2_with fail
  rw [← HW0.out]
  go_wp2_with fail
  refine wp_region_held_drew (S := Kept [] W0) (by kernel_rfl) ((Kept.refl [] W0).drew) (fun hHeld => ?_)
  refine takeP 0 (v := .pointer (some ⟨w.heap.size, 0, none⟩)) (some 16) #[true, false, false, false, false, false, false, false] rfl rfl rfl (by kernel_rfl) (by kernel_rfl) (by kernel_rfl) (fun _ _ _ h => h) (Or.inl ⟨by rfl, fun W hSW => by go_simp⟩) hHeld ?_
  simp only [Act.put, List.setIfInBounds_toArray, List.set_cons_zero, List.set_cons_succ]
  refine takeP 1 (v := .slice aA A.length cA) (some 17) #[true, true, false, false, false, false, false, false] rfl rfl rfl (by kernel_rfl) (by kernel_rfl) (by kernel_rfl) (fun _ _ _ h => h) (Or.inl ⟨by rfl, fun W hSW => by have hcc := (HBX.out W hSW).1; go_simp⟩) hHeld ?_
  simp only [Act.put, List.setIfInBounds_toArray, List.set_cons_zero, List.set_cons_succ]
  refine takeP 3 (v := .pointer (some ⟨w.heap.size, 1, none⟩)) (some 19) #[true, true, false, true, false, false, false, false] rfl rfl rfl (by kernel_rfl) (by kernel_rfl) (by kernel_rfl) (fun _ _ _ h => h) (Or.inl ⟨by rfl, fun W hSW => by go_simp⟩) hHeld ?_
  simp only [Act.put, List.setIfInBounds_toArray, List.set_cons_zero, List.set_cons_succ]
  refine takeP 4 (v := .slice aB B.length cB) (some 20) #[true, true, false, true, true, false, false, false] rfl rfl rfl (by kernel_rfl) (by kernel_rfl) (by kernel_rfl) (fun _ _ _ h => h) (Or.inl ⟨by rfl, fun W hSW => by have hcc := (HBX.out W hSW).2.1; go_simp⟩) hHeld ?_
  simp only [Act.put, List.setIfInBounds_toArray, List.set_cons_zero, List.set_cons_succ]
  refine wpAnyH_ready (rs := [2]) (by kernel_rfl) (by simp) (AllReadyH.cons rfl (fun K hK => ?_) AllReadyH.nil)
  rw [if_pos (by kernel_rfl)]
  refine wp_call_ret 4 #[.slice aA A.length cA] (by go_simp) ?_
  refine (HSA.out _ hHeld).mono ?_
  rintro e w1 ⟨g1, c1, rfl, hcp1, ho1, hm1, k1⟩
  have H1 : Hid (StampsAt w1 (.slice (some ⟨g1, 0, none⟩) A.length c1) A ∧ w1.cell? ⟨g1, A.length * 34 + 33, none⟩ = some (.int .u64 77)) := ⟨ho1.at (by omega), hm1⟩
  clear ho1 hm1
  refine ⟨_, rfl, hK.out _ _ (hHeld.then k1) (fun hHeld => ?_)⟩
  clear hK K
  simp only [Act.put, List.getElem_toArray, List.getElem_cons_succ, List.getElem_cons_zero, List.setIfInBounds_toArray, List.set_cons_zero, List.set_cons_succ]
  refine wpAnyH_ready (rs := [5]) (by kernel_rfl) (by simp) (AllReadyH.cons rfl (fun K hK => ?_) AllReadyH.nil)
  rw [if_pos (by kernel_rfl)]
  refine wp_call_ret 4 #[.slice aB B.length cB] (by go_simp) ?_
  refine (HSB.out _ hHeld).mono ?_
  rintro e w2 ⟨g2, c2, rfl, hcp2, ho2, hm2, k2⟩
  have H2 : Hid (StampsAt w2 (.slice (some ⟨g2, 0, none⟩) B.length c2) B ∧ w2.cell? ⟨g2, B.length * 34 + 33, none⟩ = some (.int .u64 77) ∧ Kept [] w1 w2) := ⟨ho2.at (by omega), hm2, k2⟩
  clear ho2 hm2
  refine ⟨_, rfl, hK.out _ _ (hHeld.then k2) (fun hHeld => ?_)⟩
  clear hK K
  simp only [Act.put, List.getElem_toArray, List.getElem_cons_succ, List.getElem_cons_zero, List.setIfInBounds_toArray, List.set_cons_zero, List.set_cons_succ]
  refine takeP 6 (v := .slice (some ⟨g1, 0, none⟩) A.length c1) (some 3) #[true, true, true, true, true, true, true, false] rfl rfl rfl (by kernel_rfl) (by kernel_rfl) (by kernel_rfl) (fun _ _ _ h => h) (Or.inl ⟨by rfl, fun W hSW => by go_simp⟩) hHeld ?_
  simp only [Act.put, List.setIfInBounds_toArray, List.set_cons_zero, List.set_cons_succ]
  refine takeP 7 (v := .slice (some ⟨g2, 0, none⟩) B.length c2) (some 4) #[true, true, true, true, true, true, true, true] rfl rfl rfl (by kernel_rfl) (by kernel_rfl) (by kernel_rfl) (fun _ _ _ h => h) (Or.inl ⟨by rfl, fun W hSW => by go_simp⟩) hHeld ?_
  simp only [Act.put, List.setIfInBounds_toArray, List.set_cons_zero, List.set_cons_succ]
  refine wpAnyH_done (by kernel_rfl) ?_ _
  have HS1 : Hid (∀ W, Kept [] w2 W → StampsAt W (.slice (some ⟨g1, 0, none⟩) A.length c1) A ∧ W.cell? ⟨g1, A.length * 34 + 33, none⟩ = some (.int .u64 77)) := fun W k => ⟨H1.out.1.kept (H2.out.2.2.then k), (H2.out.2.2.then k).cell H1.out.2 (by simp)⟩
  have HS2 : Hid (∀ W, Kept [] w2 W → StampsAt W (.slice (some ⟨g2, 0, none⟩) B.length c2) B ∧ W.cell? ⟨g2, B.length * 34 + 33, none⟩ = some (.int .u64 77)) := fun W k => ⟨H2.out.1.kept k, k.cell H2.out.2.1 (by simp)⟩
  have HW2 : Hid (Kept [] W0 w2) := hHeld
  clear H1 H2 HCL k1 k2 hHeld
  have HEA0 : Hid (∀ W, Kept [] w2 W → Calls Try.prog 6 #[.slice (some ⟨g1, 0, none⟩) A.length c1, .slice aA A.length cA] W fun e w' => e = .returned (.bool true) ∧ Kept [] W w') := fun W k => by
    have h := EqStamps_any _ _ A A W (HS1.out W k).1 (HA.out W (HW2.out.then k))
    rw [decide_eq_true rfl] at h
    exact h
  have HEB0 : Hid (∀ W, Kept [] w2 W → Calls Try.prog 6 #[.slice (some ⟨g2, 0, none⟩) B.length c2, .slice aB B.length cB] W fun e w' => e = .returned (.bool true) ∧ Kept [] W w') := fun W k => by
    have h := EqStamps_any _ _ B B W (HS2.out W k).1 (HB.out W (HW2.out.then k))
    rw [decide_eq_true rfl] at h
    exact h
  go_wp2_with (first
    | (go_at_call 5; refine (Merge_any _ _ A B w2 (HS1.out w2 (Kept.refl _ _)).1 (HS2.out w2 (Kept.refl _ _)).1 (by omega)).mono ?_
       rintro e w3 ⟨v3, M, rfl, hM, hMl, hMo, k3⟩
       obtain ⟨a3, c3, rfl⟩ := hMo.is
       have HM : Hid (MergedTo (A ++ B) M ∧ StampsAt w3 (.slice a3 M.length c3) M ∧ Kept [] w2 w3) := ⟨hM, hMo.at (by rw [List.length_append] at hMl; omega), k3⟩
       have hml : M.length ≤ A.length + B.length := (by rw [← List.length_append]; exact hMl)
       have cb3 := (HBX.out w3 (HW2.out.then k3)).1
       clear hM hMl hMo k3)
    | (go_at_call 6; first
        | ((with_reducible refine (HEA0.out w3 HM.out.2.2).mono ?_)
           rintro e w4 ⟨rfl, k4⟩
           have HK4 : Hid (Kept [] w3 w4) := k4
           have cb4 := (HBX.out w4 (HW2.out.then (HM.out.2.2.then k4))).2.1
           clear k4)
        | ((with_reducible refine (HEB0.out w4 (HM.out.2.2.then HK4.out)).mono ?_)
           rintro e w5 ⟨rfl, k5⟩
           have HK5 : Hid (Kept [] w3 w5) := HK4.out.then k5
           clear k5)))
  have HM3 : Hid (MergedTo (A ++ B) M) := HM.out.1
  have HSM : Hid (∀ W, Kept [] w3 W → StampsAt W (.slice a3 M.length c3) M) := fun W k => HM.out.2.1.kept k
  have wA : IntKind.i64.wrap ((A.length : Int) + 1) = (A.length : Int) + 1 := by rw [IntKind.wrap_i64]; omega
  have wB : IntKind.i64.wrap ((B.length : Int) + 1) = (B.length : Int) + 1 := by rw [IntKind.wrap_i64]; omega
  have HKM : Hid (Kept [] w3 w5) := HK5.out
  have HW3 : Hid (Kept [] W0 w3) := HW2.out.then HM.out.2.2
  have HS13 : Hid (∀ W, Kept [] w3 W → StampsAt W (.slice (some ⟨g1, 0, none⟩) A.length c1) A ∧ W.cell? ⟨g1, A.length * 34 + 33, none⟩ = some (.int .u64 77)) := fun W k => HS1.out W (HM.out.2.2.then k)
  have HS23 : Hid (∀ W, Kept [] w3 W → StampsAt W (.slice (some ⟨g2, 0, none⟩) B.length c2) B ∧ W.cell? ⟨g2, B.length * 34 + 33, none⟩ = some (.int .u64 77)) := fun W k => HS2.out W (HM.out.2.2.then k)
  clear cb3 cb4 HEA0 HEB0 HK4 HK5 HM HS1 HS2 HW2
  go_wp2_with fail
  refine region_quiet (Kept [] w3) (by kernel_rfl) (by kernel_rfl) (HKM.out.drew) ?_
  with_reducible refine wpQuiet_step ?_
  intro K hK
  rw [if_pos (by kernel_rfl)]
  refine move_at (.tmp 3) rfl (.slice (some ⟨g1, 0, none⟩) A.length c1) rfl (hK _ ?_)
  clear hK K
  simp only [Act.put, List.setIfInBounds_toArray, List.set_cons_zero, List.set_cons_succ]
  with_reducible refine wpQuiet_step ?_
  intro K hK
  rw [if_pos (by kernel_rfl)]
  refine move_at (.tmp 3) rfl (.slice (some ⟨g1, 0, none⟩) A.length c1) rfl (hK _ ?_)
  clear hK K
  simp only [Act.put, List.setIfInBounds_toArray, List.set_cons_zero, List.set_cons_succ]
  with_reducible refine wpQuiet_step ?_
  intro K hK
  rw [if_pos (by kernel_rfl)]
  refine val_at (.int .i64 (A.length : Int)) (fun W => by go_simp) (hK _ ?_)
  clear hK K
  simp only [Act.put, List.setIfInBounds_toArray, List.set_cons_zero, List.set_cons_succ]
  with_reducible refine wpQuiet_step ?_
  intro K hK
  rw [if_pos (by kernel_rfl)]
  refine val_at (.int .i64 ((A.length : Int) + 1)) (fun W => by go_simp) (hK _ ?_)
  clear hK K
  simp only [Act.put, List.setIfInBounds_toArray, List.set_cons_zero, List.set_cons_succ]
  with_reducible refine wpQuiet_step ?_
  intro K hK
  rw [if_pos (by kernel_rfl)]
  refine upto_at 22 34 (by kernel_rfl) (fun w => Try.sizeOf32 w) (.tmp 37) (.tmp 40) rfl (some ⟨g1, 0, none⟩) A.length c1 rfl (A.length + 1) ((A.length : Int) + 1) (by omega) rfl hcp1 (hK _ ?_)
  clear hK K
  simp only [Act.put, List.setIfInBounds_toArray, List.set_cons_zero, List.set_cons_succ]
  with_reducible refine wpQuiet_step ?_
  intro K hK
  rw [if_pos (by kernel_rfl)]
  refine move_at (.tmp 4) rfl (.slice (some ⟨g2, 0, none⟩) B.length c2) rfl (hK _ ?_)
  clear hK K
  simp only [Act.put, List.setIfInBounds_toArray, List.set_cons_zero, List.set_cons_succ]
  with_reducible refine wpQuiet_step ?_
  intro K hK
  rw [if_pos (by kernel_rfl)]
  refine move_at (.tmp 4) rfl (.slice (some ⟨g2, 0, none⟩) B.length c2) rfl (hK _ ?_)
  clear hK K
  simp only [Act.put, List.setIfInBounds_toArray, List.set_cons_zero, List.set_cons_succ]
  with_reducible refine wpQuiet_step ?_
  intro K hK
  rw [if_pos (by kernel_rfl)]
  refine val_at (.int .i64 (B.length : Int)) (fun W => by go_simp) (hK _ ?_)
  clear hK K
  simp only [Act.put, List.setIfInBounds_toArray, List.set_cons_zero, List.set_cons_succ]
  with_reducible refine wpQuiet_step ?_
  intro K hK
  rw [if_pos (by kernel_rfl)]
  refine val_at (.int .i64 ((B.length : Int) + 1)) (fun W => by go_simp) (hK _ ?_)
  clear hK K
  simp only [Act.put, List.setIfInBounds_toArray, List.set_cons_zero, List.set_cons_succ]
  with_reducible refine wpQuiet_step ?_
  intro K hK
  rw [if_pos (by kernel_rfl)]
  refine upto_at 22 34 (by kernel_rfl) (fun w => Try.sizeOf32 w) (.tmp 42) (.tmp 45) rfl (some ⟨g2, 0, none⟩) B.length c2 rfl (B.length + 1) ((B.length : Int) + 1) (by omega) rfl hcp2 (hK _ ?_)
  clear hK K
  simp only [Act.put, List.setIfInBounds_toArray, List.set_cons_zero, List.set_cons_succ]
  with_reducible refine wpQuiet_step ?_
  intro K hK
  rw [if_pos (by kernel_rfl)]
  refine val_at (.slice (some ⟨g1, 0, none⟩) (A.length + 1) c1) (fun W => by go_simp) (hK _ ?_)
  clear hK K
  simp only [Act.put, List.setIfInBounds_toArray, List.set_cons_zero, List.set_cons_succ]
  with_reducible refine wpQuiet_step ?_
  intro K hK
  rw [if_pos (by kernel_rfl)]
  refine val_at (.slice (some ⟨g2, 0, none⟩) (B.length + 1) c2) (fun W => by go_simp) (hK _ ?_)
  clear hK K
  simp only [Act.put, List.setIfInBounds_toArray, List.set_cons_zero, List.set_cons_succ]
  refine wpQuiet_nil fun w6 hk6 => ?_
  have HK6 : Hid (Kept [] w3 w6) := hk6
  clear hk6
  have cA6 := (HS13.out w6 HK6.out).2
  have cB6 := (HS23.out w6 HK6.out).2
  have iA0 : (0 : Int) ≤ (A.length : Int) := by omega
  have iA1 : (A.length : Int) < (A.length : Int) + 1 := by omega
  have iB0 : (0 : Int) ≤ (B.length : Int) := by omega
  have iB1 : (B.length : Int) < (B.length : Int) + 1 := by omega
  go_wp2
  clear cA6 cB6 iA0 iA1 iB0 iB1 wA wB HKM HS13 HS23 hcp1 hcp2
  go_loopw [8] (fun s8 wr => ∃ k : Nat, k ≤ M.length ∧ s8 = .int .i64 k ∧ Hid (Kept [] w3 wr)) (fun s8 _ => M.length - (intOf s8).toNat)
  case atStart => exact ⟨0, Nat.zero_le _, rfl, HK6.out⟩
  case round =>
    clear HK6
    obtain ⟨k, hk, rfl, HI⟩ := hrel
    by_cases hlt : k < M.length
    · have i0 : (k : Int) < (M.length : Int) := by omega
      have i1 : (0 : Int) ≤ (k : Int) := by omega
      have t0 : decide ((k : Int) < (M.length : Int)) = true := decide_eq_true i0
      obtain ⟨x, hx⟩ : ∃ x, M[k]? = some x := ⟨_, List.getElem?_eq_getElem hlt⟩
      obtain ⟨bM, oM, rfl, hrm⟩ : ∃ bM oM, a3 = some ⟨bM, oM, none⟩ ∧ ∀ (j : Nat) z, M[j]? = some z → ∀ W, Kept [] wr W → W.rangeAt bM (oM + j * 34) z.row := by
        obtain ⟨b, o, hb, _⟩ := (HSM.out wr HI.out).at hx
        refine ⟨b, o, hb, fun j z hz W q => ?_⟩
        obtain ⟨b', o', hb', h⟩ := (HSM.out wr HI.out).at hz
        rw [hb] at hb'
        injection hb' with hb'
        injection hb' with e1 e2 _
        rw [e1, e2]
        exact h W q
      have HX : Hid (∀ W, Kept [] wr W → W.cell? ⟨bM, oM + k * 34, none⟩ = some (.string (strOfNums x.name)) ∧ W.rangeAt bM (oM + k * 34) x.row) := fun W q => ⟨(row_facts (hrm k x hx W q)).1, hrm k x hx W q⟩
      have hsx : (Try.prog.info? 32).map (·.size) = some x.row.length := by rw [x.row_len]; exact stampSize
      have HKb : Hid (∀ W, Kept [] wr W → Kept [] W0 W) := fun W q => HW3.out.then (HI.out.then q)
      have HHA0 : Hid (∀ W, Kept [] wr W → Calls Try.prog 7 #[.slice aA A.length cA, .agg x.row.toArray] W fun e w' => e = .returned (.bool (decide (x ∈ A))) ∧ Kept [] wr w') := fun W q => (have_any _ A x W (HA.out W (HKb.out W q))).mono fun e w' ⟨h1, h2⟩ => ⟨h1, q.then h2⟩
      have HHB0 : Hid (∀ W, Kept [] wr W → Calls Try.prog 7 #[.slice aB B.length cB, .agg x.row.toArray] W fun e w' => e = .returned (.bool (decide (x ∈ B))) ∧ Kept [] wr w') := fun W q => (have_any _ B x W (HB.out W (HKb.out W q))).mono fun e w' ⟨h1, h2⟩ => ⟨h1, q.then h2⟩
      have HAB : Hid (x ∈ A ∨ x ∈ B) := List.mem_append.1 (HM3.out.sub x (List.mem_of_getElem? hx))
      by_cases hf : k = 0
      · have t1 : decide ((0 : Int) < (k : Int)) = false := decide_eq_false (by omega)
        have t1' : ¬ ((0 : Int) < (k : Int)) := by omega
        have HZ : Hid (k = 0) := hf
        clear hx hrm hf
        by_cases hin : x ∈ A
        · have HHA : Hid (∀ W, Kept [] wr W → Calls Try.prog 7 #[.slice aA A.length cA, .agg x.row.toArray] W fun e w' => e = .returned (.bool true) ∧ Kept [] wr w') := by
            have h := HHA0.out
            rw [decide_eq_true hin] at h
            exact h
          clear HHA0 HHB0 HAB hin
          generalize x.row = xr at *
          generalize strOfNums x.name = SX at *
          as_aux_lemma =>
            go_wp2_with fail
            refine region_quiet (Kept [] wr) (by kernel_rfl) (by kernel_rfl) ((Kept.refl [] wr).drew) ?_
            with_reducible refine wpQuiet_step ?_
            intro K hK
            rw [if_pos (by kernel_rfl)]
            refine move_at (.tmp 8) rfl (.int .i64 (k : Int)) rfl (hK _ ?_)
            clear hK K
            simp only [Act.put, List.setIfInBounds_toArray, List.set_cons_zero, List.set_cons_succ]
            with_reducible refine wpQuiet_step ?_
            intro K hK
            rw [if_pos (by kernel_rfl)]
            refine val_at (.bool false) (fun W => by have hz := HZ.out; go_simp) (hK _ ?_)
            clear hK K
            simp only [Act.put, List.setIfInBounds_toArray, List.set_cons_zero, List.set_cons_succ]
            with_reducible refine wpQuiet_step ?_
            intro K hK
            rw [if_pos (by kernel_rfl)]
            refine move_at (.tmp 70) rfl (.bool false) rfl (hK _ ?_)
            clear hK K
            simp only [Act.put, List.setIfInBounds_toArray, List.set_cons_zero, List.set_cons_succ]
            with_reducible refine wpQuiet_step ?_
            intro K hK
            rw [if_neg (not_of_false (by kernel_rfl))]
            refine hK _ ?_
            clear hK K
            simp only [Act.put, List.setIfInBounds_toArray, List.set_cons_zero, List.set_cons_succ]
            with_reducible refine wpQuiet_step ?_
            intro K hK
            rw [if_neg (not_of_false (by kernel_rfl))]
            refine hK _ ?_
            clear hK K
            simp only [Act.put, List.setIfInBounds_toArray, List.set_cons_zero, List.set_cons_succ]
            with_reducible refine wpQuiet_step ?_
            intro K hK
            rw [if_neg (not_of_false (by kernel_rfl))]
            refine hK _ ?_
            clear hK K
            simp only [Act.put, List.setIfInBounds_toArray, List.set_cons_zero, List.set_cons_succ]
            with_reducible refine wpQuiet_step ?_
            intro K hK
            rw [if_neg (not_of_false (by kernel_rfl))]
            refine hK _ ?_
            clear hK K
            simp only [Act.put, List.setIfInBounds_toArray, List.set_cons_zero, List.set_cons_succ]
            with_reducible refine wpQuiet_step ?_
            intro K hK
            rw [if_neg (not_of_false (by kernel_rfl))]
            refine hK _ ?_
            clear hK K
            simp only [Act.put, List.setIfInBounds_toArray, List.set_cons_zero, List.set_cons_succ]
            with_reducible refine wpQuiet_step ?_
            intro K hK
            rw [if_neg (not_of_false (by kernel_rfl))]
            refine hK _ ?_
            clear hK K
            simp only [Act.put, List.setIfInBounds_toArray, List.set_cons_zero, List.set_cons_succ]
            with_reducible refine wpQuiet_step ?_
            intro K hK
            rw [if_neg (not_of_false (by kernel_rfl))]
            refine hK _ ?_
            clear hK K
            simp only [Act.put, List.setIfInBounds_toArray, List.set_cons_zero, List.set_cons_succ]
            with_reducible refine wpQuiet_step ?_
            intro K hK
            rw [if_neg (not_of_false (by kernel_rfl))]
            refine hK _ ?_
            clear hK K
            simp only [Act.put, List.setIfInBounds_toArray, List.set_cons_zero, List.set_cons_succ]
            with_reducible refine wpQuiet_step ?_
            intro K hK
            rw [if_neg (not_of_false (by kernel_rfl))]
            refine hK _ ?_
            clear hK K
            simp only [Act.put, List.setIfInBounds_toArray, List.set_cons_zero, List.set_cons_succ]
            with_reducible refine wpQuiet_step ?_
            intro K hK
            rw [if_neg (not_of_false (by kernel_rfl))]
            refine hK _ ?_
            clear hK K
            simp only [Act.put, List.setIfInBounds_toArray, List.set_cons_zero, List.set_cons_succ]
            with_reducible refine wpQuiet_step ?_
            intro K hK
            rw [if_neg (not_of_false (by kernel_rfl))]
            refine hK _ ?_
            clear hK K
            simp only [Act.put, List.setIfInBounds_toArray, List.set_cons_zero, List.set_cons_succ]
            with_reducible refine wpQuiet_step ?_
            intro K hK
            rw [if_neg (not_of_false (by kernel_rfl))]
            refine hK _ ?_
            clear hK K
            simp only [Act.put, List.setIfInBounds_toArray, List.set_cons_zero, List.set_cons_succ]
            with_reducible refine wpQuiet_step ?_
            intro K hK
            rw [if_pos (by kernel_rfl)]
            refine val_at (.bool false) (fun W => by go_simp) (hK _ ?_)
            clear hK K
            simp only [Act.put, List.setIfInBounds_toArray, List.set_cons_zero, List.set_cons_succ]
            with_reducible refine wpQuiet_step ?_
            intro K hK
            rw [if_pos (by kernel_rfl)]
            refine move_at (.tmp 84) rfl (.bool false) rfl (hK _ ?_)
            clear hK K
            simp only [Act.put, List.setIfInBounds_toArray, List.set_cons_zero, List.set_cons_succ]
            with_reducible refine wpQuiet_step ?_
            intro K hK
            rw [if_pos (by kernel_rfl)]
            refine val_at (.pointer (some ⟨w.heap.size, 0, none⟩)) (fun W => by go_simp) (hK _ ?_)
            clear hK K
            simp only [Act.put, List.setIfInBounds_toArray, List.set_cons_zero, List.set_cons_succ]
            with_reducible refine wpQuiet_step ?_
            intro K hK
            rw [if_pos (by kernel_rfl)]
            refine valS_at (.slice aA A.length cA) (fun W hW => by have hcc := (HBX.out W (HKb.out W hW)).1; go_simp) (hK _ ?_)
            clear hK K
            simp only [Act.put, List.setIfInBounds_toArray, List.set_cons_zero, List.set_cons_succ]
            with_reducible refine wpQuiet_step ?_
            intro K hK
            rw [if_pos (by kernel_rfl)]
            refine move_at (.tmp 5) rfl (.slice (some ⟨bM, oM, none⟩) M.length c3) rfl (hK _ ?_)
            clear hK K
            simp only [Act.put, List.setIfInBounds_toArray, List.set_cons_zero, List.set_cons_succ]
            with_reducible refine wpQuiet_step ?_
            intro K hK
            rw [if_pos (by kernel_rfl)]
            refine move_at (.tmp 8) rfl (.int .i64 (k : Int)) rfl (hK _ ?_)
            clear hK K
            simp only [Act.put, List.setIfInBounds_toArray, List.set_cons_zero, List.set_cons_succ]
            with_reducible refine wpQuiet_step ?_
            intro K hK
            rw [if_pos (by kernel_rfl)]
            refine val_at (.pointer (some ⟨bM, oM + k * 34, none⟩)) (fun W => by go_simp) (hK _ ?_)
            clear hK K
            simp only [Act.put, List.setIfInBounds_toArray, List.set_cons_zero, List.set_cons_succ]
            with_reducible refine wpQuiet_step ?_
            intro K hK
            rw [if_pos (by kernel_rfl)]
            refine row_at 32 (.tmp 90) rfl bM (oM + k * 34) rfl xr _ (fun W hW => (HX.out W hW).2) has rfl hsx (hK _ ?_)
            clear hK K
            simp only [Act.put, List.setIfInBounds_toArray, List.set_cons_zero, List.set_cons_succ]
            with_reducible refine wpQuiet_step ?_
            intro K hK
            rw [if_pos (by kernel_rfl)]
            refine call_at 7 #[.slice aA A.length cA, .agg xr.toArray] (.bool true) (fun W => by go_simp) HHA.out (hK _ ?_)
            clear hK K
            simp only [Act.put, List.setIfInBounds_toArray, List.set_cons_zero, List.set_cons_succ]
            with_reducible refine wpQuiet_step ?_
            intro K hK
            rw [if_pos (by kernel_rfl)]
            refine val_at (.bool false) (fun W => by go_simp) (hK _ ?_)
            clear hK K
            simp only [Act.put, List.setIfInBounds_toArray, List.set_cons_zero, List.set_cons_succ]
            with_reducible refine wpQuiet_step ?_
            intro K hK
            rw [if_pos (by kernel_rfl)]
            refine move_at (.tmp 93) rfl (.bool false) rfl (hK _ ?_)
            clear hK K
            simp only [Act.put, List.setIfInBounds_toArray, List.set_cons_zero, List.set_cons_succ]
            with_reducible refine wpQuiet_step ?_
            intro K hK
            rw [if_neg (not_of_false (by kernel_rfl))]
            refine hK _ ?_
            clear hK K
            simp only [Act.put, List.setIfInBounds_toArray, List.set_cons_zero, List.set_cons_succ]
            with_reducible refine wpQuiet_step ?_
            intro K hK
            rw [if_neg (not_of_false (by kernel_rfl))]
            refine hK _ ?_
            clear hK K
            simp only [Act.put, List.setIfInBounds_toArray, List.set_cons_zero, List.set_cons_succ]
            with_reducible refine wpQuiet_step ?_
            intro K hK
            rw [if_neg (not_of_false (by kernel_rfl))]
            refine hK _ ?_
            clear hK K
            simp only [Act.put, List.setIfInBounds_toArray, List.set_cons_zero, List.set_cons_succ]
            with_reducible refine wpQuiet_step ?_
            intro K hK
            rw [if_neg (not_of_false (by kernel_rfl))]
            refine hK _ ?_
            clear hK K
            simp only [Act.put, List.setIfInBounds_toArray, List.set_cons_zero, List.set_cons_succ]
            with_reducible refine wpQuiet_step ?_
            intro K hK
            rw [if_neg (not_of_false (by kernel_rfl))]
            refine hK _ ?_
            clear hK K
            simp only [Act.put, List.setIfInBounds_toArray, List.set_cons_zero, List.set_cons_succ]
            with_reducible refine wpQuiet_step ?_
            intro K hK
            rw [if_neg (not_of_false (by kernel_rfl))]
            refine hK _ ?_
            clear hK K
            simp only [Act.put, List.setIfInBounds_toArray, List.set_cons_zero, List.set_cons_succ]
            with_reducible refine wpQuiet_step ?_
            intro K hK
            rw [if_neg (not_of_false (by kernel_rfl))]
            refine hK _ ?_
            clear hK K
            simp only [Act.put, List.setIfInBounds_toArray, List.set_cons_zero, List.set_cons_succ]
            with_reducible refine wpQuiet_step ?_
            intro K hK
            rw [if_neg (not_of_false (by kernel_rfl))]
            refine hK _ ?_
            clear hK K
            simp only [Act.put, List.setIfInBounds_toArray, List.set_cons_zero, List.set_cons_succ]
            with_reducible refine wpQuiet_step ?_
            intro K hK
            rw [if_pos (by kernel_rfl)]
            refine val_at (.bool false) (fun W => by go_simp) (hK _ ?_)
            clear hK K
            simp only [Act.put, List.setIfInBounds_toArray, List.set_cons_zero, List.set_cons_succ]
            with_reducible refine wpQuiet_step ?_
            intro K hK
            rw [if_pos (by kernel_rfl)]
            refine val_at (.bool false) (fun W => by go_simp) (hK _ ?_)
            clear hK K
            simp only [Act.put, List.setIfInBounds_toArray, List.set_cons_zero, List.set_cons_succ]
            refine wpQuiet_nil fun w7 hk7 => ?_
            have HK7 : Hid (Kept [] wr w7) := hk7
            clear hk7
            have HK8 : Hid (Kept [] w3 w7) := HI.out.then HK7.out
            clear HK7 HX HHA hsx HKb
            go_wp2
            go_roundw
            case rel => exact ⟨k + 1, by omega, by go_num, HK8.out⟩
            case measure => simp [intOf]; omega
        · have HHA : Hid (∀ W, Kept [] wr W → Calls Try.prog 7 #[.slice aA A.length cA, .agg x.row.toArray] W fun e w' => e = .returned (.bool false) ∧ Kept [] wr w') := by
            have h := HHA0.out
            rw [decide_eq_false hin] at h
            exact h
          have HHB : Hid (∀ W, Kept [] wr W → Calls Try.prog 7 #[.slice aB B.length cB, .agg x.row.toArray] W fun e w' => e = .returned (.bool true) ∧ Kept [] wr w') := by
            have h := HHB0.out
            rw [decide_eq_true (HAB.out.resolve_left hin)] at h
            exact h
          clear HHA0 HHB0 HAB hin
          generalize x.row = xr at *
          generalize strOfNums x.name = SX at *
          as_aux_lemma =>
            go_wp2_with fail
            refine region_quiet (Kept [] wr) (by kernel_rfl) (by kernel_rfl) ((Kept.refl [] wr).drew) ?_
            with_reducible refine wpQuiet_step ?_
            intro K hK
            rw [if_pos (by kernel_rfl)]
            refine move_at (.tmp 8) rfl (.int .i64 (k : Int)) rfl (hK _ ?_)
            clear hK K
            simp only [Act.put, List.setIfInBounds_toArray, List.set_cons_zero, List.set_cons_succ]
            with_reducible refine wpQuiet_step ?_
            intro K hK
            rw [if_pos (by kernel_rfl)]
            refine val_at (.bool false) (fun W => by have hz := HZ.out; go_simp) (hK _ ?_)
            clear hK K
            simp only [Act.put, List.setIfInBounds_toArray, List.set_cons_zero, List.set_cons_succ]
            with_reducible refine wpQuiet_step ?_
            intro K hK
            rw [if_pos (by kernel_rfl)]
            refine move_at (.tmp 70) rfl (.bool false) rfl (hK _ ?_)
            clear hK K
            simp only [Act.put, List.setIfInBounds_toArray, List.set_cons_zero, List.set_cons_succ]
            with_reducible refine wpQuiet_step ?_
            intro K hK
            rw [if_neg (not_of_false (by kernel_rfl))]
            refine hK _ ?_
            clear hK K
            simp only [Act.put, List.setIfInBounds_toArray, List.set_cons_zero, List.set_cons_succ]
            with_reducible refine wpQuiet_step ?_
            intro K hK
            rw [if_neg (not_of_false (by kernel_rfl))]
            refine hK _ ?_
            clear hK K
            simp only [Act.put, List.setIfInBounds_toArray, List.set_cons_zero, List.set_cons_succ]
            with_reducible refine wpQuiet_step ?_
            intro K hK
            rw [if_neg (not_of_false (by kernel_rfl))]
            refine hK _ ?_
            clear hK K
            simp only [Act.put, List.setIfInBounds_toArray, List.set_cons_zero, List.set_cons_succ]
            with_reducible refine wpQuiet_step ?_
            intro K hK
            rw [if_neg (not_of_false (by kernel_rfl))]
            refine hK _ ?_
            clear hK K
            simp only [Act.put, List.setIfInBounds_toArray, List.set_cons_zero, List.set_cons_succ]
            with_reducible refine wpQuiet_step ?_
            intro K hK
            rw [if_neg (not_of_false (by kernel_rfl))]
            refine hK _ ?_
            clear hK K
            simp only [Act.put, List.setIfInBounds_toArray, List.set_cons_zero, List.set_cons_succ]
            with_reducible refine wpQuiet_step ?_
            intro K hK
            rw [if_neg (not_of_false (by kernel_rfl))]
            refine hK _ ?_
            clear hK K
            simp only [Act.put, List.setIfInBounds_toArray, List.set_cons_zero, List.set_cons_succ]
            with_reducible refine wpQuiet_step ?_
            intro K hK
            rw [if_neg (not_of_false (by kernel_rfl))]
            refine hK _ ?_
            clear hK K
            simp only [Act.put, List.setIfInBounds_toArray, List.set_cons_zero, List.set_cons_succ]
            with_reducible refine wpQuiet_step ?_
            intro K hK
            rw [if_neg (not_of_false (by kernel_rfl))]
            refine hK _ ?_
            clear hK K
            simp only [Act.put, List.setIfInBounds_toArray, List.set_cons_zero, List.set_cons_succ]
            with_reducible refine wpQuiet_step ?_
            intro K hK
            rw [if_neg (not_of_false (by kernel_rfl))]
            refine hK _ ?_
            clear hK K
            simp only [Act.put, List.setIfInBounds_toArray, List.set_cons_zero, List.set_cons_succ]
            with_reducible refine wpQuiet_step ?_
            intro K hK
            rw [if_neg (not_of_false (by kernel_rfl))]
            refine hK _ ?_
            clear hK K
            simp only [Act.put, List.setIfInBounds_toArray, List.set_cons_zero, List.set_cons_succ]
            with_reducible refine wpQuiet_step ?_
            intro K hK
            rw [if_neg (not_of_false (by kernel_rfl))]
            refine hK _ ?_
            clear hK K
            simp only [Act.put, List.setIfInBounds_toArray, List.set_cons_zero, List.set_cons_succ]
            with_reducible refine wpQuiet_step ?_
            intro K hK
            rw [if_neg (not_of_false (by kernel_rfl))]
            refine hK _ ?_
            clear hK K
            simp only [Act.put, List.setIfInBounds_toArray, List.set_cons_zero, List.set_cons_succ]
            with_reducible refine wpQuiet_step ?_
            intro K hK
            rw [if_pos (by kernel_rfl)]
            refine val_at (.bool false) (fun W => by go_simp) (hK _ ?_)
            clear hK K
            simp only [Act.put, List.setIfInBounds_toArray, List.set_cons_zero, List.set_cons_succ]
            with_reducible refine wpQuiet_step ?_
            intro K hK
            rw [if_pos (by kernel_rfl)]
            refine move_at (.tmp 84) rfl (.bool false) rfl (hK _ ?_)
            clear hK K
            simp only [Act.put, List.setIfInBounds_toArray, List.set_cons_zero, List.set_cons_succ]
            with_reducible refine wpQuiet_step ?_
            intro K hK
            rw [if_pos (by kernel_rfl)]
            refine val_at (.pointer (some ⟨w.heap.size, 0, none⟩)) (fun W => by go_simp) (hK _ ?_)
            clear hK K
            simp only [Act.put, List.setIfInBounds_toArray, List.set_cons_zero, List.set_cons_succ]
            with_reducible refine wpQuiet_step ?_
            intro K hK
            rw [if_pos (by kernel_rfl)]
            refine valS_at (.slice aA A.length cA) (fun W hW => by have hcc := (HBX.out W (HKb.out W hW)).1; go_simp) (hK _ ?_)
            clear hK K
            simp only [Act.put, List.setIfInBounds_toArray, List.set_cons_zero, List.set_cons_succ]
            with_reducible refine wpQuiet_step ?_
            intro K hK
            rw [if_pos (by kernel_rfl)]
            refine move_at (.tmp 5) rfl (.slice (some ⟨bM, oM, none⟩) M.length c3) rfl (hK _ ?_)
            clear hK K
            simp only [Act.put, List.setIfInBounds_toArray, List.set_cons_zero, List.set_cons_succ]
            with_reducible refine wpQuiet_step ?_
            intro K hK
            rw [if_pos (by kernel_rfl)]
            refine move_at (.tmp 8) rfl (.int .i64 (k : Int)) rfl (hK _ ?_)
            clear hK K
            simp only [Act.put, List.setIfInBounds_toArray, List.set_cons_zero, List.set_cons_succ]
            with_reducible refine wpQuiet_step ?_
            intro K hK
            rw [if_pos (by kernel_rfl)]
            refine val_at (.pointer (some ⟨bM, oM + k * 34, none⟩)) (fun W => by go_simp) (hK _ ?_)
            clear hK K
            simp only [Act.put, List.setIfInBounds_toArray, List.set_cons_zero, List.set_cons_succ]
            with_reducible refine wpQuiet_step ?_
            intro K hK
            rw [if_pos (by kernel_rfl)]
            refine row_at 32 (.tmp 90) rfl bM (oM + k * 34) rfl xr _ (fun W hW => (HX.out W hW).2) has rfl hsx (hK _ ?_)
            clear hK K
            simp only [Act.put, List.setIfInBounds_toArray, List.set_cons_zero, List.set_cons_succ]
            with_reducible refine wpQuiet_step ?_
            intro K hK
            rw [if_pos (by kernel_rfl)]
            refine call_at 7 #[.slice aA A.length cA, .agg xr.toArray] (.bool false) (fun W => by go_simp) HHA.out (hK _ ?_)
            clear hK K
            simp only [Act.put, List.setIfInBounds_toArray, List.set_cons_zero, List.set_cons_succ]
            with_reducible refine wpQuiet_step ?_
            intro K hK
            rw [if_pos (by kernel_rfl)]
            refine val_at (.bool true) (fun W => by go_simp) (hK _ ?_)
            clear hK K
            simp only [Act.put, List.setIfInBounds_toArray, List.set_cons_zero, List.set_cons_succ]
            with_reducible refine wpQuiet_step ?_
            intro K hK
            rw [if_pos (by kernel_rfl)]
            refine move_at (.tmp 93) rfl (.bool true) rfl (hK _ ?_)
            clear hK K
            simp only [Act.put, List.setIfInBounds_toArray, List.set_cons_zero, List.set_cons_succ]
            with_reducible refine wpQuiet_step ?_
            intro K hK
            rw [if_pos (by kernel_rfl)]
            refine val_at (.pointer (some ⟨w.heap.size, 1, none⟩)) (fun W => by go_simp) (hK _ ?_)
            clear hK K
            simp only [Act.put, List.setIfInBounds_toArray, List.set_cons_zero, List.set_cons_succ]
            with_reducible refine wpQuiet_step ?_
            intro K hK
            rw [if_pos (by kernel_rfl)]
            refine valS_at (.slice aB B.length cB) (fun W hW => by have hcc := (HBX.out W (HKb.out W hW)).2.1; go_simp) (hK _ ?_)
            clear hK K
            simp only [Act.put, List.setIfInBounds_toArray, List.set_cons_zero, List.set_cons_succ]
            with_reducible refine wpQuiet_step ?_
            intro K hK
            rw [if_pos (by kernel_rfl)]
            refine move_at (.tmp 5) rfl (.slice (some ⟨bM, oM, none⟩) M.length c3) rfl (hK _ ?_)
            clear hK K
            simp only [Act.put, List.setIfInBounds_toArray, List.set_cons_zero, List.set_cons_succ]
            with_reducible refine wpQuiet_step ?_
            intro K hK
            rw [if_pos (by kernel_rfl)]
            refine move_at (.tmp 8) rfl (.int .i64 (k : Int)) rfl (hK _ ?_)
            clear hK K
            simp only [Act.put, List.setIfInBounds_toArray, List.set_cons_zero, List.set_cons_succ]
            with_reducible refine wpQuiet_step ?_
            intro K hK
            rw [if_pos (by kernel_rfl)]
            refine val_at (.pointer (some ⟨bM, oM + k * 34, none⟩)) (fun W => by go_simp) (hK _ ?_)
            clear hK K
            simp only [Act.put, List.setIfInBounds_toArray, List.set_cons_zero, List.set_cons_succ]
            with_reducible refine wpQuiet_step ?_
            intro K hK
            rw [if_pos (by kernel_rfl)]
            refine row_at 32 (.tmp 99) rfl bM (oM + k * 34) rfl xr _ (fun W hW => (HX.out W hW).2) has rfl hsx (hK _ ?_)
            clear hK K
            simp only [Act.put, List.setIfInBounds_toArray, List.set_cons_zero, List.set_cons_succ]
            with_reducible refine wpQuiet_step ?_
            intro K hK
            rw [if_pos (by kernel_rfl)]
            refine call_at 7 #[.slice aB B.length cB, .agg xr.toArray] (.bool true) (fun W => by go_simp) HHB.out (hK _ ?_)
            clear hK K
            simp only [Act.put, List.setIfInBounds_toArray, List.set_cons_zero, List.set_cons_succ]
            with_reducible refine wpQuiet_step ?_
            intro K hK
            rw [if_pos (by kernel_rfl)]
            refine val_at (.bool false) (fun W => by go_simp) (hK _ ?_)
            clear hK K
            simp only [Act.put, List.setIfInBounds_toArray, List.set_cons_zero, List.set_cons_succ]
            with_reducible refine wpQuiet_step ?_
            intro K hK
            rw [if_pos (by kernel_rfl)]
            refine val_at (.bool false) (fun W => by go_simp) (hK _ ?_)
            clear hK K
            simp only [Act.put, List.setIfInBounds_toArray, List.set_cons_zero, List.set_cons_succ]
            with_reducible refine wpQuiet_step ?_
            intro K hK
            rw [if_pos (by kernel_rfl)]
            refine val_at (.bool false) (fun W => by go_simp) (hK _ ?_)
            clear hK K
            simp only [Act.put, List.setIfInBounds_toArray, List.set_cons_zero, List.set_cons_succ]
            refine wpQuiet_nil fun w7 hk7 => ?_
            have HK7 : Hid (Kept [] wr w7) := hk7
            clear hk7
            have HK8 : Hid (Kept [] w3 w7) := HI.out.then HK7.out
            clear HK7 HX HHA hsx HKb
            go_wp2
            go_roundw
            case rel => exact ⟨k + 1, by omega, by go_num, HK8.out⟩
            case measure => simp [intOf]; omega
      · have t1 : decide ((0 : Int) < (k : Int)) = true := decide_eq_true (by omega)
        obtain ⟨j, hj⟩ : ∃ j, k = j + 1 := ⟨k - 1, by omega⟩
        have sj : (k : Int) - 1 = (j : Int) := by omega
        have wj : IntKind.i64.wrap (j : Int) = j := by rw [IntKind.wrap_i64]; omega
        have j0 : (0 : Int) ≤ (j : Int) := by omega
        have j1 : (j : Int) < (M.length : Int) := by omega
        obtain ⟨p, hp⟩ : ∃ p, M[j]? = some p := ⟨_, List.getElem?_eq_getElem (by omega)⟩
        have HP : Hid (∀ W, Kept [] wr W → W.cell? ⟨bM, oM + j * 34, none⟩ = some (.string (strOfNums p.name))) := fun W q => (row_facts (hrm j p hp W q)).1
        have hls : Op.bytesLess (strOfNums p.name).toList (strOfNums x.name).toList = true := by
          rw [str_less p.on x.on]
          refine decide_eq_true ?_
          have h := List.pairwise_iff_getElem.1 HM3.out.ord j k (by omega) hlt (by omega)
          rw [List.getElem?_eq_getElem (by omega)] at hp
          rw [List.getElem?_eq_getElem hlt] at hx
          rw [Option.some.inj hp, Option.some.inj hx] at h
          exact h
        have HZ : Hid (0 < k) := by
          have h : 0 < k := by omega
          exact h
        clear hx hrm hf hp hj
        by_cases hin : x ∈ A
        · have HHA : Hid (∀ W, Kept [] wr W → Calls Try.prog 7 #[.slice aA A.length cA, .agg x.row.toArray] W fun e w' => e = .returned (.bool true) ∧ Kept [] wr w') := by
            have h := HHA0.out
            rw [decide_eq_true hin] at h
            exact h
          clear HHA0 HHB0 HAB hin
          generalize x.row = xr at *
          generalize strOfNums x.name = SX at *
          generalize strOfNums p.name = SP at *
          as_aux_lemma =>
            go_wp2_with fail
            refine region_quiet (Kept [] wr) (by kernel_rfl) (by kernel_rfl) ((Kept.refl [] wr).drew) ?_
            with_reducible refine wpQuiet_step ?_
            intro K hK
            rw [if_pos (by kernel_rfl)]
            refine move_at (.tmp 8) rfl (.int .i64 (k : Int)) rfl (hK _ ?_)
            clear hK K
            simp only [Act.put, List.setIfInBounds_toArray, List.set_cons_zero, List.set_cons_succ]
            with_reducible refine wpQuiet_step ?_
            intro K hK
            rw [if_pos (by kernel_rfl)]
            refine val_at (.bool true) (fun W => by have hz := HZ.out; go_simp) (hK _ ?_)
            clear hK K
            simp only [Act.put, List.setIfInBounds_toArray, List.set_cons_zero, List.set_cons_succ]
            with_reducible refine wpQuiet_step ?_
            intro K hK
            rw [if_pos (by kernel_rfl)]
            refine move_at (.tmp 70) rfl (.bool true) rfl (hK _ ?_)
            clear hK K
            simp only [Act.put, List.setIfInBounds_toArray, List.set_cons_zero, List.set_cons_succ]
            with_reducible refine wpQuiet_step ?_
            intro K hK
            rw [if_pos (by kernel_rfl)]
            refine move_at (.tmp 5) rfl (.slice (some ⟨bM, oM, none⟩) M.length c3) rfl (hK _ ?_)
            clear hK K
            simp only [Act.put, List.setIfInBounds_toArray, List.set_cons_zero, List.set_cons_succ]
            with_reducible refine wpQuiet_step ?_
            intro K hK
            rw [if_pos (by kernel_rfl)]
            refine move_at (.tmp 8) rfl (.int .i64 (k : Int)) rfl (hK _ ?_)
            clear hK K
            simp only [Act.put, List.setIfInBounds_toArray, List.set_cons_zero, List.set_cons_succ]
            with_reducible refine wpQuiet_step ?_
            intro K hK
            rw [if_pos (by kernel_rfl)]
            refine val_at (.int .i64 (j : Int)) (fun W => by go_simp) (hK _ ?_)
            clear hK K
            simp only [Act.put, List.setIfInBounds_toArray, List.set_cons_zero, List.set_cons_succ]
            with_reducible refine wpQuiet_step ?_
            intro K hK
            rw [if_pos (by kernel_rfl)]
            refine val_at (.pointer (some ⟨bM, oM + j * 34, none⟩)) (fun W => by go_simp) (hK _ ?_)
            clear hK K
            simp only [Act.put, List.setIfInBounds_toArray, List.set_cons_zero, List.set_cons_succ]
            with_reducible refine wpQuiet_step ?_
            intro K hK
            rw [if_pos (by kernel_rfl)]
            refine val_at (.pointer (some ⟨bM, oM + j * 34, none⟩)) (fun W => by go_simp) (hK _ ?_)
            clear hK K
            simp only [Act.put, List.setIfInBounds_toArray, List.set_cons_zero, List.set_cons_succ]
            with_reducible refine wpQuiet_step ?_
            intro K hK
            rw [if_pos (by kernel_rfl)]
            refine valS_at (.string SP) (fun W hW => by have hcc := (HP.out W hW); go_simp) (hK _ ?_)
            clear hK K
            simp only [Act.put, List.setIfInBounds_toArray, List.set_cons_zero, List.set_cons_succ]
            with_reducible refine wpQuiet_step ?_
            intro K hK
            rw [if_pos (by kernel_rfl)]
            refine move_at (.tmp 5) rfl (.slice (some ⟨bM, oM, none⟩) M.length c3) rfl (hK _ ?_)
            clear hK K
            simp only [Act.put, List.setIfInBounds_toArray, List.set_cons_zero, List.set_cons_succ]
            with_reducible refine wpQuiet_step ?_
            intro K hK
            rw [if_pos (by kernel_rfl)]
            refine move_at (.tmp 8) rfl (.int .i64 (k : Int)) rfl (hK _ ?_)
            clear hK K
            simp only [Act.put, List.setIfInBounds_toArray, List.set_cons_zero, List.set_cons_succ]
            with_reducible refine wpQuiet_step ?_
            intro K hK
            rw [if_pos (by kernel_rfl)]
            refine val_at (.pointer (some ⟨bM, oM + k * 34, none⟩)) (fun W => by go_simp) (hK _ ?_)
            clear hK K
            simp only [Act.put, List.setIfInBounds_toArray, List.set_cons_zero, List.set_cons_succ]
            with_reducible refine wpQuiet_step ?_
            intro K hK
            rw [if_pos (by kernel_rfl)]
            refine val_at (.pointer (some ⟨bM, oM + k * 34, none⟩)) (fun W => by go_simp) (hK _ ?_)
            clear hK K
            simp only [Act.put, List.setIfInBounds_toArray, List.set_cons_zero, List.set_cons_succ]
            with_reducible refine wpQuiet_step ?_
            intro K hK
            rw [if_pos (by kernel_rfl)]
            refine valS_at (.string SX) (fun W hW => by have hcc := (HX.out W hW).1; go_simp) (hK _ ?_)
            clear hK K
            simp only [Act.put, List.setIfInBounds_toArray, List.set_cons_zero, List.set_cons_succ]
            with_reducible refine wpQuiet_step ?_
            intro K hK
            rw [if_pos (by kernel_rfl)]
            refine val_at (.bool false) (fun W => by go_simp) (hK _ ?_)
            clear hK K
            simp only [Act.put, List.setIfInBounds_toArray, List.set_cons_zero, List.set_cons_succ]
            with_reducible refine wpQuiet_step ?_
            intro K hK
            rw [if_pos (by kernel_rfl)]
            refine val_at (.bool false) (fun W => by go_simp) (hK _ ?_)
            clear hK K
            simp only [Act.put, List.setIfInBounds_toArray, List.set_cons_zero, List.set_cons_succ]
            with_reducible refine wpQuiet_step ?_
            intro K hK
            rw [if_pos (by kernel_rfl)]
            refine move_at (.tmp 84) rfl (.bool false) rfl (hK _ ?_)
            clear hK K
            simp only [Act.put, List.setIfInBounds_toArray, List.set_cons_zero, List.set_cons_succ]
            with_reducible refine wpQuiet_step ?_
            intro K hK
            rw [if_pos (by kernel_rfl)]
            refine val_at (.pointer (some ⟨w.heap.size, 0, none⟩)) (fun W => by go_simp) (hK _ ?_)
            clear hK K
            simp only [Act.put, List.setIfInBounds_toArray, List.set_cons_zero, List.set_cons_succ]
            with_reducible refine wpQuiet_step ?_
            intro K hK
            rw [if_pos (by kernel_rfl)]
            refine valS_at (.slice aA A.length cA) (fun W hW => by have hcc := (HBX.out W (HKb.out W hW)).1; go_simp) (hK _ ?_)
            clear hK K
            simp only [Act.put, List.setIfInBounds_toArray, List.set_cons_zero, List.set_cons_succ]
            with_reducible refine wpQuiet_step ?_
            intro K hK
            rw [if_pos (by kernel_rfl)]
            refine move_at (.tmp 5) rfl (.slice (some ⟨bM, oM, none⟩) M.length c3) rfl (hK _ ?_)
            clear hK K
            simp only [Act.put, List.setIfInBounds_toArray, List.set_cons_zero, List.set_cons_succ]
            with_reducible refine wpQuiet_step ?_
            intro K hK
            rw [if_pos (by kernel_rfl)]
            refine move_at (.tmp 8) rfl (.int .i64 (k : Int)) rfl (hK _ ?_)
            clear hK K
            simp only [Act.put, List.setIfInBounds_toArray, List.set_cons_zero, List.set_cons_succ]
            with_reducible refine wpQuiet_step ?_
            intro K hK
            rw [if_pos (by kernel_rfl)]
            refine val_at (.pointer (some ⟨bM, oM + k * 34, none⟩)) (fun W => by go_simp) (hK _ ?_)
            clear hK K
            simp only [Act.put, List.setIfInBounds_toArray, List.set_cons_zero, List.set_cons_succ]
            with_reducible refine wpQuiet_step ?_
            intro K hK
            rw [if_pos (by kernel_rfl)]
            refine row_at 32 (.tmp 90) rfl bM (oM + k * 34) rfl xr _ (fun W hW => (HX.out W hW).2) has rfl hsx (hK _ ?_)
            clear hK K
            simp only [Act.put, List.setIfInBounds_toArray, List.set_cons_zero, List.set_cons_succ]
            with_reducible refine wpQuiet_step ?_
            intro K hK
            rw [if_pos (by kernel_rfl)]
            refine call_at 7 #[.slice aA A.length cA, .agg xr.toArray] (.bool true) (fun W => by go_simp) HHA.out (hK _ ?_)
            clear hK K
            simp only [Act.put, List.setIfInBounds_toArray, List.set_cons_zero, List.set_cons_succ]
            with_reducible refine wpQuiet_step ?_
            intro K hK
            rw [if_pos (by kernel_rfl)]
            refine val_at (.bool false) (fun W => by go_simp) (hK _ ?_)
            clear hK K
            simp only [Act.put, List.setIfInBounds_toArray, List.set_cons_zero, List.set_cons_succ]
            with_reducible refine wpQuiet_step ?_
            intro K hK
            rw [if_pos (by kernel_rfl)]
            refine move_at (.tmp 93) rfl (.bool false) rfl (hK _ ?_)
            clear hK K
            simp only [Act.put, List.setIfInBounds_toArray, List.set_cons_zero, List.set_cons_succ]
            with_reducible refine wpQuiet_step ?_
            intro K hK
            rw [if_neg (not_of_false (by kernel_rfl))]
            refine hK _ ?_
            clear hK K
            simp only [Act.put, List.setIfInBounds_toArray, List.set_cons_zero, List.set_cons_succ]
            with_reducible refine wpQuiet_step ?_
            intro K hK
            rw [if_neg (not_of_false (by kernel_rfl))]
            refine hK _ ?_
            clear hK K
            simp only [Act.put, List.setIfInBounds_toArray, List.set_cons_zero, List.set_cons_succ]
            with_reducible refine wpQuiet_step ?_
            intro K hK
            rw [if_neg (not_of_false (by kernel_rfl))]
            refine hK _ ?_
            clear hK K
            simp only [Act.put, List.setIfInBounds_toArray, List.set_cons_zero, List.set_cons_succ]
            with_reducible refine wpQuiet_step ?_
            intro K hK
            rw [if_neg (not_of_false (by kernel_rfl))]
            refine hK _ ?_
            clear hK K
            simp only [Act.put, List.setIfInBounds_toArray, List.set_cons_zero, List.set_cons_succ]
            with_reducible refine wpQuiet_step ?_
            intro K hK
            rw [if_neg (not_of_false (by kernel_rfl))]
            refine hK _ ?_
            clear hK K
            simp only [Act.put, List.setIfInBounds_toArray, List.set_cons_zero, List.set_cons_succ]
            with_reducible refine wpQuiet_step ?_
            intro K hK
            rw [if_neg (not_of_false (by kernel_rfl))]
            refine hK _ ?_
            clear hK K
            simp only [Act.put, List.setIfInBounds_toArray, List.set_cons_zero, List.set_cons_succ]
            with_reducible refine wpQuiet_step ?_
            intro K hK
            rw [if_neg (not_of_false (by kernel_rfl))]
            refine hK _ ?_
            clear hK K
            simp only [Act.put, List.setIfInBounds_toArray, List.set_cons_zero, List.set_cons_succ]
            with_reducible refine wpQuiet_step ?_
            intro K hK
            rw [if_neg (not_of_false (by kernel_rfl))]
            refine hK _ ?_
            clear hK K
            simp only [Act.put, List.setIfInBounds_toArray, List.set_cons_zero, List.set_cons_succ]
            with_reducible refine wpQuiet_step ?_
            intro K hK
            rw [if_pos (by kernel_rfl)]
            refine val_at (.bool false) (fun W => by go_simp) (hK _ ?_)
            clear hK K
            simp only [Act.put, List.setIfInBounds_toArray, List.set_cons_zero, List.set_cons_succ]
            with_reducible refine wpQuiet_step ?_
            intro K hK
            rw [if_pos (by kernel_rfl)]
            refine val_at (.bool false) (fun W => by go_simp) (hK _ ?_)
            clear hK K
            simp only [Act.put, List.setIfInBounds_toArray, List.set_cons_zero, List.set_cons_succ]
            refine wpQuiet_nil fun w7 hk7 => ?_
            have HK7 : Hid (Kept [] wr w7) := hk7
            clear hk7
            have HK8 : Hid (Kept [] w3 w7) := HI.out.then HK7.out
            clear HK7 HX HHA hsx HKb
            go_wp2
            go_roundw
            case rel => exact ⟨k + 1, by omega, by go_num, HK8.out⟩
            case measure => simp [intOf]; omega
        · have HHA : Hid (∀ W, Kept [] wr W → Calls Try.prog 7 #[.slice aA A.length cA, .agg x.row.toArray] W fun e w' => e = .returned (.bool false) ∧ Kept [] wr w') := by
            have h := HHA0.out
            rw [decide_eq_false hin] at h
            exact h
          have HHB : Hid (∀ W, Kept [] wr W → Calls Try.prog 7 #[.slice aB B.length cB, .agg x.row.toArray] W fun e w' => e = .returned (.bool true) ∧ Kept [] wr w') := by
            have h := HHB0.out
            rw [decide_eq_true (HAB.out.resolve_left hin)] at h
            exact h
          clear HHA0 HHB0 HAB hin
          generalize x.row = xr at *
          generalize strOfNums x.name = SX at *
          generalize strOfNums p.name = SP at *
          as_aux_lemma =>
            go_wp2_with fail
            refine region_quiet (Kept [] wr) (by kernel_rfl) (by kernel_rfl) ((Kept.refl [] wr).drew) ?_
            with_reducible refine wpQuiet_step ?_
            intro K hK
            rw [if_pos (by kernel_rfl)]
            refine move_at (.tmp 8) rfl (.int .i64 (k : Int)) rfl (hK _ ?_)
            clear hK K
            simp only [Act.put, List.setIfInBounds_toArray, List.set_cons_zero, List.set_cons_succ]
            with_reducible refine wpQuiet_step ?_
            intro K hK
            rw [if_pos (by kernel_rfl)]
            refine val_at (.bool true) (fun W => by have hz := HZ.out; go_simp) (hK _ ?_)
            clear hK K
            simp only [Act.put, List.setIfInBounds_toArray, List.set_cons_zero, List.set_cons_succ]
            with_reducible refine wpQuiet_step ?_
            intro K hK
            rw [if_pos (by kernel_rfl)]
            refine move_at (.tmp 70) rfl (.bool true) rfl (hK _ ?_)
            clear hK K
            simp only [Act.put, List.setIfInBounds_toArray, List.set_cons_zero, List.set_cons_succ]
            with_reducible refine wpQuiet_step ?_
            intro K hK
            rw [if_pos (by kernel_rfl)]
            refine move_at (.tmp 5) rfl (.slice (some ⟨bM, oM, none⟩) M.length c3) rfl (hK _ ?_)
            clear hK K
            simp only [Act.put, List.setIfInBounds_toArray, List.set_cons_zero, List.set_cons_succ]
            with_reducible refine wpQuiet_step ?_
            intro K hK
            rw [if_pos (by kernel_rfl)]
            refine move_at (.tmp 8) rfl (.int .i64 (k : Int)) rfl (hK _ ?_)
            clear hK K
            simp only [Act.put, List.setIfInBounds_toArray, List.set_cons_zero, List.set_cons_succ]
            with_reducible refine wpQuiet_step ?_
            intro K hK
            rw [if_pos (by kernel_rfl)]
            refine val_at (.int .i64 (j : Int)) (fun W => by go_simp) (hK _ ?_)
            clear hK K
            simp only [Act.put, List.setIfInBounds_toArray, List.set_cons_zero, List.set_cons_succ]
            with_reducible refine wpQuiet_step ?_
            intro K hK
            rw [if_pos (by kernel_rfl)]
            refine val_at (.pointer (some ⟨bM, oM + j * 34, none⟩)) (fun W => by go_simp) (hK _ ?_)
            clear hK K
            simp only [Act.put, List.setIfInBounds_toArray, List.set_cons_zero, List.set_cons_succ]
            with_reducible refine wpQuiet_step ?_
            intro K hK
            rw [if_pos (by kernel_rfl)]
            refine val_at (.pointer (some ⟨bM, oM + j * 34, none⟩)) (fun W => by go_simp) (hK _ ?_)
            clear hK K
            simp only [Act.put, List.setIfInBounds_toArray, List.set_cons_zero, List.set_cons_succ]
            with_reducible refine wpQuiet_step ?_
            intro K hK
            rw [if_pos (by kernel_rfl)]
            refine valS_at (.string SP) (fun W hW => by have hcc := (HP.out W hW); go_simp) (hK _ ?_)
            clear hK K
            simp only [Act.put, List.setIfInBounds_toArray, List.set_cons_zero, List.set_cons_succ]
            with_reducible refine wpQuiet_step ?_
            intro K hK
            rw [if_pos (by kernel_rfl)]
            refine move_at (.tmp 5) rfl (.slice (some ⟨bM, oM, none⟩) M.length c3) rfl (hK _ ?_)
            clear hK K
            simp only [Act.put, List.setIfInBounds_toArray, List.set_cons_zero, List.set_cons_succ]
            with_reducible refine wpQuiet_step ?_
            intro K hK
            rw [if_pos (by kernel_rfl)]
            refine move_at (.tmp 8) rfl (.int .i64 (k : Int)) rfl (hK _ ?_)
            clear hK K
            simp only [Act.put, List.setIfInBounds_toArray, List.set_cons_zero, List.set_cons_succ]
            with_reducible refine wpQuiet_step ?_
            intro K hK
            rw [if_pos (by kernel_rfl)]
            refine val_at (.pointer (some ⟨bM, oM + k * 34, none⟩)) (fun W => by go_simp) (hK _ ?_)
            clear hK K
            simp only [Act.put, List.setIfInBounds_toArray, List.set_cons_zero, List.set_cons_succ]
            with_reducible refine wpQuiet_step ?_
            intro K hK
            rw [if_pos (by kernel_rfl)]
            refine val_at (.pointer (some ⟨bM, oM + k * 34, none⟩)) (fun W => by go_simp) (hK _ ?_)
            clear hK K
            simp only [Act.put, List.setIfInBounds_toArray, List.set_cons_zero, List.set_cons_succ]
            with_reducible refine wpQuiet_step ?_
            intro K hK
            rw [if_pos (by kernel_rfl)]
            refine valS_at (.string SX) (fun W hW => by have hcc := (HX.out W hW).1; go_simp) (hK _ ?_)
            clear hK K
            simp only [Act.put, List.setIfInBounds_toArray, List.set_cons_zero, List.set_cons_succ]
            with_reducible refine wpQuiet_step ?_
            intro K hK
            rw [if_pos (by kernel_rfl)]
            refine val_at (.bool false) (fun W => by go_simp) (hK _ ?_)
            clear hK K
            simp only [Act.put, List.setIfInBounds_toArray, List.set_cons_zero, List.set_cons_succ]
            with_reducible refine wpQuiet_step ?_
            intro K hK
            rw [if_pos (by kernel_rfl)]
            refine val_at (.bool false) (fun W => by go_simp) (hK _ ?_)
            clear hK K
            simp only [Act.put, List.setIfInBounds_toArray, List.set_cons_zero, List.set_cons_succ]
            with_reducible refine wpQuiet_step ?_
            intro K hK
            rw [if_pos (by kernel_rfl)]
            refine move_at (.tmp 84) rfl (.bool false) rfl (hK _ ?_)
            clear hK K
            simp only [Act.put, List.setIfInBounds_toArray, List.set_cons_zero, List.set_cons_succ]
            with_reducible refine wpQuiet_step ?_
            intro K hK
            rw [if_pos (by kernel_rfl)]
            refine val_at (.pointer (some ⟨w.heap.size, 0, none⟩)) (fun W => by go_simp) (hK _ ?_)
            clear hK K
            simp only [Act.put, List.setIfInBounds_toArray, List.set_cons_zero, List.set_cons_succ]
            with_reducible refine wpQuiet_step ?_
            intro K hK
            rw [if_pos (by kernel_rfl)]
            refine valS_at (.slice aA A.length cA) (fun W hW => by have hcc := (HBX.out W (HKb.out W hW)).1; go_simp) (hK _ ?_)
            clear hK K
            simp only [Act.put, List.setIfInBounds_toArray, List.set_cons_zero, List.set_cons_succ]
            with_reducible refine wpQuiet_step ?_
            intro K hK
            rw [if_pos (by kernel_rfl)]
            refine move_at (.tmp 5) rfl (.slice (some ⟨bM, oM, none⟩) M.length c3) rfl (hK _ ?_)
            clear hK K
            simp only [Act.put, List.setIfInBounds_toArray, List.set_cons_zero, List.set_cons_succ]
            with_reducible refine wpQuiet_step ?_
            intro K hK
            rw [if_pos (by kernel_rfl)]
            refine move_at (.tmp 8) rfl (.int .i64 (k : Int)) rfl (hK _ ?_)
            clear hK K
            simp only [Act.put, List.setIfInBounds_toArray, List.set_cons_zero, List.set_cons_succ]
            with_reducible refine wpQuiet_step ?_
            intro K hK
            rw [if_pos (by kernel_rfl)]
            refine val_at (.pointer (some ⟨bM, oM + k * 34, none⟩)) (fun W => by go_simp) (hK _ ?_)
            clear hK K
            simp only [Act.put, List.setIfInBounds_toArray, List.set_cons_zero, List.set_cons_succ]
            with_reducible refine wpQuiet_step ?_
            intro K hK
            rw [if_pos (by kernel_rfl)]
            refine row_at 32 (.tmp 90) rfl bM (oM + k * 34) rfl xr _ (fun W hW => (HX.out W hW).2) has rfl hsx (hK _ ?_)
            clear hK K
            simp only [Act.put, List.setIfInBounds_toArray, List.set_cons_zero, List.set_cons_succ]
            with_reducible refine wpQuiet_step ?_
            intro K hK
            rw [if_pos (by kernel_rfl)]
            refine call_at 7 #[.slice aA A.length cA, .agg xr.toArray] (.bool false) (fun W => by go_simp) HHA.out (hK _ ?_)
            clear hK K
            simp only [Act.put, List.setIfInBounds_toArray, List.set_cons_zero, List.set_cons_succ]
            with_reducible refine wpQuiet_step ?_
            intro K hK
            rw [if_pos (by kernel_rfl)]
            refine val_at (.bool true) (fun W => by go_simp) (hK _ ?_)
            clear hK K
            simp only [Act.put, List.setIfInBounds_toArray, List.set_cons_zero, List.set_cons_succ]
            with_reducible refine wpQuiet_step ?_
            intro K hK
            rw [if_pos (by kernel_rfl)]
            refine move_at (.tmp 93) rfl (.bool true) rfl (hK _ ?_)
            clear hK K
            simp only [Act.put, List.setIfInBounds_toArray, List.set_cons_zero, List.set_cons_succ]
            with_reducible refine wpQuiet_step ?_
            intro K hK
            rw [if_pos (by kernel_rfl)]
            refine val_at (.pointer (some ⟨w.heap.size, 1, none⟩)) (fun W => by go_simp) (hK _ ?_)
            clear hK K
            simp only [Act.put, List.setIfInBounds_toArray, List.set_cons_zero, List.set_cons_succ]
            with_reducible refine wpQuiet_step ?_
            intro K hK
            rw [if_pos (by kernel_rfl)]
            refine valS_at (.slice aB B.length cB) (fun W hW => by have hcc := (HBX.out W (HKb.out W hW)).2.1; go_simp) (hK _ ?_)
            clear hK K
            simp only [Act.put, List.setIfInBounds_toArray, List.set_cons_zero, List.set_cons_succ]
            with_reducible refine wpQuiet_step ?_
            intro K hK
            rw [if_pos (by kernel_rfl)]
            refine move_at (.tmp 5) rfl (.slice (some ⟨bM, oM, none⟩) M.length c3) rfl (hK _ ?_)
            clear hK K
            simp only [Act.put, List.setIfInBounds_toArray, List.set_cons_zero, List.set_cons_succ]
            with_reducible refine wpQuiet_step ?_
            intro K hK
            rw [if_pos (by kernel_rfl)]
            refine move_at (.tmp 8) rfl (.int .i64 (k : Int)) rfl (hK _ ?_)
            clear hK K
            simp only [Act.put, List.setIfInBounds_toArray, List.set_cons_zero, List.set_cons_succ]
            with_reducible refine wpQuiet_step ?_
            intro K hK
            rw [if_pos (by kernel_rfl)]
            refine val_at (.pointer (some ⟨bM, oM + k * 34, none⟩)) (fun W => by go_simp) (hK _ ?_)
            clear hK K
            simp only [Act.put, List.setIfInBounds_toArray, List.set_cons_zero, List.set_cons_succ]
            with_reducible refine wpQuiet_step ?_
            intro K hK
            rw [if_pos (by kernel_rfl)]
            refine row_at 32 (.tmp 99) rfl bM (oM + k * 34) rfl xr _ (fun W hW => (HX.out W hW).2) has rfl hsx (hK _ ?_)
            clear hK K
            simp only [Act.put, List.setIfInBounds_toArray, List.set_cons_zero, List.set_cons_succ]
            with_reducible refine wpQuiet_step ?_
            intro K hK
            rw [if_pos (by kernel_rfl)]
            refine call_at 7 #[.slice aB B.length cB, .agg xr.toArray] (.bool true) (fun W => by go_simp) HHB.out (hK _ ?_)
            clear hK K
            simp only [Act.put, List.setIfInBounds_toArray, List.set_cons_zero, List.set_cons_succ]
            with_reducible refine wpQuiet_step ?_
            intro K hK
            rw [if_pos (by kernel_rfl)]
            refine val_at (.bool false) (fun W => by go_simp) (hK _ ?_)
            clear hK K
            simp only [Act.put, List.setIfInBounds_toArray, List.set_cons_zero, List.set_cons_succ]
            with_reducible refine wpQuiet_step ?_
            intro K hK
            rw [if_pos (by kernel_rfl)]
            refine val_at (.bool false) (fun W => by go_simp) (hK _ ?_)
            clear hK K
            simp only [Act.put, List.setIfInBounds_toArray, List.set_cons_zero, List.set_cons_succ]
            with_reducible refine wpQuiet_step ?_
            intro K hK
            rw [if_pos (by kernel_rfl)]
            refine val_at (.bool false) (fun W => by go_simp) (hK _ ?_)
            clear hK K
            simp only [Act.put, List.setIfInBounds_toArray, List.set_cons_zero, List.set_cons_succ]
            refine wpQuiet_nil fun w7 hk7 => ?_
            have HK7 : Hid (Kept [] wr w7) := hk7
            clear hk7
            have HK8 : Hid (Kept [] w3 w7) := HI.out.then HK7.out
            clear HK7 HX HHA hsx HKb
            go_wp2
            go_roundw
            case rel => exact ⟨k + 1, by omega, by go_num, HK8.out⟩
            case measure => simp [intOf]; omega
    · have t0 : decide ((k : Int) < (M.length : Int)) = false := decide_eq_false (by omega)
      have t0' : ¬ ((k : Int) < (M.length : Int)) := by omega
      obtain ⟨AB, hABe⟩ : ∃ AB, AB = A ++ B := ⟨_, rfl⟩
      have HABE : Hid (AB = A ++ B) := hABe
      have HABL : Hid (AB.length = A.length + B.length) := by
        have h : AB.length = A.length + B.length := by rw [hABe, List.length_append]
        exact h
      have HTOP : Hid (∀ y, y ∈ AB → ∃ (j : Nat) (z : StampE), M[j]? = some z ∧ z.name = y.name) := fun y hy => by
        obtain ⟨z, hz, h1, _⟩ := HM3.out.top y (hABe ▸ hy)
        obtain ⟨j, hj, e⟩ := List.getElem_of_mem hz
        exact ⟨j, z, by rw [List.getElem?_eq_getElem hj, e], h1⟩
      have HBST : Hid (∀ z y, z ∈ M → y ∈ AB → z.name = y.name → ¬ Beat z y) := fun z y hz hy hn => HM3.out.best hz (hABe ▸ hy) hn
      clear hABe
      go_wp2_with fail
      refine wp_region_held_drew (S := Kept [] w3) (by kernel_rfl) (HI.out.drew) (fun hHeld => ?_)
      refine takeP 0 (v := .pointer (some ⟨w.heap.size, 0, none⟩)) (some 105) #[true, false, false, false, false, false, false] rfl rfl rfl (by kernel_rfl) (by kernel_rfl) (by kernel_rfl) (fun _ _ _ h => h) (Or.inl ⟨by rfl, fun W hSW => by go_simp⟩) hHeld ?_
      simp only [Act.put, List.setIfInBounds_toArray, List.set_cons_zero, List.set_cons_succ]
      refine takeP 1 (v := .slice aA A.length cA) (some 106) #[true, true, false, false, false, false, false] rfl rfl rfl (by kernel_rfl) (by kernel_rfl) (by kernel_rfl) (fun _ _ _ h => h) (Or.inl ⟨by rfl, fun W hSW => by have hcc := (HBX.out W (HW3.out.then hSW)).1; go_simp⟩) hHeld ?_
      simp only [Act.put, List.setIfInBounds_toArray, List.set_cons_zero, List.set_cons_succ]
      refine takeP 3 (v := .pointer (some ⟨w.heap.size, 1, none⟩)) (some 108) #[true, true, false, true, false, false, false] rfl rfl rfl (by kernel_rfl) (by kernel_rfl) (by kernel_rfl) (fun _ _ _ h => h) (Or.inl ⟨by rfl, fun W hSW => by go_simp⟩) hHeld ?_
      simp only [Act.put, List.setIfInBounds_toArray, List.set_cons_zero, List.set_cons_succ]
      refine takeP 4 (v := .slice aB B.length cB) (some 109) #[true, true, false, true, true, false, false] rfl rfl rfl (by kernel_rfl) (by kernel_rfl) (by kernel_rfl) (fun _ _ _ h => h) (Or.inl ⟨by rfl, fun W hSW => by have hcc := (HBX.out W (HW3.out.then hSW)).2.1; go_simp⟩) hHeld ?_
      simp only [Act.put, List.setIfInBounds_toArray, List.set_cons_zero, List.set_cons_succ]
      refine wpAnyH_ready (rs := [2]) (by kernel_rfl) (by simp) (AllReadyH.cons rfl (fun K hK => ?_) AllReadyH.nil)
      rw [if_pos (by kernel_rfl)]
      refine wp_call_ret 4 #[.slice aA A.length cA] (by go_simp) ?_
      refine (HSA.out _ (HW3.out.then hHeld)).mono ?_
      rintro e w8 ⟨g8, c8, rfl, hcp8, ho8, hm8, k8⟩
      have H8 : Hid (StampOwn w8 w3.heap.size (.slice (some ⟨g8, 0, none⟩) A.length c8) A) := ho8.low hHeld.size
      clear ho8 hm8 hcp8
      refine ⟨_, rfl, hK.out _ _ (hHeld.then k8) (fun hHeld => ?_)⟩
      clear hK K
      simp only [Act.put, List.getElem_toArray, List.getElem_cons_succ, List.getElem_cons_zero, List.setIfInBounds_toArray, List.set_cons_zero, List.set_cons_succ]
      refine wpAnyH_ready (rs := [5]) (by kernel_rfl) (by simp) (AllReadyH.cons rfl (fun K hK => ?_) AllReadyH.nil)
      refine step_append_rows rfl (.tmp 107) (.tmp 109) 22 32 (.agg zeroS.row.toArray) 34 56 Try.underlying22 Try.zeroStampI (by show zeroS.row.toArray.size = 34; rw [List.size_toArray, zeroS.row_len]) (by decide) rfl (B := w3.heap.size) rfl H8.out rfl (HB.out _ (HW3.out.then hHeld)) srows_len srows_one (by rw [List.length_map]; omega) (by decide) hHeld.size ?_
      intro v9 w9 h9 k9
      have H9 : Hid (StampOwn w9 w3.heap.size v9 AB) := by
        have h : StampOwn w9 w3.heap.size v9 (A ++ B) := by
          unfold StampOwn
          rw [List.length_append, List.map_append, List.flatten_append]
          rw [List.length_map] at h9
          exact h9
        rw [HABE.out]
        exact h
      have hk9 : Kept [] w3 w9 := hHeld.trans k9 (fun y hy => Or.inr (H8.out.blk y hy))
      clear h9 k9
      obtain ⟨a9, c9, rfl⟩ := H9.out.is
      refine hK.out _ _ hk9 (fun hHeld => ?_)
      clear hK K
      simp only [Act.put, List.getElem_toArray, List.getElem_cons_succ, List.getElem_cons_zero, List.setIfInBounds_toArray, List.set_cons_zero, List.set_cons_succ]
      refine takeP 6 (v := .slice a9 AB.length c9) (some 9) #[true, true, true, true, true, true, true] rfl rfl rfl (by kernel_rfl) (by kernel_rfl) (by kernel_rfl) (fun _ _ _ h => h) (Or.inl ⟨by rfl, fun W hSW => by go_simp⟩) hHeld ?_
      simp only [Act.put, List.setIfInBounds_toArray, List.set_cons_zero, List.set_cons_succ]
      refine wpAnyH_done (by kernel_rfl) ?_ _
      have HSAB : Hid (∀ W, Kept [] w9 W → StampsAt W (.slice a9 AB.length c9) AB) := fun W k => (H9.out.at (by have := HABL.out; omega)).kept k
      have HK39 : Hid (Kept [] w3 w9) := hHeld
      clear hHeld H8 H9 hk9 HI k8
      go_wp2_with fail
      go_loopw [10] (fun s10 wr => ∃ i : Nat, i ≤ AB.length ∧ s10 = .int .i64 i ∧ Hid (Kept [] w9 wr)) (fun s10 _ => AB.length - (intOf s10).toNat)
      case atStart => exact ⟨0, Nat.zero_le _, rfl, Kept.refl _ _⟩
      case round =>
        obtain ⟨i, hi, rfl, HI⟩ := hrel
        by_cases hltI : i < AB.length
        · have ii0 : (i : Int) < (AB.length : Int) := by omega
          have ii1 : (0 : Int) ≤ (i : Int) := by omega
          have ti : decide ((i : Int) < (AB.length : Int)) = true := decide_eq_true ii0
          have wi : IntKind.i64.wrap ((i : Int) + 1) = (i : Int) + 1 := by have := HABL.out; rw [IntKind.wrap_i64]; omega
          obtain ⟨y, hy⟩ : ∃ y, AB[i]? = some y := ⟨_, List.getElem?_eq_getElem hltI⟩
          have hym : y ∈ AB := List.mem_of_getElem? hy
          obtain ⟨j9, z9, hz9, hn9⟩ := HTOP.out y hym
          have HFND : Hid (M[j9]? = some z9 ∧ z9.name = y.name) := ⟨hz9, hn9⟩
          have hj9 : j9 < M.length := (List.getElem?_eq_some_iff.1 hz9).1
          have HBT : Hid (∀ z, z ∈ M → z.name = y.name → ¬ Beat z y) := fun z hz hn => HBST.out z y hz hym hn
          obtain ⟨bM, oM, rfl, HRM⟩ : ∃ bM oM, a3 = some ⟨bM, oM, none⟩ ∧ Hid (∀ (j : Nat) z, M[j]? = some z → ∀ W, Kept [] w9 W → W.rangeAt bM (oM + j * 34) z.row) := by
            obtain ⟨b, o, hb, _⟩ := (HSM.out w9 HK39.out).at hz9
            refine ⟨b, o, hb, fun j z hz W q => ?_⟩
            obtain ⟨b', o', hb', h⟩ := (HSM.out w9 HK39.out).at hz
            rw [hb] at hb'
            injection hb' with hb'
            injection hb' with e1 e2 _
            rw [e1, e2]
            exact h W q
          obtain ⟨bD, oD, rfl, HRD⟩ : ∃ bD oD, a9 = some ⟨bD, oD, none⟩ ∧ Hid (∀ W, Kept [] w9 W → W.rangeAt bD (oD + i * 34) y.row) := by
            obtain ⟨b, o, hb, h⟩ := (HSAB.out w9 (Kept.refl _ _)).at hy
            exact ⟨b, o, hb, h⟩
          clear hy hz9 hn9 hym
          have HI9 : Hid (Kept [] w9 wr) := HI
          clear HI
          go_wp2_with fail
          go_loopw [11, 12] (fun s11 s12 wr => ∃ (k : Nat) (f : Bool), k ≤ M.length ∧ s11 = .bool f ∧ s12 = .int .i64 k ∧ Hid ((∀ (j : Nat) z, j < k → M[j]? = some z → z.name = y.name → f = true) ∧ Kept [] w9 wr)) (fun _ s12 _ => M.length - (intOf s12).toNat)
          case atStart => exact ⟨0, false, Nat.zero_le _, rfl, rfl, fun j z h => absurd h (by omega), HI9.out⟩
          case round =>
            obtain ⟨k, f, hk, rfl, rfl, HI⟩ := hrel
            clear HI9
            by_cases hlt : k < M.length
            · have i0 : (k : Int) < (M.length : Int) := by omega
              have i1 : (0 : Int) ≤ (k : Int) := by omega
              have t0 : decide ((k : Int) < (M.length : Int)) = true := decide_eq_true i0
              obtain ⟨x, hx⟩ : ∃ x, M[k]? = some x := ⟨_, List.getElem?_eq_getElem hlt⟩
              have HX : Hid (∀ W, Kept [] wr W → W.cell? ⟨bM, oM + k * 34, none⟩ = some (.string (strOfNums x.name)) ∧ W.cell? ⟨bM, oM + k * 34 + 33, none⟩ = some (.int .u64 x.seq) ∧ W.rangeAt bM (oM + k * 34 + 1) (x.id.map (Value.int .u8))) := fun W q => row_facts (HRM.out k x hx W (HI.out.2.then q))
              have HY : Hid (∀ W, Kept [] wr W → W.cell? ⟨bD, oD + i * 34, none⟩ = some (.string (strOfNums y.name)) ∧ W.cell? ⟨bD, oD + i * 34 + 33, none⟩ = some (.int .u64 y.seq) ∧ W.rangeAt bD (oD + i * 34 + 1) (y.id.map (Value.int .u8))) := fun W q => row_facts (HRD.out W (HI.out.2.then q))
              have heq : ((strOfNums x.name).toList == (strOfNums y.name).toList) = decide (x.name = y.name) := str_lists x.on y.on
              by_cases hnm : x.name = y.name
              · rw [decide_eq_true hnm] at heq
                have hnb := HBT.out x (List.mem_of_getElem? hx) hnm
                by_cases hgt : y.seq < x.seq
                · have tg : decide (y.seq < x.seq) = true := decide_eq_true hgt
                  clear hx hnm hnb
                  generalize strOfNums x.name = SX at *
                  generalize strOfNums y.name = SY at *
                  generalize x.seq = mx at *
                  generalize y.seq = my at *
                  generalize x.id.map (Value.int .u8) = ix at *
                  generalize y.id.map (Value.int .u8) = iy at *
                  as_aux_lemma =>
                    go_wp2_with fail
                    refine region_quiet (Kept [] wr) (by kernel_rfl) (by kernel_rfl) ((Kept.refl [] wr).drew) ?_
                    with_reducible refine wpQuiet_step ?_
                    intro K hK
                    rw [if_pos (by kernel_rfl)]
                    refine move_at (.tmp 5) rfl (.slice (some ⟨bM, oM, none⟩) M.length c3) rfl (hK _ ?_)
                    clear hK K
                    simp only [Act.put, List.setIfInBounds_toArray, List.set_cons_zero, List.set_cons_succ]
                    with_reducible refine wpQuiet_step ?_
                    intro K hK
                    rw [if_pos (by kernel_rfl)]
                    refine move_at (.tmp 12) rfl (.int .i64 (k : Int)) rfl (hK _ ?_)
                    clear hK K
                    simp only [Act.put, List.setIfInBounds_toArray, List.set_cons_zero, List.set_cons_succ]
                    with_reducible refine wpQuiet_step ?_
                    intro K hK
                    rw [if_pos (by kernel_rfl)]
                    refine val_at (.pointer (some ⟨bM, oM + k * 34, none⟩)) (fun W => by go_simp) (hK _ ?_)
                    clear hK K
                    simp only [Act.put, List.setIfInBounds_toArray, List.set_cons_zero, List.set_cons_succ]
                    with_reducible refine wpQuiet_step ?_
                    intro K hK
                    rw [if_pos (by kernel_rfl)]
                    refine val_at (.pointer (some ⟨bM, oM + k * 34, none⟩)) (fun W => by go_simp) (hK _ ?_)
                    clear hK K
                    simp only [Act.put, List.setIfInBounds_toArray, List.set_cons_zero, List.set_cons_succ]
                    with_reducible refine wpQuiet_step ?_
                    intro K hK
                    rw [if_pos (by kernel_rfl)]
                    refine valS_at (.string SX) (fun W hW => by have hcc := (HX.out W hW).1; go_simp) (hK _ ?_)
                    clear hK K
                    simp only [Act.put, List.setIfInBounds_toArray, List.set_cons_zero, List.set_cons_succ]
                    with_reducible refine wpQuiet_step ?_
                    intro K hK
                    rw [if_pos (by kernel_rfl)]
                    refine move_at (.tmp 9) rfl (.slice (some ⟨bD, oD, none⟩) AB.length c9) rfl (hK _ ?_)
                    clear hK K
                    simp only [Act.put, List.setIfInBounds_toArray, List.set_cons_zero, List.set_cons_succ]
                    with_reducible refine wpQuiet_step ?_
                    intro K hK
                    rw [if_pos (by kernel_rfl)]
                    refine move_at (.tmp 10) rfl (.int .i64 (i : Int)) rfl (hK _ ?_)
                    clear hK K
                    simp only [Act.put, List.setIfInBounds_toArray, List.set_cons_zero, List.set_cons_succ]
                    with_reducible refine wpQuiet_step ?_
                    intro K hK
                    rw [if_pos (by kernel_rfl)]
                    refine val_at (.pointer (some ⟨bD, oD + i * 34, none⟩)) (fun W => by go_simp) (hK _ ?_)
                    clear hK K
                    simp only [Act.put, List.setIfInBounds_toArray, List.set_cons_zero, List.set_cons_succ]
                    with_reducible refine wpQuiet_step ?_
                    intro K hK
                    rw [if_pos (by kernel_rfl)]
                    refine val_at (.pointer (some ⟨bD, oD + i * 34, none⟩)) (fun W => by go_simp) (hK _ ?_)
                    clear hK K
                    simp only [Act.put, List.setIfInBounds_toArray, List.set_cons_zero, List.set_cons_succ]
                    with_reducible refine wpQuiet_step ?_
                    intro K hK
                    rw [if_pos (by kernel_rfl)]
                    refine valS_at (.string SY) (fun W hW => by have hcc := (HY.out W hW).1; go_simp) (hK _ ?_)
                    clear hK K
                    simp only [Act.put, List.setIfInBounds_toArray, List.set_cons_zero, List.set_cons_succ]
                    with_reducible refine wpQuiet_step ?_
                    intro K hK
                    rw [if_pos (by kernel_rfl)]
                    refine val_at (.bool true) (fun W => by go_simp) (hK _ ?_)
                    clear hK K
                    simp only [Act.put, List.setIfInBounds_toArray, List.set_cons_zero, List.set_cons_succ]
                    refine wpQuiet_nil fun w7 hk7 => ?_
                    have HK7 : Hid (Kept [] wr w7) := hk7
                    clear hk7
                    go_wp2_with fail
                    refine region_quiet (Kept [] wr) (by kernel_rfl) (by kernel_rfl) (HK7.out.drew) ?_
                    with_reducible refine wpQuiet_step ?_
                    intro K hK
                    rw [if_pos (by kernel_rfl)]
                    refine move_at (.tmp 5) rfl (.slice (some ⟨bM, oM, none⟩) M.length c3) rfl (hK _ ?_)
                    clear hK K
                    simp only [Act.put, List.setIfInBounds_toArray, List.set_cons_zero, List.set_cons_succ]
                    with_reducible refine wpQuiet_step ?_
                    intro K hK
                    rw [if_pos (by kernel_rfl)]
                    refine move_at (.tmp 12) rfl (.int .i64 (k : Int)) rfl (hK _ ?_)
                    clear hK K
                    simp only [Act.put, List.setIfInBounds_toArray, List.set_cons_zero, List.set_cons_succ]
                    with_reducible refine wpQuiet_step ?_
                    intro K hK
                    rw [if_pos (by kernel_rfl)]
                    refine val_at (.pointer (some ⟨bM, oM + k * 34, none⟩)) (fun W => by go_simp) (hK _ ?_)
                    clear hK K
                    simp only [Act.put, List.setIfInBounds_toArray, List.set_cons_zero, List.set_cons_succ]
                    with_reducible refine wpQuiet_step ?_
                    intro K hK
                    rw [if_pos (by kernel_rfl)]
                    refine val_at (.pointer (some ⟨bM, oM + k * 34 + 33, none⟩)) (fun W => by go_simp) (hK _ ?_)
                    clear hK K
                    simp only [Act.put, List.setIfInBounds_toArray, List.set_cons_zero, List.set_cons_succ]
                    with_reducible refine wpQuiet_step ?_
                    intro K hK
                    rw [if_pos (by kernel_rfl)]
                    refine valS_at (.int .u64 mx) (fun W hW => by have hcc := (HX.out W hW).2.1; go_simp) (hK _ ?_)
                    clear hK K
                    simp only [Act.put, List.setIfInBounds_toArray, List.set_cons_zero, List.set_cons_succ]
                    with_reducible refine wpQuiet_step ?_
                    intro K hK
                    rw [if_pos (by kernel_rfl)]
                    refine move_at (.tmp 9) rfl (.slice (some ⟨bD, oD, none⟩) AB.length c9) rfl (hK _ ?_)
                    clear hK K
                    simp only [Act.put, List.setIfInBounds_toArray, List.set_cons_zero, List.set_cons_succ]
                    with_reducible refine wpQuiet_step ?_
                    intro K hK
                    rw [if_pos (by kernel_rfl)]
                    refine move_at (.tmp 10) rfl (.int .i64 (i : Int)) rfl (hK _ ?_)
                    clear hK K
                    simp only [Act.put, List.setIfInBounds_toArray, List.set_cons_zero, List.set_cons_succ]
                    with_reducible refine wpQuiet_step ?_
                    intro K hK
                    rw [if_pos (by kernel_rfl)]
                    refine val_at (.pointer (some ⟨bD, oD + i * 34, none⟩)) (fun W => by go_simp) (hK _ ?_)
                    clear hK K
                    simp only [Act.put, List.setIfInBounds_toArray, List.set_cons_zero, List.set_cons_succ]
                    with_reducible refine wpQuiet_step ?_
                    intro K hK
                    rw [if_pos (by kernel_rfl)]
                    refine val_at (.pointer (some ⟨bD, oD + i * 34 + 33, none⟩)) (fun W => by go_simp) (hK _ ?_)
                    clear hK K
                    simp only [Act.put, List.setIfInBounds_toArray, List.set_cons_zero, List.set_cons_succ]
                    with_reducible refine wpQuiet_step ?_
                    intro K hK
                    rw [if_pos (by kernel_rfl)]
                    refine valS_at (.int .u64 my) (fun W hW => by have hcc := (HY.out W hW).2.1; go_simp) (hK _ ?_)
                    clear hK K
                    simp only [Act.put, List.setIfInBounds_toArray, List.set_cons_zero, List.set_cons_succ]
                    with_reducible refine wpQuiet_step ?_
                    intro K hK
                    rw [if_pos (by kernel_rfl)]
                    refine val_at (.bool true) (fun W => by go_simp) (hK _ ?_)
                    clear hK K
                    simp only [Act.put, List.setIfInBounds_toArray, List.set_cons_zero, List.set_cons_succ]
                    with_reducible refine wpQuiet_step ?_
                    intro K hK
                    rw [if_pos (by kernel_rfl)]
                    refine move_at (.tmp 144) rfl (.bool true) rfl (hK _ ?_)
                    clear hK K
                    simp only [Act.put, List.setIfInBounds_toArray, List.set_cons_zero, List.set_cons_succ]
                    with_reducible refine wpQuiet_step ?_
                    intro K hK
                    rw [if_neg (not_of_false (by kernel_rfl))]
                    refine hK _ ?_
                    clear hK K
                    simp only [Act.put, List.setIfInBounds_toArray, List.set_cons_zero, List.set_cons_succ]
                    with_reducible refine wpQuiet_step ?_
                    intro K hK
                    rw [if_neg (not_of_false (by kernel_rfl))]
                    refine hK _ ?_
                    clear hK K
                    simp only [Act.put, List.setIfInBounds_toArray, List.set_cons_zero, List.set_cons_succ]
                    with_reducible refine wpQuiet_step ?_
                    intro K hK
                    rw [if_neg (not_of_false (by kernel_rfl))]
                    refine hK _ ?_
                    clear hK K
                    simp only [Act.put, List.setIfInBounds_toArray, List.set_cons_zero, List.set_cons_succ]
                    with_reducible refine wpQuiet_step ?_
                    intro K hK
                    rw [if_neg (not_of_false (by kernel_rfl))]
                    refine hK _ ?_
                    clear hK K
                    simp only [Act.put, List.setIfInBounds_toArray, List.set_cons_zero, List.set_cons_succ]
                    with_reducible refine wpQuiet_step ?_
                    intro K hK
                    rw [if_neg (not_of_false (by kernel_rfl))]
                    refine hK _ ?_
                    clear hK K
                    simp only [Act.put, List.setIfInBounds_toArray, List.set_cons_zero, List.set_cons_succ]
                    with_reducible refine wpQuiet_step ?_
                    intro K hK
                    rw [if_neg (not_of_false (by kernel_rfl))]
                    refine hK _ ?_
                    clear hK K
                    simp only [Act.put, List.setIfInBounds_toArray, List.set_cons_zero, List.set_cons_succ]
                    with_reducible refine wpQuiet_step ?_
                    intro K hK
                    rw [if_neg (not_of_false (by kernel_rfl))]
                    refine hK _ ?_
                    clear hK K
                    simp only [Act.put, List.setIfInBounds_toArray, List.set_cons_zero, List.set_cons_succ]
                    with_reducible refine wpQuiet_step ?_
                    intro K hK
                    rw [if_neg (not_of_false (by kernel_rfl))]
                    refine hK _ ?_
                    clear hK K
                    simp only [Act.put, List.setIfInBounds_toArray, List.set_cons_zero, List.set_cons_succ]
                    with_reducible refine wpQuiet_step ?_
                    intro K hK
                    rw [if_neg (not_of_false (by kernel_rfl))]
                    refine hK _ ?_
                    clear hK K
                    simp only [Act.put, List.setIfInBounds_toArray, List.set_cons_zero, List.set_cons_succ]
                    with_reducible refine wpQuiet_step ?_
                    intro K hK
                    rw [if_neg (not_of_false (by kernel_rfl))]
                    refine hK _ ?_
                    clear hK K
                    simp only [Act.put, List.setIfInBounds_toArray, List.set_cons_zero, List.set_cons_succ]
                    with_reducible refine wpQuiet_step ?_
                    intro K hK
                    rw [if_neg (not_of_false (by kernel_rfl))]
                    refine hK _ ?_
                    clear hK K
                    simp only [Act.put, List.setIfInBounds_toArray, List.set_cons_zero, List.set_cons_succ]
                    with_reducible refine wpQuiet_step ?_
                    intro K hK
                    rw [if_neg (not_of_false (by kernel_rfl))]
                    refine hK _ ?_
                    clear hK K
                    simp only [Act.put, List.setIfInBounds_toArray, List.set_cons_zero, List.set_cons_succ]
                    with_reducible refine wpQuiet_step ?_
                    intro K hK
                    rw [if_neg (not_of_false (by kernel_rfl))]
                    refine hK _ ?_
                    clear hK K
                    simp only [Act.put, List.setIfInBounds_toArray, List.set_cons_zero, List.set_cons_succ]
                    with_reducible refine wpQuiet_step ?_
                    intro K hK
                    rw [if_neg (not_of_false (by kernel_rfl))]
                    refine hK _ ?_
                    clear hK K
                    simp only [Act.put, List.setIfInBounds_toArray, List.set_cons_zero, List.set_cons_succ]
                    with_reducible refine wpQuiet_step ?_
                    intro K hK
                    rw [if_neg (not_of_false (by kernel_rfl))]
                    refine hK _ ?_
                    clear hK K
                    simp only [Act.put, List.setIfInBounds_toArray, List.set_cons_zero, List.set_cons_succ]
                    with_reducible refine wpQuiet_step ?_
                    intro K hK
                    rw [if_neg (not_of_false (by kernel_rfl))]
                    refine hK _ ?_
                    clear hK K
                    simp only [Act.put, List.setIfInBounds_toArray, List.set_cons_zero, List.set_cons_succ]
                    with_reducible refine wpQuiet_step ?_
                    intro K hK
                    rw [if_neg (not_of_false (by kernel_rfl))]
                    refine hK _ ?_
                    clear hK K
                    simp only [Act.put, List.setIfInBounds_toArray, List.set_cons_zero, List.set_cons_succ]
                    with_reducible refine wpQuiet_step ?_
                    intro K hK
                    rw [if_neg (not_of_false (by kernel_rfl))]
                    refine hK _ ?_
                    clear hK K
                    simp only [Act.put, List.setIfInBounds_toArray, List.set_cons_zero, List.set_cons_succ]
                    with_reducible refine wpQuiet_step ?_
                    intro K hK
                    rw [if_neg (not_of_false (by kernel_rfl))]
                    refine hK _ ?_
                    clear hK K
                    simp only [Act.put, List.setIfInBounds_toArray, List.set_cons_zero, List.set_cons_succ]
                    with_reducible refine wpQuiet_step ?_
                    intro K hK
                    rw [if_neg (not_of_false (by kernel_rfl))]
                    refine hK _ ?_
                    clear hK K
                    simp only [Act.put, List.setIfInBounds_toArray, List.set_cons_zero, List.set_cons_succ]
                    with_reducible refine wpQuiet_step ?_
                    intro K hK
                    rw [if_neg (not_of_false (by kernel_rfl))]
                    refine hK _ ?_
                    clear hK K
                    simp only [Act.put, List.setIfInBounds_toArray, List.set_cons_zero, List.set_cons_succ]
                    with_reducible refine wpQuiet_step ?_
                    intro K hK
                    rw [if_neg (not_of_false (by kernel_rfl))]
                    refine hK _ ?_
                    clear hK K
                    simp only [Act.put, List.setIfInBounds_toArray, List.set_cons_zero, List.set_cons_succ]
                    with_reducible refine wpQuiet_step ?_
                    intro K hK
                    rw [if_neg (not_of_false (by kernel_rfl))]
                    refine hK _ ?_
                    clear hK K
                    simp only [Act.put, List.setIfInBounds_toArray, List.set_cons_zero, List.set_cons_succ]
                    with_reducible refine wpQuiet_step ?_
                    intro K hK
                    rw [if_neg (not_of_false (by kernel_rfl))]
                    refine hK _ ?_
                    clear hK K
                    simp only [Act.put, List.setIfInBounds_toArray, List.set_cons_zero, List.set_cons_succ]
                    with_reducible refine wpQuiet_step ?_
                    intro K hK
                    rw [if_neg (not_of_false (by kernel_rfl))]
                    refine hK _ ?_
                    clear hK K
                    simp only [Act.put, List.setIfInBounds_toArray, List.set_cons_zero, List.set_cons_succ]
                    with_reducible refine wpQuiet_step ?_
                    intro K hK
                    rw [if_pos (by kernel_rfl)]
                    refine val_at (.bool true) (fun W => by go_simp) (hK _ ?_)
                    clear hK K
                    simp only [Act.put, List.setIfInBounds_toArray, List.set_cons_zero, List.set_cons_succ]
                    with_reducible refine wpQuiet_step ?_
                    intro K hK
                    rw [if_pos (by kernel_rfl)]
                    refine val_at (.bool true) (fun W => by go_simp) (hK _ ?_)
                    clear hK K
                    simp only [Act.put, List.setIfInBounds_toArray, List.set_cons_zero, List.set_cons_succ]
                    refine wpQuiet_nil fun w8 hk8 => ?_
                    have HK8 : Hid (Kept [] wr w8) := hk8
                    clear hk8
                    clear HK7
                    have HK9 : Hid (Kept [] w9 w8) := HI.out.2.then HK8.out
                    clear HK8 HX HY
                    go_wp2
                    go_roundw
                    case rel => exact ⟨k + 1, true, by omega, rfl, by go_num, fun _ _ _ _ _ => rfl, HK9.out⟩
                    case measure => simp [intOf]; omega
                · have hse : x.seq = y.seq := by
                    unfold Beat at hnb
                    omega
                  have hc0 : 0 ≤ cmpZ x.id y.id := cmpZ_geq fun h => hnb (Or.inr ⟨hse, h⟩)
                  have HCM : Hid (∀ W, Kept [] wr W → Calls Try.prog 8 #[.agg (x.id.map (Value.int .u8)).toArray, .agg (y.id.map (Value.int .u8)).toArray] W fun e w' => e = .returned (.int .i64 (cmpZ x.id y.id)) ∧ Kept [] wr w') := fun W q => (CmpID_any x.id y.id W x.gi y.gi).mono fun e w' ⟨h1, h2⟩ => ⟨h1, q.then h2⟩
                  have hzx : (Try.prog.info? 29).map (·.size) = some (x.id.map (Value.int .u8)).length := by rw [List.length_map, x.gi.1]; exact Try.infoID
                  have hzy : (Try.prog.info? 29).map (·.size) = some (y.id.map (Value.int .u8)).length := by rw [List.length_map, y.gi.1]; exact Try.infoID
                  rw [← hse] at HY
                  have tg : decide (0 ≤ cmpZ x.id y.id) = true := decide_eq_true hc0
                  clear hx hnm hnb hgt hse hc0
                  generalize strOfNums x.name = SX at *
                  generalize strOfNums y.name = SY at *
                  generalize x.seq = mx at *
                  generalize x.id.map (Value.int .u8) = ix at *
                  generalize y.id.map (Value.int .u8) = iy at *
                  generalize cmpZ x.id y.id = c at *
                  as_aux_lemma =>
                    go_wp2_with fail
                    refine region_quiet (Kept [] wr) (by kernel_rfl) (by kernel_rfl) ((Kept.refl [] wr).drew) ?_
                    with_reducible refine wpQuiet_step ?_
                    intro K hK
                    rw [if_pos (by kernel_rfl)]
                    refine move_at (.tmp 5) rfl (.slice (some ⟨bM, oM, none⟩) M.length c3) rfl (hK _ ?_)
                    clear hK K
                    simp only [Act.put, List.setIfInBounds_toArray, List.set_cons_zero, List.set_cons_succ]
                    with_reducible refine wpQuiet_step ?_
                    intro K hK
                    rw [if_pos (by kernel_rfl)]
                    refine move_at (.tmp 12) rfl (.int .i64 (k : Int)) rfl (hK _ ?_)
                    clear hK K
                    simp only [Act.put, List.setIfInBounds_toArray, List.set_cons_zero, List.set_cons_succ]
                    with_reducible refine wpQuiet_step ?_
                    intro K hK
                    rw [if_pos (by kernel_rfl)]
                    refine val_at (.pointer (some ⟨bM, oM + k * 34, none⟩)) (fun W => by go_simp) (hK _ ?_)
                    clear hK K
                    simp only [Act.put, List.setIfInBounds_toArray, List.set_cons_zero, List.set_cons_succ]
                    with_reducible refine wpQuiet_step ?_
                    intro K hK
                    rw [if_pos (by kernel_rfl)]
                    refine val_at (.pointer (some ⟨bM, oM + k * 34, none⟩)) (fun W => by go_simp) (hK _ ?_)
                    clear hK K
                    simp only [Act.put, List.setIfInBounds_toArray, List.set_cons_zero, List.set_cons_succ]
                    with_reducible refine wpQuiet_step ?_
                    intro K hK
                    rw [if_pos (by kernel_rfl)]
                    refine valS_at (.string SX) (fun W hW => by have hcc := (HX.out W hW).1; go_simp) (hK _ ?_)
                    clear hK K
                    simp only [Act.put, List.setIfInBounds_toArray, List.set_cons_zero, List.set_cons_succ]
                    with_reducible refine wpQuiet_step ?_
                    intro K hK
                    rw [if_pos (by kernel_rfl)]
                    refine move_at (.tmp 9) rfl (.slice (some ⟨bD, oD, none⟩) AB.length c9) rfl (hK _ ?_)
                    clear hK K
                    simp only [Act.put, List.setIfInBounds_toArray, List.set_cons_zero, List.set_cons_succ]
                    with_reducible refine wpQuiet_step ?_
                    intro K hK
                    rw [if_pos (by kernel_rfl)]
                    refine move_at (.tmp 10) rfl (.int .i64 (i : Int)) rfl (hK _ ?_)
                    clear hK K
                    simp only [Act.put, List.setIfInBounds_toArray, List.set_cons_zero, List.set_cons_succ]
                    with_reducible refine wpQuiet_step ?_
                    intro K hK
                    rw [if_pos (by kernel_rfl)]
                    refine val_at (.pointer (some ⟨bD, oD + i * 34, none⟩)) (fun W => by go_simp) (hK _ ?_)
                    clear hK K
                    simp only [Act.put, List.setIfInBounds_toArray, List.set_cons_zero, List.set_cons_succ]
                    with_reducible refine wpQuiet_step ?_
                    intro K hK
                    rw [if_pos (by kernel_rfl)]
                    refine val_at (.pointer (some ⟨bD, oD + i * 34, none⟩)) (fun W => by go_simp) (hK _ ?_)
                    clear hK K
                    simp only [Act.put, List.setIfInBounds_toArray, List.set_cons_zero, List.set_cons_succ]
                    with_reducible refine wpQuiet_step ?_
                    intro K hK
                    rw [if_pos (by kernel_rfl)]
                    refine valS_at (.string SY) (fun W hW => by have hcc := (HY.out W hW).1; go_simp) (hK _ ?_)
                    clear hK K
                    simp only [Act.put, List.setIfInBounds_toArray, List.set_cons_zero, List.set_cons_succ]
                    with_reducible refine wpQuiet_step ?_
                    intro K hK
                    rw [if_pos (by kernel_rfl)]
                    refine val_at (.bool true) (fun W => by go_simp) (hK _ ?_)
                    clear hK K
                    simp only [Act.put, List.setIfInBounds_toArray, List.set_cons_zero, List.set_cons_succ]
                    refine wpQuiet_nil fun w7 hk7 => ?_
                    have HK7 : Hid (Kept [] wr w7) := hk7
                    clear hk7
                    go_wp2_with fail
                    refine region_quiet (Kept [] wr) (by kernel_rfl) (by kernel_rfl) (HK7.out.drew) ?_
                    with_reducible refine wpQuiet_step ?_
                    intro K hK
                    rw [if_pos (by kernel_rfl)]
                    refine move_at (.tmp 5) rfl (.slice (some ⟨bM, oM, none⟩) M.length c3) rfl (hK _ ?_)
                    clear hK K
                    simp only [Act.put, List.setIfInBounds_toArray, List.set_cons_zero, List.set_cons_succ]
                    with_reducible refine wpQuiet_step ?_
                    intro K hK
                    rw [if_pos (by kernel_rfl)]
                    refine move_at (.tmp 12) rfl (.int .i64 (k : Int)) rfl (hK _ ?_)
                    clear hK K
                    simp only [Act.put, List.setIfInBounds_toArray, List.set_cons_zero, List.set_cons_succ]
                    with_reducible refine wpQuiet_step ?_
                    intro K hK
                    rw [if_pos (by kernel_rfl)]
                    refine val_at (.pointer (some ⟨bM, oM + k * 34, none⟩)) (fun W => by go_simp) (hK _ ?_)
                    clear hK K
                    simp only [Act.put, List.setIfInBounds_toArray, List.set_cons_zero, List.set_cons_succ]
                    with_reducible refine wpQuiet_step ?_
                    intro K hK
                    rw [if_pos (by kernel_rfl)]
                    refine val_at (.pointer (some ⟨bM, oM + k * 34 + 33, none⟩)) (fun W => by go_simp) (hK _ ?_)
                    clear hK K
                    simp only [Act.put, List.setIfInBounds_toArray, List.set_cons_zero, List.set_cons_succ]
                    with_reducible refine wpQuiet_step ?_
                    intro K hK
                    rw [if_pos (by kernel_rfl)]
                    refine valS_at (.int .u64 mx) (fun W hW => by have hcc := (HX.out W hW).2.1; go_simp) (hK _ ?_)
                    clear hK K
                    simp only [Act.put, List.setIfInBounds_toArray, List.set_cons_zero, List.set_cons_succ]
                    with_reducible refine wpQuiet_step ?_
                    intro K hK
                    rw [if_pos (by kernel_rfl)]
                    refine move_at (.tmp 9) rfl (.slice (some ⟨bD, oD, none⟩) AB.length c9) rfl (hK _ ?_)
                    clear hK K
                    simp only [Act.put, List.setIfInBounds_toArray, List.set_cons_zero, List.set_cons_succ]
                    with_reducible refine wpQuiet_step ?_
                    intro K hK
                    rw [if_pos (by kernel_rfl)]
                    refine move_at (.tmp 10) rfl (.int .i64 (i : Int)) rfl (hK _ ?_)
                    clear hK K
                    simp only [Act.put, List.setIfInBounds_toArray, List.set_cons_zero, List.set_cons_succ]
                    with_reducible refine wpQuiet_step ?_
                    intro K hK
                    rw [if_pos (by kernel_rfl)]
                    refine val_at (.pointer (some ⟨bD, oD + i * 34, none⟩)) (fun W => by go_simp) (hK _ ?_)
                    clear hK K
                    simp only [Act.put, List.setIfInBounds_toArray, List.set_cons_zero, List.set_cons_succ]
                    with_reducible refine wpQuiet_step ?_
                    intro K hK
                    rw [if_pos (by kernel_rfl)]
                    refine val_at (.pointer (some ⟨bD, oD + i * 34 + 33, none⟩)) (fun W => by go_simp) (hK _ ?_)
                    clear hK K
                    simp only [Act.put, List.setIfInBounds_toArray, List.set_cons_zero, List.set_cons_succ]
                    with_reducible refine wpQuiet_step ?_
                    intro K hK
                    rw [if_pos (by kernel_rfl)]
                    refine valS_at (.int .u64 mx) (fun W hW => by have hcc := (HY.out W hW).2.1; go_simp) (hK _ ?_)
                    clear hK K
                    simp only [Act.put, List.setIfInBounds_toArray, List.set_cons_zero, List.set_cons_succ]
                    with_reducible refine wpQuiet_step ?_
                    intro K hK
                    rw [if_pos (by kernel_rfl)]
                    refine val_at (.bool false) (fun W => by go_simp) (hK _ ?_)
                    clear hK K
                    simp only [Act.put, List.setIfInBounds_toArray, List.set_cons_zero, List.set_cons_succ]
                    with_reducible refine wpQuiet_step ?_
                    intro K hK
                    rw [if_pos (by kernel_rfl)]
                    refine move_at (.tmp 144) rfl (.bool false) rfl (hK _ ?_)
                    clear hK K
                    simp only [Act.put, List.setIfInBounds_toArray, List.set_cons_zero, List.set_cons_succ]
                    with_reducible refine wpQuiet_step ?_
                    intro K hK
                    rw [if_pos (by kernel_rfl)]
                    refine move_at (.tmp 5) rfl (.slice (some ⟨bM, oM, none⟩) M.length c3) rfl (hK _ ?_)
                    clear hK K
                    simp only [Act.put, List.setIfInBounds_toArray, List.set_cons_zero, List.set_cons_succ]
                    with_reducible refine wpQuiet_step ?_
                    intro K hK
                    rw [if_pos (by kernel_rfl)]
                    refine move_at (.tmp 12) rfl (.int .i64 (k : Int)) rfl (hK _ ?_)
                    clear hK K
                    simp only [Act.put, List.setIfInBounds_toArray, List.set_cons_zero, List.set_cons_succ]
                    with_reducible refine wpQuiet_step ?_
                    intro K hK
                    rw [if_pos (by kernel_rfl)]
                    refine val_at (.pointer (some ⟨bM, oM + k * 34, none⟩)) (fun W => by go_simp) (hK _ ?_)
                    clear hK K
                    simp only [Act.put, List.setIfInBounds_toArray, List.set_cons_zero, List.set_cons_succ]
                    with_reducible refine wpQuiet_step ?_
                    intro K hK
                    rw [if_pos (by kernel_rfl)]
                    refine val_at (.pointer (some ⟨bM, oM + k * 34 + 33, none⟩)) (fun W => by go_simp) (hK _ ?_)
                    clear hK K
                    simp only [Act.put, List.setIfInBounds_toArray, List.set_cons_zero, List.set_cons_succ]
                    with_reducible refine wpQuiet_step ?_
                    intro K hK
                    rw [if_pos (by kernel_rfl)]
                    refine valS_at (.int .u64 mx) (fun W hW => by have hcc := (HX.out W hW).2.1; go_simp) (hK _ ?_)
                    clear hK K
                    simp only [Act.put, List.setIfInBounds_toArray, List.set_cons_zero, List.set_cons_succ]
                    with_reducible refine wpQuiet_step ?_
                    intro K hK
                    rw [if_pos (by kernel_rfl)]
                    refine move_at (.tmp 9) rfl (.slice (some ⟨bD, oD, none⟩) AB.length c9) rfl (hK _ ?_)
                    clear hK K
                    simp only [Act.put, List.setIfInBounds_toArray, List.set_cons_zero, List.set_cons_succ]
                    with_reducible refine wpQuiet_step ?_
                    intro K hK
                    rw [if_pos (by kernel_rfl)]
                    refine move_at (.tmp 10) rfl (.int .i64 (i : Int)) rfl (hK _ ?_)
                    clear hK K
                    simp only [Act.put, List.setIfInBounds_toArray, List.set_cons_zero, List.set_cons_succ]
                    with_reducible refine wpQuiet_step ?_
                    intro K hK
                    rw [if_pos (by kernel_rfl)]
                    refine val_at (.pointer (some ⟨bD, oD + i * 34, none⟩)) (fun W => by go_simp) (hK _ ?_)
                    clear hK K
                    simp only [Act.put, List.setIfInBounds_toArray, List.set_cons_zero, List.set_cons_succ]
                    with_reducible refine wpQuiet_step ?_
                    intro K hK
                    rw [if_pos (by kernel_rfl)]
                    refine val_at (.pointer (some ⟨bD, oD + i * 34 + 33, none⟩)) (fun W => by go_simp) (hK _ ?_)
                    clear hK K
                    simp only [Act.put, List.setIfInBounds_toArray, List.set_cons_zero, List.set_cons_succ]
                    with_reducible refine wpQuiet_step ?_
                    intro K hK
                    rw [if_pos (by kernel_rfl)]
                    refine valS_at (.int .u64 mx) (fun W hW => by have hcc := (HY.out W hW).2.1; go_simp) (hK _ ?_)
                    clear hK K
                    simp only [Act.put, List.setIfInBounds_toArray, List.set_cons_zero, List.set_cons_succ]
                    with_reducible refine wpQuiet_step ?_
                    intro K hK
                    rw [if_pos (by kernel_rfl)]
                    refine val_at (.bool true) (fun W => by go_simp) (hK _ ?_)
                    clear hK K
                    simp only [Act.put, List.setIfInBounds_toArray, List.set_cons_zero, List.set_cons_succ]
                    with_reducible refine wpQuiet_step ?_
                    intro K hK
                    rw [if_pos (by kernel_rfl)]
                    refine move_at (.tmp 156) rfl (.bool true) rfl (hK _ ?_)
                    clear hK K
                    simp only [Act.put, List.setIfInBounds_toArray, List.set_cons_zero, List.set_cons_succ]
                    with_reducible refine wpQuiet_step ?_
                    intro K hK
                    rw [if_pos (by kernel_rfl)]
                    refine move_at (.tmp 5) rfl (.slice (some ⟨bM, oM, none⟩) M.length c3) rfl (hK _ ?_)
                    clear hK K
                    simp only [Act.put, List.setIfInBounds_toArray, List.set_cons_zero, List.set_cons_succ]
                    with_reducible refine wpQuiet_step ?_
                    intro K hK
                    rw [if_pos (by kernel_rfl)]
                    refine move_at (.tmp 12) rfl (.int .i64 (k : Int)) rfl (hK _ ?_)
                    clear hK K
                    simp only [Act.put, List.setIfInBounds_toArray, List.set_cons_zero, List.set_cons_succ]
                    with_reducible refine wpQuiet_step ?_
                    intro K hK
                    rw [if_pos (by kernel_rfl)]
                    refine val_at (.pointer (some ⟨bM, oM + k * 34, none⟩)) (fun W => by go_simp) (hK _ ?_)
                    clear hK K
                    simp only [Act.put, List.setIfInBounds_toArray, List.set_cons_zero, List.set_cons_succ]
                    with_reducible refine wpQuiet_step ?_
                    intro K hK
                    rw [if_pos (by kernel_rfl)]
                    refine val_at (.pointer (some ⟨bM, oM + k * 34 + 1, none⟩)) (fun W => by go_simp) (hK _ ?_)
                    clear hK K
                    simp only [Act.put, List.setIfInBounds_toArray, List.set_cons_zero, List.set_cons_succ]
                    with_reducible refine wpQuiet_step ?_
                    intro K hK
                    rw [if_pos (by kernel_rfl)]
                    refine row_at 29 (.tmp 161) rfl bM (oM + k * 34 + 1) rfl ix _ (fun W hW => (HX.out W hW).2.2) hui rfl hzx (hK _ ?_)
                    clear hK K
                    simp only [Act.put, List.setIfInBounds_toArray, List.set_cons_zero, List.set_cons_succ]
                    with_reducible refine wpQuiet_step ?_
                    intro K hK
                    rw [if_pos (by kernel_rfl)]
                    refine move_at (.tmp 9) rfl (.slice (some ⟨bD, oD, none⟩) AB.length c9) rfl (hK _ ?_)
                    clear hK K
                    simp only [Act.put, List.setIfInBounds_toArray, List.set_cons_zero, List.set_cons_succ]
                    with_reducible refine wpQuiet_step ?_
                    intro K hK
                    rw [if_pos (by kernel_rfl)]
                    refine move_at (.tmp 10) rfl (.int .i64 (i : Int)) rfl (hK _ ?_)
                    clear hK K
                    simp only [Act.put, List.setIfInBounds_toArray, List.set_cons_zero, List.set_cons_succ]
                    with_reducible refine wpQuiet_step ?_
                    intro K hK
                    rw [if_pos (by kernel_rfl)]
                    refine val_at (.pointer (some ⟨bD, oD + i * 34, none⟩)) (fun W => by go_simp) (hK _ ?_)
                    clear hK K
                    simp only [Act.put, List.setIfInBounds_toArray, List.set_cons_zero, List.set_cons_succ]
                    with_reducible refine wpQuiet_step ?_
                    intro K hK
                    rw [if_pos (by kernel_rfl)]
                    refine val_at (.pointer (some ⟨bD, oD + i * 34 + 1, none⟩)) (fun W => by go_simp) (hK _ ?_)
                    clear hK K
                    simp only [Act.put, List.setIfInBounds_toArray, List.set_cons_zero, List.set_cons_succ]
                    with_reducible refine wpQuiet_step ?_
                    intro K hK
                    rw [if_pos (by kernel_rfl)]
                    refine row_at 29 (.tmp 166) rfl bD (oD + i * 34 + 1) rfl iy _ (fun W hW => (HY.out W hW).2.2) hui rfl hzy (hK _ ?_)
                    clear hK K
                    simp only [Act.put, List.setIfInBounds_toArray, List.set_cons_zero, List.set_cons_succ]
                    with_reducible refine wpQuiet_step ?_
                    intro K hK
                    rw [if_pos (by kernel_rfl)]
                    refine call_at 8 #[.agg ix.toArray, .agg iy.toArray] (.int .i64 c) (fun W => by go_simp) HCM.out (hK _ ?_)
                    clear hK K
                    simp only [Act.put, List.setIfInBounds_toArray, List.set_cons_zero, List.set_cons_succ]
                    with_reducible refine wpQuiet_step ?_
                    intro K hK
                    rw [if_pos (by kernel_rfl)]
                    refine val_at (.bool true) (fun W => by go_simp) (hK _ ?_)
                    clear hK K
                    simp only [Act.put, List.setIfInBounds_toArray, List.set_cons_zero, List.set_cons_succ]
                    with_reducible refine wpQuiet_step ?_
                    intro K hK
                    rw [if_pos (by kernel_rfl)]
                    refine val_at (.bool true) (fun W => by go_simp) (hK _ ?_)
                    clear hK K
                    simp only [Act.put, List.setIfInBounds_toArray, List.set_cons_zero, List.set_cons_succ]
                    with_reducible refine wpQuiet_step ?_
                    intro K hK
                    rw [if_pos (by kernel_rfl)]
                    refine val_at (.bool true) (fun W => by go_simp) (hK _ ?_)
                    clear hK K
                    simp only [Act.put, List.setIfInBounds_toArray, List.set_cons_zero, List.set_cons_succ]
                    with_reducible refine wpQuiet_step ?_
                    intro K hK
                    rw [if_pos (by kernel_rfl)]
                    refine val_at (.bool true) (fun W => by go_simp) (hK _ ?_)
                    clear hK K
                    simp only [Act.put, List.setIfInBounds_toArray, List.set_cons_zero, List.set_cons_succ]
                    refine wpQuiet_nil fun w8 hk8 => ?_
                    have HK8 : Hid (Kept [] wr w8) := hk8
                    clear hk8
                    clear HK7
                    have HK9 : Hid (Kept [] w9 w8) := HI.out.2.then HK8.out
                    clear HK8 HX HY
                    go_wp2
                    go_roundw
                    case rel => exact ⟨k + 1, true, by omega, rfl, by go_num, fun _ _ _ _ _ => rfl, HK9.out⟩
                    case measure => simp [intOf]; omega
              · rw [decide_eq_false hnm] at heq
                have HNX : Hid (∀ (j : Nat) z, j < k + 1 → M[j]? = some z → z.name = y.name → f = true) := fun j z hj hz hn => by
                  by_cases e : j = k
                  · subst e
                    rw [hx] at hz
                    exact absurd (Option.some.inj hz ▸ hn) hnm
                  · exact HI.out.1 j z (by omega) hz hn
                clear hx hnm
                generalize strOfNums x.name = SX at *
                generalize strOfNums y.name = SY at *
                as_aux_lemma =>
                  go_wp2_with fail
                  refine region_quiet (Kept [] wr) (by kernel_rfl) (by kernel_rfl) ((Kept.refl [] wr).drew) ?_
                  with_reducible refine wpQuiet_step ?_
                  intro K hK
                  rw [if_pos (by kernel_rfl)]
                  refine move_at (.tmp 5) rfl (.slice (some ⟨bM, oM, none⟩) M.length c3) rfl (hK _ ?_)
                  clear hK K
                  simp only [Act.put, List.setIfInBounds_toArray, List.set_cons_zero, List.set_cons_succ]
                  with_reducible refine wpQuiet_step ?_
                  intro K hK
                  rw [if_pos (by kernel_rfl)]
                  refine move_at (.tmp 12) rfl (.int .i64 (k : Int)) rfl (hK _ ?_)
                  clear hK K
                  simp only [Act.put, List.setIfInBounds_toArray, List.set_cons_zero, List.set_cons_succ]
                  with_reducible refine wpQuiet_step ?_
                  intro K hK
                  rw [if_pos (by kernel_rfl)]
                  refine val_at (.pointer (some ⟨bM, oM + k * 34, none⟩)) (fun W => by go_simp) (hK _ ?_)
                  clear hK K
                  simp only [Act.put, List.setIfInBounds_toArray, List.set_cons_zero, List.set_cons_succ]
                  with_reducible refine wpQuiet_step ?_
                  intro K hK
                  rw [if_pos (by kernel_rfl)]
                  refine val_at (.pointer (some ⟨bM, oM + k * 34, none⟩)) (fun W => by go_simp) (hK _ ?_)
                  clear hK K
                  simp only [Act.put, List.setIfInBounds_toArray, List.set_cons_zero, List.set_cons_succ]
                  with_reducible refine wpQuiet_step ?_
                  intro K hK
                  rw [if_pos (by kernel_rfl)]
                  refine valS_at (.string SX) (fun W hW => by have hcc := (HX.out W hW).1; go_simp) (hK _ ?_)
                  clear hK K
                  simp only [Act.put, List.setIfInBounds_toArray, List.set_cons_zero, List.set_cons_succ]
                  with_reducible refine wpQuiet_step ?_
                  intro K hK
                  rw [if_pos (by kernel_rfl)]
                  refine move_at (.tmp 9) rfl (.slice (some ⟨bD, oD, none⟩) AB.length c9) rfl (hK _ ?_)
                  clear hK K
                  simp only [Act.put, List.setIfInBounds_toArray, List.set_cons_zero, List.set_cons_succ]
                  with_reducible refine wpQuiet_step ?_
                  intro K hK
                  rw [if_pos (by kernel_rfl)]
                  refine move_at (.tmp 10) rfl (.int .i64 (i : Int)) rfl (hK _ ?_)
                  clear hK K
                  simp only [Act.put, List.setIfInBounds_toArray, List.set_cons_zero, List.set_cons_succ]
                  with_reducible refine wpQuiet_step ?_
                  intro K hK
                  rw [if_pos (by kernel_rfl)]
                  refine val_at (.pointer (some ⟨bD, oD + i * 34, none⟩)) (fun W => by go_simp) (hK _ ?_)
                  clear hK K
                  simp only [Act.put, List.setIfInBounds_toArray, List.set_cons_zero, List.set_cons_succ]
                  with_reducible refine wpQuiet_step ?_
                  intro K hK
                  rw [if_pos (by kernel_rfl)]
                  refine val_at (.pointer (some ⟨bD, oD + i * 34, none⟩)) (fun W => by go_simp) (hK _ ?_)
                  clear hK K
                  simp only [Act.put, List.setIfInBounds_toArray, List.set_cons_zero, List.set_cons_succ]
                  with_reducible refine wpQuiet_step ?_
                  intro K hK
                  rw [if_pos (by kernel_rfl)]
                  refine valS_at (.string SY) (fun W hW => by have hcc := (HY.out W hW).1; go_simp) (hK _ ?_)
                  clear hK K
                  simp only [Act.put, List.setIfInBounds_toArray, List.set_cons_zero, List.set_cons_succ]
                  with_reducible refine wpQuiet_step ?_
                  intro K hK
                  rw [if_pos (by kernel_rfl)]
                  refine val_at (.bool false) (fun W => by go_simp) (hK _ ?_)
                  clear hK K
                  simp only [Act.put, List.setIfInBounds_toArray, List.set_cons_zero, List.set_cons_succ]
                  refine wpQuiet_nil fun w7 hk7 => ?_
                  have HK7 : Hid (Kept [] wr w7) := hk7
                  clear hk7
                  have HK9 : Hid (Kept [] w9 w7) := HI.out.2.then HK7.out
                  clear HK7 HX HY
                  go_wp2
                  go_roundw
                  case rel => exact ⟨k + 1, f, by omega, rfl, by go_num, HNX.out, HK9.out⟩
                  case measure => simp [intOf]; omega
            · have t0 : decide ((k : Int) < (M.length : Int)) = false := decide_eq_false (by omega)
              have t0' : ¬ ((k : Int) < (M.length : Int)) := by omega
              have hft : f = true := HI.out.1 j9 z9 (by omega) HFND.out.1 HFND.out.2
              subst hft
              as_aux_lemma =>
                go_wp2
                go_roundw
                case rel => exact ⟨i + 1, by omega, by go_num, HI.out.2⟩
                case measure => simp [intOf]; omega
        · have ti : decide ((i : Int) < (AB.length : Int)) = false := decide_eq_false (by omega)
          have ti' : ¬ ((i : Int) < (AB.length : Int)) := by omega
          as_aux_lemma =>
            have KW : Hid (∀ W, Kept [] wr W → Kept [] W0 W) := fun W k => HW3.out.then (HK39.out.then (HI.out.then k))
            have KM : Hid (∀ W, Kept [] wr W → StampsAt W (.slice a3 M.length c3) M) := fun W k => HSM.out W (HK39.out.then (HI.out.then k))
            have HKE : Hid (Kept [] w wr) := HK0.out.then (KW.out wr (Kept.refl _ _))
            clear HTOP HBST HSAB HABE HABL HSM HI HK39 HW3 HSA HSB
            go_wp2_with fail
            refine wp_region_held_drew (S := Kept [] wr) (by kernel_rfl) (Kept.refl [] wr).drew (fun hHeld => ?_)
            refine takeP 0 (v := .pointer (some ⟨w.heap.size, 0, none⟩)) (some 174) #[true, false, false, false, false, false, false, false, false] rfl rfl rfl (by kernel_rfl) (by kernel_rfl) (by kernel_rfl) (fun _ _ _ h => h) (Or.inl ⟨by rfl, fun W hSW => by go_simp⟩) hHeld ?_
            simp only [Act.put, List.setIfInBounds_toArray, List.set_cons_zero, List.set_cons_succ]
            refine takeP 1 (v := .slice aA A.length cA) (some 175) #[true, true, false, false, false, false, false, false, false] rfl rfl rfl (by kernel_rfl) (by kernel_rfl) (by kernel_rfl) (fun _ _ _ h => h) (Or.inl ⟨by rfl, fun W hSW => by have hcc := (HBX.out W (KW.out W hSW)).1; go_simp⟩) hHeld ?_
            simp only [Act.put, List.setIfInBounds_toArray, List.set_cons_zero, List.set_cons_succ]
            refine takeP 2 (v := .pointer (some ⟨w.heap.size, 1, none⟩)) (some 176) #[true, true, true, false, false, false, false, false, false] rfl rfl rfl (by kernel_rfl) (by kernel_rfl) (by kernel_rfl) (fun _ _ _ h => h) (Or.inl ⟨by rfl, fun W hSW => by go_simp⟩) hHeld ?_
            simp only [Act.put, List.setIfInBounds_toArray, List.set_cons_zero, List.set_cons_succ]
            refine takeP 3 (v := .slice aB B.length cB) (some 177) #[true, true, true, true, false, false, false, false, false] rfl rfl rfl (by kernel_rfl) (by kernel_rfl) (by kernel_rfl) (fun _ _ _ h => h) (Or.inl ⟨by rfl, fun W hSW => by have hcc := (HBX.out W (KW.out W hSW)).2.1; go_simp⟩) hHeld ?_
            simp only [Act.put, List.setIfInBounds_toArray, List.set_cons_zero, List.set_cons_succ]
            refine takeP 5 (v := .pointer (some ⟨w.heap.size, 2, none⟩)) (some 179) #[true, true, true, true, false, true, false, false, false] rfl rfl rfl (by kernel_rfl) (by kernel_rfl) (by kernel_rfl) (fun _ _ _ h => h) (Or.inl ⟨by rfl, fun W hSW => by go_simp⟩) hHeld ?_
            simp only [Act.put, List.setIfInBounds_toArray, List.set_cons_zero, List.set_cons_succ]
            refine takeP 6 (v := .slice aC C.length cC) (some 180) #[true, true, true, true, false, true, true, false, false] rfl rfl rfl (by kernel_rfl) (by kernel_rfl) (by kernel_rfl) (fun _ _ _ h => h) (Or.inl ⟨by rfl, fun W hSW => by have hcc := (HBX.out W (KW.out W hSW)).2.2; go_simp⟩) hHeld ?_
            simp only [Act.put, List.setIfInBounds_toArray, List.set_cons_zero, List.set_cons_succ]
            refine wpAnyH_ready (rs := [4]) (by kernel_rfl) (by simp) (AllReadyH.cons rfl (fun K hK => ?_) AllReadyH.nil)
            rw [if_pos (by kernel_rfl)]
            refine wp_call_ret 5 #[.slice aA A.length cA, .slice aB B.length cB] (by go_simp) ?_
            refine (Merge_to (HA.out _ (KW.out _ hHeld)) (HB.out _ (KW.out _ hHeld)) (by omega) HM3.out).mono ?_
            rintro e w11 ⟨a11, c11, rfl, hs11, k11⟩
            refine ⟨_, rfl, hK.out _ _ (hHeld.then k11) (fun hHeld => ?_)⟩
            clear hK K
            simp only [Act.put, List.getElem_toArray, List.getElem_cons_succ, List.getElem_cons_zero, List.setIfInBounds_toArray, List.set_cons_zero, List.set_cons_succ]
            refine wpAnyH_ready (rs := [7]) (by kernel_rfl) (by simp) (AllReadyH.cons rfl (fun K hK => ?_) AllReadyH.nil)
            rw [if_pos (by kernel_rfl)]
            refine wp_call_ret 5 #[.slice a11 M.length c11, .slice aC C.length cC] (by go_simp) ?_
            refine (Merge_any _ _ M C _ hs11 (HC.out _ (KW.out _ hHeld)) (by omega)).mono ?_
            rintro e w12 ⟨v12, X, rfl, hX, hXl, hXo, k12⟩
            obtain ⟨a12, c12, rfl⟩ := hXo.is
            have HXX : Hid (MergedTo (A ++ B ++ C) X ∧ StampsAt w12 (.slice a12 X.length c12) X) := ⟨HM3.out.again hX, hXo.at (by rw [List.length_append] at hXl; omega)⟩
            clear hX hXl hXo hs11
            refine ⟨_, rfl, hK.out _ _ (hHeld.then k12) (fun hHeld => ?_)⟩
            clear hK K
            simp only [Act.put, List.getElem_toArray, List.getElem_cons_succ, List.getElem_cons_zero, List.setIfInBounds_toArray, List.set_cons_zero, List.set_cons_succ]
            refine takeP 8 (v := .slice a12 X.length c12) (some 13) #[true, true, true, true, true, true, true, true, true] rfl rfl rfl (by kernel_rfl) (by kernel_rfl) (by kernel_rfl) (fun _ _ _ h => h) (Or.inl ⟨by rfl, fun W hSW => by go_simp⟩) hHeld ?_
            simp only [Act.put, List.setIfInBounds_toArray, List.set_cons_zero, List.set_cons_succ]
            refine wpAnyH_done (by kernel_rfl) ?_ _
            have HK12 : Hid (Kept [] wr w12) := hHeld
            clear hHeld k11 k12
            go_wp2_with fail
            refine wp_region_held_drew (S := Kept [] w12) (by kernel_rfl) (Kept.refl [] w12).drew (fun hHeld => ?_)
            refine takeP 0 (v := .pointer (some ⟨w.heap.size, 0, none⟩)) (some 182) #[true, false, false, false, false, false, false, false, false] rfl rfl rfl (by kernel_rfl) (by kernel_rfl) (by kernel_rfl) (fun _ _ _ h => h) (Or.inl ⟨by rfl, fun W hSW => by go_simp⟩) hHeld ?_
            simp only [Act.put, List.setIfInBounds_toArray, List.set_cons_zero, List.set_cons_succ]
            refine takeP 1 (v := .slice aA A.length cA) (some 183) #[true, true, false, false, false, false, false, false, false] rfl rfl rfl (by kernel_rfl) (by kernel_rfl) (by kernel_rfl) (fun _ _ _ h => h) (Or.inl ⟨by rfl, fun W hSW => by have hcc := (HBX.out W (KW.out W (HK12.out.then hSW))).1; go_simp⟩) hHeld ?_
            simp only [Act.put, List.setIfInBounds_toArray, List.set_cons_zero, List.set_cons_succ]
            refine takeP 2 (v := .pointer (some ⟨w.heap.size, 2, none⟩)) (some 184) #[true, true, true, false, false, false, false, false, false] rfl rfl rfl (by kernel_rfl) (by kernel_rfl) (by kernel_rfl) (fun _ _ _ h => h) (Or.inl ⟨by rfl, fun W hSW => by go_simp⟩) hHeld ?_
            simp only [Act.put, List.setIfInBounds_toArray, List.set_cons_zero, List.set_cons_succ]
            refine takeP 3 (v := .slice aC C.length cC) (some 185) #[true, true, true, true, false, false, false, false, false] rfl rfl rfl (by kernel_rfl) (by kernel_rfl) (by kernel_rfl) (fun _ _ _ h => h) (Or.inl ⟨by rfl, fun W hSW => by have hcc := (HBX.out W (KW.out W (HK12.out.then hSW))).2.2; go_simp⟩) hHeld ?_
            simp only [Act.put, List.setIfInBounds_toArray, List.set_cons_zero, List.set_cons_succ]
            refine takeP 4 (v := .pointer (some ⟨w.heap.size, 1, none⟩)) (some 186) #[true, true, true, true, true, false, false, false, false] rfl rfl rfl (by kernel_rfl) (by kernel_rfl) (by kernel_rfl) (fun _ _ _ h => h) (Or.inl ⟨by rfl, fun W hSW => by go_simp⟩) hHeld ?_
            simp only [Act.put, List.setIfInBounds_toArray, List.set_cons_zero, List.set_cons_succ]
            refine takeP 5 (v := .slice aB B.length cB) (some 187) #[true, true, true, true, true, true, false, false, false] rfl rfl rfl (by kernel_rfl) (by kernel_rfl) (by kernel_rfl) (fun _ _ _ h => h) (Or.inl ⟨by rfl, fun W hSW => by have hcc := (HBX.out W (KW.out W (HK12.out.then hSW))).2.1; go_simp⟩) hHeld ?_
            simp only [Act.put, List.setIfInBounds_toArray, List.set_cons_zero, List.set_cons_succ]
            refine wpAnyH_ready (rs := [6]) (by kernel_rfl) (by simp) (AllReadyH.cons rfl (fun K hK => ?_) AllReadyH.nil)
            rw [if_pos (by kernel_rfl)]
            refine wp_call_ret 5 #[.slice aC C.length cC, .slice aB B.length cB] (by go_simp) ?_
            refine (Merge_any _ _ C B _ (HC.out _ (KW.out _ (HK12.out.then hHeld))) (HB.out _ (KW.out _ (HK12.out.then hHeld))) (by omega)).mono ?_
            rintro e w13 ⟨v13, N, rfl, hN, hNl, hNo, k13⟩
            obtain ⟨a13, c13, rfl⟩ := hNo.is
            have hNs := hNo.at (by rw [List.length_append] at hNl; omega)
            have hNl2 : N.length ≤ C.length + B.length := by rw [← List.length_append]; exact hNl
            clear hNl hNo
            refine ⟨_, rfl, hK.out _ _ (hHeld.then k13) (fun hHeld => ?_)⟩
            clear hK K
            simp only [Act.put, List.getElem_toArray, List.getElem_cons_succ, List.getElem_cons_zero, List.setIfInBounds_toArray, List.set_cons_zero, List.set_cons_succ]
            refine wpAnyH_ready (rs := [7]) (by kernel_rfl) (by simp) (AllReadyH.cons rfl (fun K hK => ?_) AllReadyH.nil)
            rw [if_pos (by kernel_rfl)]
            refine wp_call_ret 5 #[.slice aA A.length cA, .slice a13 N.length c13] (by go_simp) ?_
            refine (Merge_any _ _ A N _ (HA.out _ (KW.out _ (HK12.out.then hHeld))) hNs (by omega)).mono ?_
            rintro e w14 ⟨v14, Y, rfl, hY, hYl, hYo, k14⟩
            obtain ⟨a14, c14, rfl⟩ := hYo.is
            have HYY : Hid (X = Y ∧ StampsAt w14 (.slice a14 Y.length c14) Y) := ⟨two_ways HXX.out.1 hN hY, hYo.at (by rw [List.length_append] at hYl; omega)⟩
            clear hN hY hYl hYo hNs hNl2
            refine ⟨_, rfl, hK.out _ _ (hHeld.then k14) (fun hHeld => ?_)⟩
            clear hK K
            simp only [Act.put, List.getElem_toArray, List.getElem_cons_succ, List.getElem_cons_zero, List.setIfInBounds_toArray, List.set_cons_zero, List.set_cons_succ]
            refine takeP 8 (v := .slice a14 Y.length c14) (some 14) #[true, true, true, true, true, true, true, true, true] rfl rfl rfl (by kernel_rfl) (by kernel_rfl) (by kernel_rfl) (fun _ _ _ h => h) (Or.inl ⟨by rfl, fun W hSW => by go_simp⟩) hHeld ?_
            simp only [Act.put, List.setIfInBounds_toArray, List.set_cons_zero, List.set_cons_succ]
            refine wpAnyH_done (by kernel_rfl) ?_ _
            have HK14 : Hid (Kept [] wr w14) := HK12.out.then hHeld
            have HEXY : Hid (∀ W, Kept [] w14 W → Calls Try.prog 6 #[.slice a12 X.length c12, .slice a14 Y.length c14] W fun e w' => e = .returned (.bool true) ∧ Kept [] W w') := fun W k => EqSt_same (HXX.out.2.kept (hHeld.then k)) (HYY.out.2.kept k) HYY.out.1
            clear hHeld k13 k14 HXX HYY HK12
            have HONE : Hid (Calls Try.prog 5 #[.slice (some ⟨w14.heap.size, 0, none⟩) 1 1, .slice (some ⟨w14.heap.size + 1, 0, none⟩) 1 1] ((w14.alloc (.cells ([.string ⟨#[97]⟩, .int .u8 0, .int .u8 0, .int .u8 0, .int .u8 0, .int .u8 0, .int .u8 0, .int .u8 0, .int .u8 0, .int .u8 0, .int .u8 0, .int .u8 0, .int .u8 0, .int .u8 0, .int .u8 0, .int .u8 0, .int .u8 0, .int .u8 0, .int .u8 0, .int .u8 0, .int .u8 0, .int .u8 0, .int .u8 0, .int .u8 0, .int .u8 0, .int .u8 0, .int .u8 0, .int .u8 0, .int .u8 0, .int .u8 0, .int .u8 0, .int .u8 0, .int .u8 0, .int .u64 1] : List Value).toArray 32)).alloc (.cells ([.string ⟨#[97]⟩, .int .u8 0, .int .u8 0, .int .u8 0, .int .u8 0, .int .u8 0, .int .u8 0, .int .u8 0, .int .u8 0, .int .u8 0, .int .u8 0, .int .u8 0, .int .u8 0, .int .u8 0, .int .u8 0, .int .u8 0, .int .u8 0, .int .u8 0, .int .u8 0, .int .u8 0, .int .u8 0, .int .u8 0, .int .u8 0, .int .u8 0, .int .u8 0, .int .u8 0, .int .u8 0, .int .u8 0, .int .u8 0, .int .u8 0, .int .u8 0, .int .u8 0, .int .u8 0, .int .u64 2] : List Value).toArray 32)) fun e w' => ∃ bO oO cO, e = .returned (.slice (some ⟨bO, oO, none⟩) 1 cO) ∧ (∀ W, Kept [] w' W → W.cell? ⟨bO, oO + 33, none⟩ = some (.int .u64 2)) ∧ Kept [] w14 w') := by
              have k1 : Kept [] w14 (w14.alloc (.cells ([.string ⟨#[97]⟩, .int .u8 0, .int .u8 0, .int .u8 0, .int .u8 0, .int .u8 0, .int .u8 0, .int .u8 0, .int .u8 0, .int .u8 0, .int .u8 0, .int .u8 0, .int .u8 0, .int .u8 0, .int .u8 0, .int .u8 0, .int .u8 0, .int .u8 0, .int .u8 0, .int .u8 0, .int .u8 0, .int .u8 0, .int .u8 0, .int .u8 0, .int .u8 0, .int .u8 0, .int .u8 0, .int .u8 0, .int .u8 0, .int .u8 0, .int .u8 0, .int .u8 0, .int .u8 0, .int .u64 1] : List Value).toArray 32)) := (Kept.refl _ _).alloc _
              have h1 : StampsAt ((w14.alloc (.cells ([.string ⟨#[97]⟩, .int .u8 0, .int .u8 0, .int .u8 0, .int .u8 0, .int .u8 0, .int .u8 0, .int .u8 0, .int .u8 0, .int .u8 0, .int .u8 0, .int .u8 0, .int .u8 0, .int .u8 0, .int .u8 0, .int .u8 0, .int .u8 0, .int .u8 0, .int .u8 0, .int .u8 0, .int .u8 0, .int .u8 0, .int .u8 0, .int .u8 0, .int .u8 0, .int .u8 0, .int .u8 0, .int .u8 0, .int .u8 0, .int .u8 0, .int .u8 0, .int .u8 0, .int .u8 0, .int .u64 1] : List Value).toArray 32)).alloc (.cells ([.string ⟨#[97]⟩, .int .u8 0, .int .u8 0, .int .u8 0, .int .u8 0, .int .u8 0, .int .u8 0, .int .u8 0, .int .u8 0, .int .u8 0, .int .u8 0, .int .u8 0, .int .u8 0, .int .u8 0, .int .u8 0, .int .u8 0, .int .u8 0, .int .u8 0, .int .u8 0, .int .u8 0, .int .u8 0, .int .u8 0, .int .u8 0, .int .u8 0, .int .u8 0, .int .u8 0, .int .u8 0, .int .u8 0, .int .u8 0, .int .u8 0, .int .u8 0, .int .u8 0, .int .u8 0, .int .u64 2] : List Value).toArray 32)) (.slice (some ⟨w14.heap.size, 0, none⟩) 1 1) [oneA] := by
                have h : RowsAt _ _ 34 [([.string ⟨#[97]⟩, .int .u8 0, .int .u8 0, .int .u8 0, .int .u8 0, .int .u8 0, .int .u8 0, .int .u8 0, .int .u8 0, .int .u8 0, .int .u8 0, .int .u8 0, .int .u8 0, .int .u8 0, .int .u8 0, .int .u8 0, .int .u8 0, .int .u8 0, .int .u8 0, .int .u8 0, .int .u8 0, .int .u8 0, .int .u8 0, .int .u8 0, .int .u8 0, .int .u8 0, .int .u8 0, .int .u8 0, .int .u8 0, .int .u8 0, .int .u8 0, .int .u8 0, .int .u8 0, .int .u64 1] : List Value)] := row_at_new w14 ([.string ⟨#[97]⟩, .int .u8 0, .int .u8 0, .int .u8 0, .int .u8 0, .int .u8 0, .int .u8 0, .int .u8 0, .int .u8 0, .int .u8 0, .int .u8 0, .int .u8 0, .int .u8 0, .int .u8 0, .int .u8 0, .int .u8 0, .int .u8 0, .int .u8 0, .int .u8 0, .int .u8 0, .int .u8 0, .int .u8 0, .int .u8 0, .int .u8 0, .int .u8 0, .int .u8 0, .int .u8 0, .int .u8 0, .int .u8 0, .int .u8 0, .int .u8 0, .int .u8 0, .int .u8 0, .int .u64 1] : List Value) 32 34
                rw [← oneA_row] at h ⊢
                exact StampsAt.kept (L := [oneA]) h ((Kept.refl _ _).alloc _)
              have h2 : StampsAt ((w14.alloc (.cells ([.string ⟨#[97]⟩, .int .u8 0, .int .u8 0, .int .u8 0, .int .u8 0, .int .u8 0, .int .u8 0, .int .u8 0, .int .u8 0, .int .u8 0, .int .u8 0, .int .u8 0, .int .u8 0, .int .u8 0, .int .u8 0, .int .u8 0, .int .u8 0, .int .u8 0, .int .u8 0, .int .u8 0, .int .u8 0, .int .u8 0, .int .u8 0, .int .u8 0, .int .u8 0, .int .u8 0, .int .u8 0, .int .u8 0, .int .u8 0, .int .u8 0, .int .u8 0, .int .u8 0, .int .u8 0, .int .u64 1] : List Value).toArray 32)).alloc (.cells ([.string ⟨#[97]⟩, .int .u8 0, .int .u8 0, .int .u8 0, .int .u8 0, .int .u8 0, .int .u8 0, .int .u8 0, .int .u8 0, .int .u8 0, .int .u8 0, .int .u8 0, .int .u8 0, .int .u8 0, .int .u8 0, .int .u8 0, .int .u8 0, .int .u8 0, .int .u8 0, .int .u8 0, .int .u8 0, .int .u8 0, .int .u8 0, .int .u8 0, .int .u8 0, .int .u8 0, .int .u8 0, .int .u8 0, .int .u8 0, .int .u8 0, .int .u8 0, .int .u8 0, .int .u8 0, .int .u64 2] : List Value).toArray 32)) (.slice (some ⟨w14.heap.size + 1, 0, none⟩) 1 1) [oneB] := by
                have h : RowsAt _ _ 34 [([.string ⟨#[97]⟩, .int .u8 0, .int .u8 0, .int .u8 0, .int .u8 0, .int .u8 0, .int .u8 0, .int .u8 0, .int .u8 0, .int .u8 0, .int .u8 0, .int .u8 0, .int .u8 0, .int .u8 0, .int .u8 0, .int .u8 0, .int .u8 0, .int .u8 0, .int .u8 0, .int .u8 0, .int .u8 0, .int .u8 0, .int .u8 0, .int .u8 0, .int .u8 0, .int .u8 0, .int .u8 0, .int .u8 0, .int .u8 0, .int .u8 0, .int .u8 0, .int .u8 0, .int .u8 0, .int .u64 2] : List Value)] := row_at_new (w14.alloc (.cells ([.string ⟨#[97]⟩, .int .u8 0, .int .u8 0, .int .u8 0, .int .u8 0, .int .u8 0, .int .u8 0, .int .u8 0, .int .u8 0, .int .u8 0, .int .u8 0, .int .u8 0, .int .u8 0, .int .u8 0, .int .u8 0, .int .u8 0, .int .u8 0, .int .u8 0, .int .u8 0, .int .u8 0, .int .u8 0, .int .u8 0, .int .u8 0, .int .u8 0, .int .u8 0, .int .u8 0, .int .u8 0, .int .u8 0, .int .u8 0, .int .u8 0, .int .u8 0, .int .u8 0, .int .u8 0, .int .u64 1] : List Value).toArray 32)) ([.string ⟨#[97]⟩, .int .u8 0, .int .u8 0, .int .u8 0, .int .u8 0, .int .u8 0, .int .u8 0, .int .u8 0, .int .u8 0, .int .u8 0, .int .u8 0, .int .u8 0, .int .u8 0, .int .u8 0, .int .u8 0, .int .u8 0, .int .u8 0, .int .u8 0, .int .u8 0, .int .u8 0, .int .u8 0, .int .u8 0, .int .u8 0, .int .u8 0, .int .u8 0, .int .u8 0, .int .u8 0, .int .u8 0, .int .u8 0, .int .u8 0, .int .u8 0, .int .u8 0, .int .u8 0, .int .u64 2] : List Value) 32 34
                rw [World.size_alloc] at h
                rw [← oneB_row] at h ⊢
                exact h
              refine (Merge_to h1 h2 (by decide) oneAB).mono ?_
              rintro e w' ⟨ao, cap, rfl, hs, hk⟩
              obtain ⟨b, o, rfl, hr⟩ := hs.at (k := 0) (x := oneB) rfl
              refine ⟨b, o, cap, rfl, fun W q => ?_, (k1.alloc _).then hk⟩
              have h := (row_facts (hr W q)).2.1
              rw [Nat.zero_mul, Nat.add_zero] at h
              exact h
            have hba := Try.builtOneA
            have hbb := Try.builtOneB
            go_wp2_with (first
              | (refine wpList_build_k (by rfl) Try.underlying22 Try.zeroStampI (by decide) (by decide) (.tmp 190) (by rfl) ([.string ⟨#[97]⟩, .int .u8 0, .int .u8 0, .int .u8 0, .int .u8 0, .int .u8 0, .int .u8 0, .int .u8 0, .int .u8 0, .int .u8 0, .int .u8 0, .int .u8 0, .int .u8 0, .int .u8 0, .int .u8 0, .int .u8 0, .int .u8 0, .int .u8 0, .int .u8 0, .int .u8 0, .int .u8 0, .int .u8 0, .int .u8 0, .int .u8 0, .int .u8 0, .int .u8 0, .int .u8 0, .int .u8 0, .int .u8 0, .int .u8 0, .int .u8 0, .int .u8 0, .int .u8 0, .int .u64 1] : List Value) (by rfl) (by rfl) ?_)
              | (refine wpList_build_k (by rfl) Try.underlying22 Try.zeroStampI (by decide) (by decide) (.tmp 192) (by rfl) ([.string ⟨#[97]⟩, .int .u8 0, .int .u8 0, .int .u8 0, .int .u8 0, .int .u8 0, .int .u8 0, .int .u8 0, .int .u8 0, .int .u8 0, .int .u8 0, .int .u8 0, .int .u8 0, .int .u8 0, .int .u8 0, .int .u8 0, .int .u8 0, .int .u8 0, .int .u8 0, .int .u8 0, .int .u8 0, .int .u8 0, .int .u8 0, .int .u8 0, .int .u8 0, .int .u8 0, .int .u8 0, .int .u8 0, .int .u8 0, .int .u8 0, .int .u8 0, .int .u8 0, .int .u8 0, .int .u64 2] : List Value) (by rfl) (by rfl) ?_)
              | fail)
            refine HONE.out.mono ?_
            rintro e w15 ⟨bO, oO, cO, rfl, hone, k15⟩
            have HO15 : Hid (∀ W, Kept [] w15 W → W.cell? ⟨bO, oO + 33, none⟩ = some (.int .u64 2)) := hone
            have HK15 : Hid (Kept [] wr w15) := HK14.out.then k15
            have CBA : Hid (∀ W, Kept [] w15 W → Calls Try.prog 5 #[.slice aB B.length cB, .slice aA A.length cA] W fun e w' => ∃ ao cap, e = .returned (.slice ao M.length cap) ∧ StampsAt w' (.slice ao M.length cap) M ∧ Kept [] W w') := fun W k => Merge_to (HB.out W (KW.out W (HK15.out.then k))) (HA.out W (KW.out W (HK15.out.then k))) (by omega) (HM3.out.mono fun x => by rw [List.mem_append, List.mem_append]; exact or_comm)
            have CMM : Hid (∀ W, Kept [] w15 W → Calls Try.prog 5 #[.slice a3 M.length c3, .slice a3 M.length c3] W fun e w' => ∃ ao cap, e = .returned (.slice ao M.length cap) ∧ StampsAt w' (.slice ao M.length cap) M ∧ Kept [] W w') := fun W k => Merge_to (KM.out W (HK15.out.then k)) (KM.out W (HK15.out.then k)) (by omega) (HM3.out.self.mono fun x => by simp)
            have C14 : Hid (∀ W, Kept [] w15 W → Calls Try.prog 9 #[.slice aA A.length cA, .slice aB B.length cB] W fun e w' => ∃ ao cap, e = .returned (.slice ao M.length cap) ∧ StampsAt w' (.slice ao M.length cap) M ∧ Kept [] W w') := fun W k => Merge14_to (HA.out W (KW.out W (HK15.out.then k))) (HB.out W (KW.out W (HK15.out.then k))) (by omega) (by omega) HM3.out
            have CEM : Hid (∀ W u, Kept [] w15 W → StampsAt W u M → Calls Try.prog 6 #[.slice a3 M.length c3, u] W fun e w' => e = .returned (.bool true) ∧ Kept [] W w') := fun W u k hu => EqSt_same (KM.out W (HK15.out.then k)) hu rfl
            have CXY : Hid (∀ W, Kept [] w15 W → Calls Try.prog 6 #[.slice a12 X.length c12, .slice a14 Y.length c14] W fun e w' => e = .returned (.bool true) ∧ Kept [] W w') := fun W k => HEXY.out W (k15.then k)
            have cb15 := (HBX.out w15 (KW.out w15 HK15.out)).1
            have cb15' := (HBX.out w15 (KW.out w15 HK15.out)).2.1
            clear hone k15 HONE hba hbb HEXY
            go_wp2_with (first
              | (go_at_call 5; first
                  | ((with_reducible refine (CBA.out w15 (Kept.refl _ _)).mono ?_)
                     rintro e w16 ⟨a16, c16, rfl, h16, k16⟩
                     have H16 : Hid (StampsAt w16 (.slice a16 M.length c16) M ∧ Kept [] w15 w16) := ⟨h16, k16⟩
                     clear h16 k16)
                  | ((with_reducible refine (CMM.out w17 H17.out).mono ?_)
                     rintro e w18 ⟨a18, c18, rfl, h18, k18⟩
                     have H18 : Hid (StampsAt w18 (.slice a18 M.length c18) M ∧ Kept [] w15 w18) := ⟨h18, H17.out.then k18⟩
                     clear h18 k18))
              | (go_at_call 6; first
                  | ((with_reducible refine (CEM.out w16 _ H16.out.2 H16.out.1).mono ?_)
                     rintro e w17 ⟨rfl, k17⟩
                     have H17 : Hid (Kept [] w15 w17) := H16.out.2.then k17
                     clear k17)
                  | ((with_reducible refine (CEM.out w18 _ H18.out.2 H18.out.1).mono ?_)
                     rintro e w19 ⟨rfl, k19⟩
                     have H19 : Hid (Kept [] w15 w19) := H18.out.2.then k19
                     have cb19 := (HBX.out w19 (KW.out w19 (HK15.out.then H19.out))).1
                     have cb19' := (HBX.out w19 (KW.out w19 (HK15.out.then H19.out))).2.1
                     clear k19)
                  | ((with_reducible refine (CEM.out w20 _ H20.out.2 H20.out.1).mono ?_)
                     rintro e w21 ⟨rfl, k21⟩
                     have H21 : Hid (Kept [] w15 w21) := H20.out.2.then k21
                     clear k21)
                  | ((with_reducible refine (CXY.out w21 H21.out).mono ?_)
                     rintro e w22 ⟨rfl, k22⟩
                     have H22 : Hid (Kept [] w15 w22) := H21.out.then k22
                     have c22 := HO15.out w22 (H21.out.then k22)
                     clear k22))
              | (go_at_call 9
                 (with_reducible refine (C14.out w19 H19.out).mono ?_)
                 rintro e w20 ⟨a20, c20, rfl, h20, k20⟩
                 have H20 : Hid (StampsAt w20 (.slice a20 M.length c20) M ∧ Kept [] w15 w20) := ⟨h20, H19.out.then k20⟩
                 clear h20 k20))
            go_ret
            exact ⟨rfl, HKE.out.then (HK15.out.then H22.out)⟩
end Go.Proofs.Ytmjbaficdoehfaa
