/-
  WALK: refs.Merge.
-/
import Derived.Test.YtmjbaficdoehfaaMg6
namespace Go.Proofs.Ytmjbaficdoehfaa
open Go.RowKit Go.Sort

theorem StampOwn.blk {w : World} {B : Nat} {v : Value} {L : List StampE} (h : StampOwn w B v L) : ∀ y, y ∈ v.ownBlock.toList → B ≤ y := fun y hy => (World.ownsRow.lt (show w.ownsRow B 32 34 v L.length (L.map StampE.row).flatten from h) y (by simpa using hy)).1
theorem StampOwn.is {w : World} {B : Nat} {v : Value} {L : List StampE} (h : StampOwn w B v L) : ∃ a cap, v = .slice a L.length cap := by
  rcases h.form with ⟨h1, h2⟩ | ⟨g, cap, _, h2, _⟩
  · exact ⟨none, 0, by rw [h2, h1]; rfl⟩
  · exact ⟨_, cap, h2⟩
set_option maxRecDepth 100000 in
set_option maxHeartbeats 2000000 in
/-- refs.Merge: of each name the stamp that counts, sorted, in new memory. -/
theorem Merge_any (va vb : Value) (A B : List StampE) (w : World) (ha : StampsAt w va A) (hb : StampsAt w vb B) (hl : A.length + B.length ≤ 1000000) :
    Calls Try.prog 5 #[va, vb] w fun e w' => ∃ v' M, e = .returned v' ∧ MergedTo (A ++ B) M ∧ M.length ≤ (A ++ B).length ∧ StampOwn w' w.heap.size v' M ∧ Kept [] w w' := by
  have hcat : ∀ t, Calls Try.prog 10 #[.slice (some ⟨w.heap.size, 0, none⟩) 2 2] (w.alloc (.cells #[va, vb] t)) fun e w' => ∃ v', e = .returned v' ∧ StampOwn w' w.heap.size v' (A ++ B) ∧ Kept [] w w' := fun t => by
    have k1 : Kept [] w (w.alloc (.cells #[va, vb] t)) := (Kept.refl [] w).alloc _
    have hbk := heap_alloc_new w (.cells #[va, vb] t)
    have h := Concat_any w.heap.size [va, vb] [A, B] (w.alloc (.cells #[va, vb] t)) (fun i v hv => by
      rw [cell_of_row _ _ _ _ _ _ hbk]
      rcases i with _ | _ | i
      · simp at hv; subst hv; rfl
      · simp at hv; subst hv; rfl
      · simp at hv) (fun i v hv => by
      rcases i with _ | _ | i
      · simp at hv; subst hv; exact ⟨A, rfl, ha.kept k1⟩
      · simp at hv; subst hv; exact ⟨B, rfl, hb.kept k1⟩
      · simp at hv) rfl (by simp only [List.flatten_cons, List.flatten_nil, List.append_nil, List.length_append]; exact hl) (by simp)
    refine h.mono ?_
    rintro e w' ⟨v', rfl, h1, h2⟩
    refine ⟨v', rfl, ?_, k1.then h2⟩
    have := h1.low (B' := w.heap.size) (by rw [World.size_alloc]; omega)
    simpa using this
  have hAB : (A ++ B).length ≤ 1000000 := by rw [List.length_append]; exact hl
  obtain ⟨a1, c1, e1, _⟩ := ha
  obtain ⟨a2, c2, e2, _⟩ := hb
  rw [List.length_map] at e1 e2
  subst e1 e2
  generalize A ++ B = L at *
  go_enter Try.func5, Try.ntmps5
  go_wp2_with (first
    | (go_at_call 10; refine (hcat _).mono ?_; rintro e w1 ⟨v1, rfl, h1, k1⟩; have H1 : Hid (StampOwn w1 w.heap.size v1 L ∧ Kept [] w w1) := ⟨h1, k1⟩; clear h1 k1)
    | (go_at_call 11; refine (SortStamps_any H1.out.1 (by omega)).mono ?_; rintro e w2 ⟨rfl, M, hp, hs, h2, k2⟩; have H2 : Hid (M.Perm L ∧ M.Pairwise (fun a c => ¬ cmpS c a < 0) ∧ StampOwn w2 w.heap.size v1 M ∧ Kept [] w w2) := ⟨hp, hs, h2, H1.out.2.trans k2 (fun y hy => Or.inr (H1.out.1.blk y hy))⟩; clear hp hs h2 k2)
    | (go_at_call 13; refine (Compact_any H2.out.2.2.1 (by rw [H2.out.1.length_eq]; omega)).mono ?_; rintro e w3 ⟨v3, rfl, h3, k3⟩; have H3 : Hid (StampOwn w3 w.heap.size v3 (compN M) ∧ Kept [] w w3) := ⟨h3, H2.out.2.2.2.trans k3 (fun y hy => Or.inr (H2.out.2.2.1.blk y hy))⟩; clear h3 k3))
  go_ret
  exact ⟨v3, compN M, rfl, (compN_merged (H2.out.2.1.imp fun h => by omega)).mono (fun x => H2.out.1.mem_iff), Nat.le_trans (compN_len M) (by rw [H2.out.1.length_eq]; exact Nat.le_refl _), H3.out.1, H3.out.2⟩
end Go.Proofs.Ytmjbaficdoehfaa
