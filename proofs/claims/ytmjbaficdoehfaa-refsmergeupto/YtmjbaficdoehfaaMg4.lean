/-
  Rows of stamps in a block, written one by one; the clearing of a slice of structs; neighbours of one name, one step on.
-/
import Derived.Test.YtmjbaficdoehfaaMg3
namespace Go.Proofs.Ytmjbaficdoehfaa
open Go.RowKit Go.Sort

theorem compF_take : ∀ (ys : List StampE) (p : List Int) (m : Nat) (z : StampE), ys[m]? = some z → compF p (ys.take (m + 1)) = compF p (ys.take m) ++ (if (p :: ys.map StampE.name)[m]? = some z.name then [] else [z])
  | [], _, m, z, h => by simp at h
  | y :: ys, p, 0, z, h => by
    simp only [List.getElem?_cons_zero, Option.some.injEq] at h
    subst h
    simp only [List.take_succ_cons, List.take_zero, compF, List.nil_append, List.getElem?_cons_zero, Option.some.injEq]
    by_cases e : y.name = p
    · rw [if_pos e, if_pos e.symm]
    · rw [if_neg e, if_neg (fun h => e h.symm)]
  | y :: ys, p, m + 1, z, h => by
    have ih := compF_take ys y.name m z (by simpa using h)
    simp only [List.take_succ_cons, compF, List.map_cons, List.getElem?_cons_succ]
    by_cases e : y.name = p
    · rw [if_pos e, if_pos e, ih]
    · rw [if_neg e, if_neg e, ih, List.cons_append]
theorem compN_step {L : List StampE} {m : Nat} {x z : StampE} (hx : L[m]? = some x) (hz : L[m + 1]? = some z) : compN (L.take (m + 2)) = compN (L.take (m + 1)) ++ (if z.name = x.name then [] else [z]) := by
  cases L with
  | nil => simp at hx
  | cons y ys =>
    have h := compF_take ys y.name m z (by simpa using hz)
    have e : (y.name :: ys.map StampE.name)[m]? = some x.name := by
      have : (y.name :: ys.map StampE.name) = (y :: ys).map StampE.name := rfl
      rw [this, List.getElem?_map, hx]
      rfl
    rw [e] at h
    show y :: compF y.name (ys.take (m + 1)) = (y :: compF y.name (ys.take m)) ++ _
    rw [h, List.cons_append]
    by_cases he : z.name = x.name
    · rw [if_pos he, if_pos (by rw [he])]
    · rw [if_neg he, if_neg (fun h => he (Option.some.inj h).symm)]
theorem compN_one {L : List StampE} (h : L.length ≤ 1) : compN L = L := by
  cases L with
  | nil => rfl
  | cons x xs =>
    cases xs with
    | nil => rfl
    | cons y ys =>
      rw [List.length_cons, List.length_cons] at h
      omega
theorem compN_len (L : List StampE) : (compN L).length ≤ L.length := by
  have hF : ∀ (ys : List StampE) (p : List Int), (compF p ys).length ≤ ys.length := by
    intro ys
    induction ys with
    | nil => intro p; exact Nat.le_refl _
    | cons y ys ih =>
      intro p
      unfold compF
      split
      · exact Nat.le_succ_of_le (ih _)
      · exact Nat.succ_le_succ (ih _)
  cases L with
  | nil => exact Nat.le_refl _
  | cons y ys => exact Nat.succ_le_succ (hF ys _)

/-- The block g begins with these rows. -/
def CMem (w : World) (g cap : Nat) (R : List StampE) : Prop := ∃ cur, w.heap[g]? = some (.cells cur 32 (0, 0)) ∧ cur.size = cap * 34 ∧ R.length ≤ cap ∧ ∀ i x, R[i]? = some x → ∀ j v, x.row[j]? = some v → cur[i * 34 + j]? = some v
theorem StampOwn.mem {w : World} {B g cap : Nat} {L : List StampE} (h : StampOwn w B (.slice (some ⟨g, 0, none⟩) L.length cap) L) : CMem w g cap L ∧ B ≤ g ∧ cap ≤ maxLen := by
  rcases h.form with ⟨_, e⟩ | ⟨g', cap', cur, e, hB, hg, hc, hm, hs, ht⟩
  · cases e
  · injection e with e1 _ e3
    injection e1 with e1
    injection e1 with e1 _ _
    subst e1 e3
    refine ⟨⟨cur, hg, hs, hc, fun i x hx j v hv => ?_⟩, hB, hm⟩
    have := h.range i x hx j v hv
    rwa [cell_of_row _ _ _ _ _ _ hg] at this
theorem CMem.own {w : World} {B g cap : Nat} {R : List StampE} (h : CMem w g cap R) (hB : B ≤ g) (hm : cap ≤ maxLen) : StampOwn w B (.slice (some ⟨g, 0, none⟩) R.length cap) R := by
  obtain ⟨cur, hg, hs, hc, hr⟩ := h
  refine StampOwn.of hB hg hc hm hs fun i x hx j v hv => ?_
  rw [cell_of_row _ _ _ _ _ _ hg]
  exact hr i x hx j v hv
theorem CMem.kept {w w' : World} {g cap : Nat} {R : List StampE} {S : List Nat} (h : CMem w g cap R) (k : Kept S w w') (hn : g ∉ S) : CMem w' g cap R := by
  obtain ⟨cur, hg, hs, hc, hr⟩ := h
  exact ⟨cur, k.heap hg hn, hs, hc, hr⟩
theorem CMem.range {w : World} {g cap : Nat} {R : List StampE} (h : CMem w g cap R) (i : Nat) (x : StampE) (hx : R[i]? = some x) : w.rangeAt g (i * 34) x.row := fun j v hv => by
  obtain ⟨cur, hg, hs, hc, hr⟩ := h
  rw [cell_of_row _ _ _ _ _ _ hg]
  exact hr i x hx j v hv
theorem CMem.take {w : World} {g cap : Nat} {R : List StampE} (h : CMem w g cap R) (m : Nat) : CMem w g cap (R.take m) := by
  obtain ⟨cur, hg, hs, hc, hr⟩ := h
  refine ⟨cur, hg, hs, by rw [List.length_take]; omega, fun i x hx => ?_⟩
  by_cases him : i < m
  · rw [List.getElem?_take_of_lt him] at hx
    exact hr i x hx
  · rw [List.getElem?_eq_none (by rw [List.length_take]; omega)] at hx
    cases hx
theorem CMem.there {w : World} {g cap : Nat} {R : List StampE} (h : CMem w g cap R) (o n : Nat) (hn : o + n ≤ cap * 34) : w.there g o n := fun j hj => by
  obtain ⟨cur, hg, hs, hc, hr⟩ := h
  refine ⟨?_, frozen_of_row w g _ _ _ hg⟩
  rw [cell_of_row _ _ _ _ _ _ hg, Array.getElem?_eq_getElem (by omega)]
  rfl
theorem CMem.put {w : World} {g cap : Nat} {R : List StampE} (h : CMem w g cap R) (p : Nat) (hp : p < R.length) (y : StampE) : CMem (w.setCells g (p * 34) y.row) g cap (R.set p y) := by
  obtain ⟨cur, hg, hs, hc, hr⟩ := h
  obtain ⟨s1, s2⟩ := setL_spec y.row (p * 34) cur
  refine ⟨setL cur (p * 34) y.row, setCells_heap g 32 y.row _ w _ hg, by rw [s1]; exact hs, by rw [List.length_set]; exact hc, fun i x hx j v hv => ?_⟩
  have hj : j < 34 := by have := (List.getElem?_eq_some_iff.1 hv).1; rwa [x.row_len] at this
  rw [s2, y.row_len]
  by_cases hip : p = i
  · subst hip
    rw [List.getElem?_set_self hp] at hx
    obtain rfl := Option.some.inj hx
    rw [if_pos ⟨by omega, by omega, by omega⟩, show p * 34 + j - p * 34 = j by omega]
    exact hv
  · rw [List.getElem?_set_ne hip] at hx
    rw [if_neg (by omega)]
    exact hr i x hx j v hv
/-- What is written behind the first p rows leaves these alone. -/
theorem CMem.behind {w : World} {g cap : Nat} {R : List StampE} (h : CMem w g cap R) (p : Nat) (vs : List Value) : CMem (w.setCells g (p * 34) vs) g cap (R.take p) := by
  obtain ⟨cur, hg, hs, hc, hr⟩ := h
  obtain ⟨s1, s2⟩ := setL_spec vs (p * 34) cur
  refine ⟨setL cur (p * 34) vs, setCells_heap g 32 vs _ w _ hg, by rw [s1]; exact hs, by rw [List.length_take]; omega, fun i x hx j v hv => ?_⟩
  have hj : j < 34 := by have := (List.getElem?_eq_some_iff.1 hv).1; rwa [x.row_len] at this
  by_cases him : i < p
  · rw [List.getElem?_take_of_lt him] at hx
    rw [s2, if_neg (by omega)]
    exact hr i x hx j v hv
  · rw [List.getElem?_eq_none (by rw [List.length_take]; omega)] at hx
    cases hx

/-- clear of a slice of structs. -/
theorem wpList_clear {ops : Array Oper} {rest : List Oper} {o : Oper} {a : Act} {w : World} {Q : Exit → Act → World → Prop} (hgd : o.guard = none) (x : Operand) (T e : TypeId) (z : Value) (k : Nat)
    (hT : Try.prog.underlying T = some (.slice e)) (hv : ∀ w, (zeroValue e).run Try.prog w = .ok z w) (hzk : z.cells.size = k) (hz1 : ∀ v ∈ z.cells.toList, v.oneCell' = true)
    (ho : o.op = .call { callee := .builtin .clear, args := #[x], argTypes := #[T] }) {g off n c : Nat} (hx : a.eval x = .slice (some ⟨g, off, none⟩) n c) (hn : 0 < n) (hk : 0 < k) (hth : w.there g off (n * k))
    (h : ∀ vs, vs.length = n * k → wpList Try.prog ops Q rest (a.put o.dst (.tuple #[])) (w.setCells g off vs)) : wpList Try.prog ops Q (o :: rest) a w := by
  refine wpList_plain hgd fun K hK => ?_
  obtain ⟨m, rfl⟩ : ∃ m, n = m + 1 := ⟨n - 1, by omega⟩
  have hlen : (Builtin.zeroCells z.cells (m + 1)).toList.length = (m + 1) * k := by simp [Builtin.zeroCells, hzk]
  have hst := run_storeCells_cells (P := Try.prog) g off (Builtin.zeroCells z.cells (m + 1)).toList 0 w (fun j hj => by simpa using (hth j (by rw [hlen] at hj; exact hj)).1) (fun j hj => by simpa using (hth j (by rw [hlen] at hj; exact hj)).2)
    (fun v hv => by
      unfold Builtin.zeroCells at hv
      simp only [Array.toList_map, List.mem_map] at hv
      obtain ⟨i, _, rfl⟩ := hv
      have hlt : i % z.cells.size < z.cells.size := Nat.mod_lt _ (by omega)
      rw [getElem!_pos z.cells _ hlt]
      exact hz1 _ (by simp))
  have hrun : ∀ ty, (Builtin.clear_ #[T] ty #[.slice (some ⟨g, off, none⟩) (m + 1) c]).run Try.prog w = .ok (.tuple #[]) (w.setCells g off (Builtin.zeroCells z.cells (m + 1)).toList) := fun ty => by
    simp only [Nat.add_zero] at hst
    simp [Builtin.clear_, run_underlying hT, hv, hst]
  unfold Oper.wp execOp
  simp only [ho, resolve, invoke, builtin, Sem.run_bind, Sem.run_pure, Result.andThen_ok, List.map_toArray, List.map_cons, List.map_nil, hx, hrun]
  exact hK _ _ (h _ hlen)
/-- A cell read in every world of the class. -/
theorem valS_at {C : World → Prop} {K : Act → Prop} {o : Oper} {a : Act} (v : Value) (hv : ∀ W, C W → (execOp a.eval o).run Try.prog W = .ok (.value v) W) (hK : K (a.put o.dst v)) : o.quiet Try.prog a C K :=
  ⟨v, fun W hW => by unfold Oper.quietAt; rw [hv W hW]; exact ⟨rfl, rfl⟩, hK⟩
end Go.Proofs.Ytmjbaficdoehfaa
