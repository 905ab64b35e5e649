/-
  APPEND of a whole list of structs to a list of one's own, within a fence. No Go text is named here but the program's types.
-/
import Derived.Test.YtbdkalicgpdbkaaDoorAppH
import Derived.Test.YtbdkalicgpdbkaaDoorFnR
import Derived.Sort.Row
namespace Go.Proofs.YtbdkalicgpdbkaaDoor
open Go.RowKit

theorem listIn_append_rows {F : Fence} {m : Nat} {ops : Array Oper} {rest : List Oper} {o : Oper} {a : Act} {w : World} {Q : Exit → Act → World → Prop} (hgd : o.guard = none) (s x : Operand) (T e : TypeId) (z : Value) (k bytes : Nat)
    (hT : Tryd.prog.underlying T = some (.slice e)) (hinfo : (Tryd.prog.info? e).map (fun i => (i.zero, i.size, i.bytes)) = some (some z, k, bytes)) (hzk : z.cells.size = k) (hk : 0 < k)
    (ho : o.op = .call { callee := .builtin .append, args := #[s, x], argTypes := #[T, T] }) {B : Nat} {v : Value} {n : Nat} {xs : List Value} (hs : a.eval s = v) (hown : w.ownsRow B e k v n xs)
    {X : Value} {rows : List (List Value)} (hx : a.eval x = X) (hX : RowsAt w X k rows) (hr : ∀ r, r ∈ rows → r.length = k) (hu : ∀ r, r ∈ rows → ∀ u, u ∈ r → u.oneCell' = true) (hl : n + rows.length ≤ 1000000) (hb : bytes ≤ 1000) (hB : B ≤ w.heap.size)
    (h : ∀ v' w', w'.ownsRow B e k v' (n + rows.length) (xs ++ rows.flatten) → Kept v.ownBlock.toList w w' → wpListIn F m Tryd.prog ops Q rest (a.put o.dst v') w') : wpListIn F m Tryd.prog ops Q (o :: rest) a w := by
  refine wpListIn_plain hgd fun K hK => ?_
  obtain ⟨i0, hi, hez⟩ := Option.map_eq_some_iff.1 hinfo
  simp only [Prod.mk.injEq] at hez
  obtain ⟨q0, q1, q2⟩ := hez
  obtain ⟨ao, cap, rfl, hc, hnil, _, hcell⟩ := hX
  have hmul : (n + rows.length) * bytes ≤ 1000000 * 1000 := Nat.mul_le_mul hl hb
  have key : ∃ v' w', (Builtin.append_ #[T, T] o.type #[v, .slice ao rows.length cap]).run Tryd.prog w = .ok v' w' ∧ w'.ownsRow B e k v' (n + rows.length) (xs ++ rows.flatten) ∧ Kept v.ownBlock.toList w w' := by
    cases ao with
    | none =>
      obtain rfl : rows = [] := by
        by_cases hy : rows = []
        · exact hy
        · obtain ⟨b, off, hb, _⟩ := hcell hy; cases hb
      obtain rfl := hnil rfl
      exact ⟨v, w, run_append_owned_none (P := Tryd.prog) (w := w) B _ o.type e i0 k hT hi v _ _ hown, by rw [List.flatten_nil, List.append_nil]; exact hown, Kept.refl _ _⟩
    | some ad =>
      have hnews : ∀ j u, rows.flatten[j]? = some u → w.cell? (ad.add j) = some u := fun j u hj => by
        rw [flat_bind k hk rows hr] at hj
        obtain ⟨r, hr1, hj2⟩ := Option.bind_eq_some_iff.1 hj
        obtain ⟨b, off, hb, hh⟩ := hcell (by rintro rfl; simp at hr1)
        cases hb
        rw [Addr.add_mid]
        have h1 := hh (j / k) r hr1 (j % k) u hj2
        rw [show off + j / k * k + j % k = off + j by rw [Nat.add_assoc, Nat.mul_comm, Nat.div_add_mod]] at h1
        exact h1
      have hfl : rows.flatten.length = rows.length * k := flat_len k rows hr
      obtain ⟨v', w', hrun, h2, h3, _, _⟩ := run_append_own_at (P := Tryd.prog) w B T o.type e i0 z k bytes hT hi q0 q1 q2 hzk hk v n xs hown ad rows.length cap rows.flatten hfl hnews (fun u hm => by
        obtain ⟨r, hr1, hu1⟩ := List.mem_flatten.1 hm
        exact hu r hr1 u hu1) (by unfold maxLen; omega) (by omega) hB
      exact ⟨v', w', hrun, h2, (Kept.refl _ _).grown h3 fun k hk => Or.inl (by simp [hk])⟩
  obtain ⟨v', w', hrun, h2, h3⟩ := key
  unfold Oper.wpIn
  refine ⟨?_, ?_⟩
  · simp [Oper.about, ho, resolve, Target.leads, Sem.run_pure]
  · rw [Oper.semAt_plain F _ _ (by rw [ho]; intro c hc'; cases hc')]
    simp [execOp, ho, resolve, invoke, builtin, hs, hx, hrun, Result.andThen]
    exact hK _ _ (h v' w' h2 h3)
/-- A box is set. -/
theorem set_box {w : World} {b : Nat} {u : Value} {t : TypeId} {fr : Nat × Nat} (h : w.heap[b]? = some (.cells #[u] t fr)) (v : Value) : (w.setCell ⟨b, 0, none⟩ v).heap[b]? = some (.cells #[v] t fr) := by
  rw [Go.Sort.setCell_eq]
  show (w.heap.modify b _)[b]? = _
  rw [Array.getElem?_modify, if_pos rfl, h]
  rfl
theorem kept_box {w W W' : World} {b : Nat} (h : Kept [] w W) (k : Kept [b] W W') (hb : w.heap.size ≤ b) : Kept [] w W' := h.trans k fun x hx => Or.inr (by rw [List.mem_singleton.1 hx]; exact hb)
theorem kept_setBox (w : World) (b : Nat) (v : Value) : Kept [b] w (w.setCell ⟨b, 0, none⟩ v) := (Kept.refl [b] _).setCell (p := ⟨b, 0, none⟩) (Or.inl (by simp)) _
end Go.Proofs.YtbdkalicgpdbkaaDoor
