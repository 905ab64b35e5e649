/-
  'append(l, x)' where l is a list of one's own, of elements of one cell.
-/
import Derived.Test.YtmjbaficdoehfaaDoorBase
import Derived.Test.YtmjbaficdoehfaaDoorProg
import Derived.Test.YtmjbaficdoehfaaDoorPlain
import Derived.Maps.AppendAt
namespace Go.Proofs.YtmjbaficdoehfaaDoor
open Go.RowKit

theorem info_parts' {e : TypeId} {z : Value} {bytes : Nat} (h : (Tryd.prog.info? e).map (fun i => (i.zero, i.size, i.bytes)) = some (some z, 1, bytes)) : ∃ i, Tryd.prog.info? e = some i ∧ i.zero = some z ∧ i.size = 1 ∧ i.bytes = bytes := by
  obtain ⟨i, hi, he⟩ := Option.map_eq_some_iff.1 h
  simp only [Prod.mk.injEq] at he
  exact ⟨i, hi, he.1, he.2.1, he.2.2⟩

theorem wpList_append_one {ops : Array Oper} {rest : List Oper} {o : Oper} {a : Act} {w : World} {Q : Exit → Act → World → Prop} (hgd : o.guard = none) (s x : Operand) (T e : TypeId) (z : Value) (bytes : Nat)
    (hT : Tryd.prog.underlying T = some (.slice e)) (hinfo : (Tryd.prog.info? e).map (fun i => (i.zero, i.size, i.bytes)) = some (some z, 1, bytes)) (hz1 : z.cells.size = 1)
    (ho : o.op = .call { callee := .builtin .append, args := #[s, x], argTypes := #[T, T] }) {B : Nat} {v : Value} {xs : List Value} (hs : a.eval s = v) (hown : w.ownsRow B e 1 v xs.length xs)
    {q : Nat} {u : Value} (hx : a.eval x = .slice (some ⟨q, 0, none⟩) 1 1) (hc : w.cell? ⟨q, 0, none⟩ = some u) (hu : u.oneCell' = true) (hl : xs.length ≤ 1000000) (hb : bytes ≤ 1000) (hB : B ≤ w.heap.size)
    (h : ∀ v' w', w'.ownsRow B e 1 v' (xs ++ [u]).length (xs ++ [u]) → Kept v.ownBlock.toList w w' → (v'.ownBlock = v.ownBlock ∨ v'.ownBlock = some w.heap.size) → wpList Tryd.prog ops Q rest (a.put o.dst v') w') : wpList Tryd.prog ops Q (o :: rest) a w := by
  obtain ⟨i0, hi, q0, q1, q2⟩ := info_parts' hinfo
  refine wpList_plain hgd fun K hK => ?_
  have hnews : ∀ j t, [u][j]? = some t → w.cell? ((⟨q, 0, none⟩ : Addr).add j) = some t := by
    intro j t ht
    cases j with
    | zero => simp only [List.getElem?_cons_zero, Option.some.injEq] at ht; subst ht; rw [Addr.add_mid]; exact hc
    | succ j => simp at ht
  have hmul : (xs.length + 1) * bytes ≤ (1000000 + 1) * 1000 := Nat.mul_le_mul (by omega) hb
  obtain ⟨v', w', hr, h2, h3, _, h5⟩ := run_append_own_at (P := Tryd.prog) w B T o.type e i0 z 1 bytes hT hi q0 q1 q2 hz1 (by decide) v xs.length xs hown ⟨q, 0, none⟩ 1 1 [u] rfl hnews (by simpa using hu) (by unfold maxLen; omega) (by omega) hB
  unfold Oper.wp execOp
  simp only [ho, resolve, invoke, builtin, Sem.run_bind, Sem.run_pure, Result.andThen_ok, List.map_toArray, List.map_cons, List.map_nil, hs, hx, hr]
  refine hK _ _ (h v' w' (by rw [List.length_append]; exact h2) ((Kept.refl _ _).grown h3 fun k hk => Or.inl (by simp [hk])) h5)
end Go.Proofs.YtmjbaficdoehfaaDoor
