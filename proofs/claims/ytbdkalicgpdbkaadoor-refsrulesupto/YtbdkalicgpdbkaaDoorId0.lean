/-
  'append(l, x)' where l is a list of one's own, of elements of one cell.
  Ids as values, in memory, and lists of them.
-/
import Derived.Test.YtbdkalicgpdbkaaDoorBase
import Derived.Test.YtbdkalicgpdbkaaDoorProg
import Derived.Test.YtbdkalicgpdbkaaDoorConv
import Derived.Maps.AppendAt
import Derived.Test.YtbdkalicgpdbkaaDoorChecked
import Derived.Laws.BytesArg
import Derived.Laws.ResultCell
import Derived.Deep.MidRow
namespace Go.Proofs.YtbdkalicgpdbkaaDoor
open Go.RowKit

theorem info_parts' {e : TypeId} {z : Value} {bytes : Nat} (h : (Tryd.prog.info? e).map (fun i => (i.zero, i.size, i.bytes)) = some (some z, 1, bytes)) : ∃ i, Tryd.prog.info? e = some i ∧ i.zero = some z ∧ i.size = 1 ∧ i.bytes = bytes := by
  obtain ⟨i, hi, he⟩ := Option.map_eq_some_iff.1 h
  simp only [Prod.mk.injEq] at he
  exact ⟨i, hi, he.1, he.2.1, he.2.2⟩

theorem wpList_append_one {ops : Array Oper} {rest : List Oper} {o : Oper} {a : Act} {w : World} {Q : Exit → Act → World → Prop} (hgd : o.guard = none) (s x : Operand) (T e : TypeId) (z : Value) (bytes : Nat)
    (hT : Tryd.prog.underlying T = some (.slice e)) (hinfo : (Tryd.prog.info? e).map (fun i => (i.zero, i.size, i.bytes)) = some (some z, 1, bytes)) (hz1 : z.cells.size = 1)
    (ho : o.op = .call { callee := .builtin .append, args := #[s, x], argTypes := #[T, T] }) {B : Nat} {v : Value} {xs : List Value} (hs : a.eval s = v) (hown : w.ownsRow B e 1 v xs.length xs)
    {q : Nat} {u : Value} (hx : a.eval x = .slice (some ⟨q, 0, none⟩) 1 1) (hc : w.cell? ⟨q, 0, none⟩ = some u) (hu : u.oneCell' = true) (hl : xs.length ≤ 1000000) (hb : bytes ≤ 1000) (hB : B ≤ w.heap.size)
    (h : ∀ v' w', w'.ownsRow B e 1 v' (xs ++ [u]).length (xs ++ [u]) → Kept v.ownBlock.toList w w' → (v'.ownBlock = v.ownBlock ∨ v'.ownBlock = some w.heap.size) → wpList Tryd.prog ops Q rest (a.put o.dst v') w') : wpList Tryd.prog ops Q (o :: rest) a w := by
  obtain ⟨i0, hi, q0, q1, q2⟩ := info_parts' hinfo
  refine wpList_plain hgd fun K hK => ?_
  have hnews : ∀ j t, [u][j]? = some t → w.cell? ((⟨q, 0, none⟩ : Addr).add j) = some t := by
    intro j t ht
    cases j with
    | zero => simp only [List.getElem?_cons_zero, Option.some.injEq] at ht; subst ht; rw [Addr.add_mid]; exact hc
    | succ j => simp at ht
  have hmul : (xs.length + 1) * bytes ≤ (1000000 + 1) * 1000 := Nat.mul_le_mul (by omega) hb
  obtain ⟨v', w', hr, h2, h3, _, h5⟩ := run_append_own_at (P := Tryd.prog) w B T o.type e i0 z 1 bytes hT hi q0 q1 q2 hz1 (by decide) v xs.length xs hown ⟨q, 0, none⟩ 1 1 [u] rfl hnews (by simpa using hu) (by unfold maxLen; omega) (by omega) hB
  unfold Oper.wp execOp
  simp only [ho, resolve, invoke, builtin, Sem.run_bind, Sem.run_pure, Result.andThen_ok, List.map_toArray, List.map_cons, List.map_nil, hs, hx, hr]
  refine hK _ _ (h v' w' (by rw [List.length_append]; exact h2) ((Kept.refl _ _).grown h3 fun k hk => Or.inl (by simp [hk])) h5)
end Go.Proofs.YtbdkalicgpdbkaaDoor

namespace Go.Proofs.YtbdkalicgpdbkaaDoor
open Go.RowKit

def GoodID (xs : List Int) : Prop := xs.length = 32 ∧ Octs xs
theorem kept_setRow {w wr : World} (h : Kept [] w wr) {g : Nat} (hg : w.heap.size ≤ g) (cs : Array Value) : Kept [] w (wr.setRow g cs) :=
  kept_of_below (below_setRow (h.below (Nat.le_refl _) (by simp)) hg cs)

theorem range_kept {w w' : World} {b o : Nat} {cs : List Value} {T : List Nat} (h : w.rangeAt b o cs) (k : Kept T w w') (hn : b ∉ T) : w'.rangeAt b o cs := fun j v hj => k.cell (h j v hj) hn
/-- A list of ids lies so. -/
def IdsAt (w : World) (v : Value) (ids : List (List Int)) : Prop :=
  ∃ ao cap, v = .slice ao ids.length cap ∧ ids.length ≤ cap ∧ (ao = none → cap = 0) ∧ ids.length ≤ 140737488351232 ∧ (ids ≠ [] → ∃ b off, ao = some ⟨b, off, none⟩ ∧ ∀ (i : Nat) (xs : List Int), ids[i]? = some xs → w.rangeAt b (off + i * 32) (xs.map (Value.int .u8)))
theorem IdsAt.keep {w w' : World} {v : Value} {ids : List (List Int)} {T : List Nat} (h : IdsAt w v ids) (k : Kept T w w') (hn : ids ≠ [] → ∀ b, blkOf v = some b → b ∉ T) : IdsAt w' v ids := by
  obtain ⟨ao, cap, rfl, h1, h0, h2, hc⟩ := h
  refine ⟨ao, cap, rfl, h1, h0, h2, fun hne => ?_⟩
  obtain ⟨b, off, rfl, hh⟩ := hc hne
  exact ⟨b, off, rfl, fun i xs hi => range_kept (hh i xs hi) k (hn hne b rfl)⟩

end Go.Proofs.YtbdkalicgpdbkaaDoor
