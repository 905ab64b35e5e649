/-
  Lists of rows of k cells in memory.
  APPEND of one to a list of one's own, of at most 2000000.
  Drawn regions by hand: one operation taken first; a call whose answer the walk learns behind it.
-/
import Derived.Test.YtbdkalicgpdbkaaDoorId0
import Derived.Test.YtbdkalicgpdbkaaDoorRows0
import Derived.Deep.WholeRow
import Derived.Test.YtbdkalicgpdbkaaDoorBase
import Derived.Deep.RegionHeld
namespace Go.Proofs.YtbdkalicgpdbkaaDoor
open Go.RowKit

/-- A list of rows of k cells lies so. -/
def RowsAt (w : World) (v : Value) (k : Nat) (rows : List (List Value)) : Prop :=
  ∃ ao cap, v = .slice ao rows.length cap ∧ rows.length ≤ cap ∧ (ao = none → cap = 0) ∧ rows.length ≤ 140737488351232 ∧ (rows ≠ [] → ∃ b off, ao = some ⟨b, off, none⟩ ∧ ∀ (i : Nat) (cs : List Value), rows[i]? = some cs → w.rangeAt b (off + i * k) cs)
theorem RowsAt.keep {w w' : World} {v : Value} {k : Nat} {rows : List (List Value)} {T : List Nat} (h : RowsAt w v k rows) (q : Kept T w w') (hn : rows ≠ [] → ∀ b, blkOf v = some b → b ∉ T) : RowsAt w' v k rows := by
  obtain ⟨ao, cap, rfl, h1, h0, h2, hc⟩ := h
  refine ⟨ao, cap, rfl, h1, h0, h2, fun hne => ?_⟩
  obtain ⟨b, off, rfl, hh⟩ := hc hne
  exact ⟨b, off, rfl, fun i xs hi => range_kept (hh i xs hi) q (hn hne b rfl)⟩
theorem row_range {w : World} {b : Nat} {cs : List Value} {t : TypeId} {fr : Nat × Nat} (h : w.heap[b]? = some (.cells cs.toArray t fr)) : w.rangeAt b 0 cs := fun j v hj => by
  rw [cell_of_row _ _ _ _ _ _ h, Nat.zero_add, List.getElem?_toArray]; exact hj
theorem setL_put (cs : List Value) (o : Nat) (vs : List Value) (h : o + vs.length ≤ cs.length) : setL cs.toArray o vs = (putL cs o vs).toArray := by
  obtain ⟨s1, s2⟩ := setL_spec vs o cs.toArray
  apply Array.ext_getElem?
  intro j
  have e1 : (putL cs o vs).toArray[j]? = (putL cs o vs)[j]? := by simp
  have e2 : cs.toArray[j]? = cs[j]? := by simp
  rw [s2 j, e1, e2, putL_get h, List.size_toArray]
  by_cases hc : o ≤ j ∧ j < o + vs.length
  · rw [if_pos hc, if_pos ⟨hc.1, hc.2, by omega⟩]
  · rw [if_neg hc, if_neg (by omega)]
theorem RowsAt.take {w : World} {ao : Option Addr} {n cap k : Nat} {rows : List (List Value)} {m : Nat} (h : RowsAt w (.slice ao n cap) k rows) (hm : m ≤ rows.length) : RowsAt w (.slice ao m cap) k (rows.take m) := by
  obtain ⟨ao', cap', he, h1, h0, h2, hc⟩ := h
  injection he with e1 e2 e3
  subst e1 e3
  refine ⟨ao, cap, by rw [List.length_take, Nat.min_eq_left hm], by rw [List.length_take]; omega, h0, by rw [List.length_take]; omega, fun hne => ?_⟩
  obtain ⟨b, off, hb, hh⟩ := hc (fun e => hne (by rw [e]; simp))
  refine ⟨b, off, hb, fun i cs hi => hh i cs ?_⟩
  by_cases him : i < m
  · rwa [List.getElem?_take_of_lt him] at hi
  · rw [List.getElem?_eq_none (by rw [List.length_take]; omega)] at hi
    cases hi
theorem foldl_setL (off : Nat) : ∀ (l : List Value) (s : Nat) (cs : Array Value), (l.zipIdx s).foldl (fun cs (x : Value × Nat) => cs.setIfInBounds (off + x.2) x.1) cs = setL cs (off + s) l
  | [], _, _ => rfl
  | v :: r, s, cs => by
    rw [List.zipIdx_cons, List.foldl_cons, foldl_setL off r (s + 1)]
    rfl
theorem fill_step (place : Nat → Option (Nat × Nat)) (cells : Array Value) (i : Nat) (v : Value) (rest : List (Nat × Value)) (off size : Nat) (hp : place i = some (off, size)) (hs : v.cells.size = size) (hc : off + size ≤ cells.size) :
    Instr.fill place cells ((i, v) :: rest) = Instr.fill place (setL cells off v.cells.toList) rest := by
  rw [Instr.fill, hp]
  simp only [hs]
  rw [if_neg (by simp; omega)]
  congr 1
  have h := foldl_setL off v.cells.toList 0 cells
  rw [Nat.add_zero] at h
  rw [← h, ← Array.foldl_toList, Array.toList_zipIdx]
theorem fill_nil (place : Nat → Option (Nat × Nat)) (cells : Array Value) : Instr.fill place cells [] = some cells := rfl
theorem RowsAt.drop {w : World} {ao : Option Addr} {n cap k : Nat} {rows : List (List Value)} {m : Nat} (h : RowsAt w (.slice ao n cap) k rows) (hm : m ≤ rows.length) : RowsAt w (.slice (if cap = m then ao else ao.map (·.add (m * k))) (n - m) (cap - m)) k (rows.drop m) := by
  obtain ⟨ao', cap', he, h1, h0, h2, hc⟩ := h
  injection he with e1 e2 e3
  subst e1 e3
  refine ⟨_, cap - m, by rw [List.length_drop, e2], by rw [List.length_drop]; omega, fun hn => ?_, by rw [List.length_drop]; omega, fun hne => ?_⟩
  · by_cases hc' : cap = m
    · omega
    · rw [if_neg hc'] at hn
      have : ao = none := by cases ao with
        | none => rfl
        | some b => simp at hn
      rw [h0 this]
      omega
  · have hml : m < rows.length := by
      rcases Nat.lt_or_ge m rows.length with h | h
      · exact h
      · exact absurd (List.drop_eq_nil_of_le h) hne
    obtain ⟨b, off, hb, hh⟩ := hc (fun e => by rw [e] at hml; simp at hml)
    refine ⟨b, off + m * k, by rw [if_neg (by omega), hb, Option.map_some, Addr.add_mid], fun i cs hi => ?_⟩
    rw [List.getElem?_drop] at hi
    have := hh (m + i) cs hi
    rwa [Nat.add_mul, ← Nat.add_assoc] at this
end Go.Proofs.YtbdkalicgpdbkaaDoor

namespace Go.Proofs.YtbdkalicgpdbkaaDoor
open Go.RowKit

theorem wpList_append_big {ops : Array Oper} {rest : List Oper} {o : Oper} {a : Act} {w : World} {Q : Exit → Act → World → Prop} (hgd : o.guard = none) (s x : Operand) (T e : TypeId) (z : Value) (bytes : Nat)
    (hT : Tryd.prog.underlying T = some (.slice e)) (hinfo : (Tryd.prog.info? e).map (fun i => (i.zero, i.size, i.bytes)) = some (some z, 1, bytes)) (hz1 : z.cells.size = 1)
    (ho : o.op = .call { callee := .builtin .append, args := #[s, x], argTypes := #[T, T] }) {B : Nat} {v : Value} {xs : List Value} (hs : a.eval s = v) (hown : w.ownsRow B e 1 v xs.length xs)
    {q : Nat} {u : Value} (hx : a.eval x = .slice (some ⟨q, 0, none⟩) 1 1) (hc : w.cell? ⟨q, 0, none⟩ = some u) (hu : u.oneCell' = true) (hl : xs.length ≤ 2000000) (hb : bytes ≤ 1000) (hB : B ≤ w.heap.size)
    (h : ∀ v' w', w'.ownsRow B e 1 v' (xs ++ [u]).length (xs ++ [u]) → Kept v.ownBlock.toList w w' → (v'.ownBlock = v.ownBlock ∨ v'.ownBlock = some w.heap.size) → wpList Tryd.prog ops Q rest (a.put o.dst v') w') : wpList Tryd.prog ops Q (o :: rest) a w := by
  obtain ⟨i0, hi, q0, q1, q2⟩ := info_parts' hinfo
  refine wpList_plain hgd fun K hK => ?_
  have hnews : ∀ j t, [u][j]? = some t → w.cell? ((⟨q, 0, none⟩ : Addr).add j) = some t := by
    intro j t ht
    cases j with
    | zero => simp only [List.getElem?_cons_zero, Option.some.injEq] at ht; subst ht; rw [Addr.add_mid]; exact hc
    | succ j => simp at ht
  have hmul : (xs.length + 1) * bytes ≤ (2000000 + 1) * 1000 := Nat.mul_le_mul (by omega) hb
  obtain ⟨v', w', hr, h2, h3, _, h5⟩ := run_append_own_at (P := Tryd.prog) w B T o.type e i0 z 1 bytes hT hi q0 q1 q2 hz1 (by decide) v xs.length xs hown ⟨q, 0, none⟩ 1 1 [u] rfl hnews (by simpa using hu) (by unfold maxLen; omega) (by omega) hB
  unfold Oper.wp execOp
  simp only [ho, resolve, invoke, builtin, Sem.run_bind, Sem.run_pure, Result.andThen_ok, List.map_toArray, List.map_cons, List.map_nil, hs, hx, hr]
  refine hK _ _ (h v' w' (by rw [List.length_append]; exact h2) ((Kept.refl _ _).grown h3 fun k hk => Or.inl (by simp [hk])) h5)
end Go.Proofs.YtbdkalicgpdbkaaDoor

namespace Go.Proofs.YtbdkalicgpdbkaaDoor
open Go.RowKit

theorem takeP {P : Program} {ops : Array Oper} {Q : Exit → Act → World → Prop} {md : Region.Mode} {S : World → Prop} (i : Nat) {oi : Oper} {v : Value} (d : Option Tmp) {fuel : Nat} {listed : Array Bool} (listed' : Array Bool) {a : Act} {w : World} (hi : ops[i]? = some oi) (hd : oi.dst = d) (hl : listed.setIfInBounds i true = listed')
    (hs : Region.noSelect ops = true) (hf : Region.free md ops listed i = true) (hr : (Region.ready md ops listed).contains i = true)
    (hQ : ∀ c a w, Q (.panic c) (a.put d v) w → Q (.panic c) a w) (hy : YieldsIf P ops S oi v a) (hS : S w) (h : wpAnyH P md ops Q S fuel listed' (a.put d v) w) : wpAnyH P md ops Q S (fuel + 1) listed a w := by
  subst hd hl
  exact wpAnyH_take hi hs hf hr hQ hy hS h
theorem wp_call_ret {P : Program} {o : Oper} {a : Act} {w : World} {K : Act → World → Prop} {Q : Exit → Act → World → Prop} (f : FuncId) (args : Array Value) (he : (execOp a.eval o).run P w = .ok (.enter f args) w)
    (hc : Calls P f args w fun e w' => ∃ v, e = .returned v ∧ K (a.put o.dst v) w') : o.wp P a w K Q := by
  unfold Oper.wp
  rw [he]
  refine hc.mono ?_
  rintro e w' ⟨v, rfl, h⟩
  exact h
end Go.Proofs.YtbdkalicgpdbkaaDoor
