/-
  Rows of cells loaded and stored within a fence (a range over a function is walked there). No Go text is named here.
-/
import Derived.Test.YtbdkalicgpdbkaaDoorBase
import Derived.RangeFuncNested
import Derived.RangeFuncBound
import Derived.RangeFuncCalls
import Derived.RangeFuncLeaves
import Derived.Shelf.Abstract
import Derived.Shelf.RegionOpen
import Derived.OwnWalkIn
import Derived.TacticsInMore
import Derived.LoopNIn
import Derived.LoopIn
import Derived.Deep.WholeRow
namespace Go.Proofs.YtbdkalicgpdbkaaDoor
open Go.RowKit Go.Shelf

section
variable {F : Fence} {n : Nat} {P : Program} {ops : Array Oper} {rest : List Oper} {op : Oper} {a : Act} {w : World} {K : Act → World → Prop} {Q : Exit → Act → World → Prop}
theorem opIn_load_mid (d' : Option Tmp) (hd' : op.dst = d') (ty : TypeId) (x : Operand) (ho : op.op = .load ty x) (b o : Nat) (hx : a.eval x = .pointer (some ⟨b, o, none⟩)) (cs : List Value) (d : TypeDesc) (hc : w.rangeAt b o cs)
    (hu : P.underlying ty = some d) (hd : d.isRow = true) (hi : (P.info? ty).map (·.size) = some cs.length) (h : K (a.put d' (.agg cs.toArray)) w) : op.wpIn F n P a w K Q := by
  subst hd'
  unfold Oper.wpIn
  refine ⟨by simp [Oper.about, ho], ?_⟩
  rw [Oper.semAt_plain F _ _ (by rw [ho]; intro c hc'; cases hc')]
  unfold execOp
  simp only [ho, hx, Instr.loadAt, Instr.sureAddr, Sem.run_bind, Sem.run_pure, Result.andThen_ok, run_loadVar_mid w b o ty cs d hc hu hd hi]
  exact h
theorem listIn_load_mid (hgd : op.guard = none) (ty : TypeId) (x : Operand) (ho : op.op = .load ty x) (b o : Nat) (hx : a.eval x = .pointer (some ⟨b, o, none⟩)) (cs : List Value) (d : TypeDesc) (hc : w.rangeAt b o cs)
    (hu : P.underlying ty = some d) (hd : d.isRow = true) (hi : (P.info? ty).map (·.size) = some cs.length) (h : wpListIn F n P ops Q rest (a.put op.dst (.agg cs.toArray)) w) : wpListIn F n P ops Q (op :: rest) a w :=
  wpListIn_plain hgd fun _ hK => opIn_load_mid _ rfl ty x ho b o hx cs d hc hu hd hi (hK _ _ h)
theorem listIn_slice_k (hgd : op.guard = none) (t e : TypeId) (x : Operand) (ho : op.op = .buildSlice t 1 #[(0, x)]) (us : List Value) (hx : a.eval x = .agg us.toArray)
    (hr : ∀ W : World, (Instr.buildSlice t 1 #[(0, .agg us.toArray)]).run P W = .ok (.slice (some ⟨W.heap.size, 0, none⟩) 1 1) (W.alloc (.cells us.toArray e)))
    (h : wpListIn F n P ops Q rest (a.put op.dst (.slice (some ⟨w.heap.size, 0, none⟩) 1 1)) (w.alloc (.cells us.toArray e))) : wpListIn F n P ops Q (op :: rest) a w := by
  refine wpListIn_plain hgd fun K hK => ?_
  unfold Oper.wpIn
  refine ⟨by simp [Oper.about, ho], ?_⟩
  rw [Oper.semAt_plain F _ _ (by rw [ho]; intro c hc'; cases hc')]
  unfold execOp
  simp [ho, hx, hr, Result.andThen]
  exact hK _ _ h
theorem listIn_store_row (hgd : op.guard = none) (ty : TypeId) (x y : Operand) (ho : op.op = .store ty x y) (g : Nat) (cells : Array Value) (hx : a.eval x = .pointer (some ⟨g, 0, none⟩)) (hy : a.eval y = .agg cells)
    (t : TypeId) (old : Array Value) (hg : w.heap[g]? = some (.cells old t (0, 0))) (hi : (P.info? ty).map (·.size) = some cells.size) (hold : old.size = cells.size) (h1 : cells.all (·.oneCell') = true)
    (h : wpListIn F n P ops Q rest (a.put op.dst undef) (w.setRow g cells)) : wpListIn F n P ops Q (op :: rest) a w := by
  refine wpListIn_plain hgd fun K hK => ?_
  unfold Oper.wpIn
  refine ⟨by simp [Oper.about, ho], ?_⟩
  rw [Oper.semAt_plain F _ _ (by rw [ho]; intro c hc'; cases hc')]
  unfold execOp
  simp only [ho, hx, hy, Instr.storeAt, Instr.sureAddr, Sem.run_bind, Sem.run_pure, Result.andThen_ok, run_storeVar_row w g t ty old cells hg hi hold h1]
  exact hK _ _ h
end
/-- What a law of a range turns by itself: no cells, and nothing old. -/
def TurnsNone (B : Nat) (W W' : World) (row : Option Nat) : Prop := W.grownBy W' row ∧ ∀ r, row = some r → B ≤ r ∧ ∃ o : Obj, W.heap[r]? = some o ∧ o.isCells = false
theorem TurnsNone.cells {B : Nat} {W W' : World} {row : Option Nat} (h : TurnsNone B W W' row) {k : Nat} {c : Array Value} {t : TypeId} {fr : Nat × Nat} (hk : W.heap[k]? = some (.cells c t fr)) : W'.heap[k]? = some (.cells c t fr) :=
  (h.1.block k (lt_of_block hk) (fun e => by
    obtain ⟨_, o, ho, hc⟩ := h.2 k e.symm
    rw [hk] at ho
    injection ho with ho
    subst ho
    cases hc)).trans hk
theorem TurnsNone.kept {B : Nat} {w W W' : World} {row : Option Nat} (h : TurnsNone B W W' row) (k : Kept [] w W) (hB : w.heap.size ≤ B) : Kept [] w W' :=
  k.grown h.1 (fun r e => Or.inr (by have := (h.2 r e).1; omega))
theorem TurnsNone.owns {B b0 : Nat} {W W' : World} {row : Option Nat} (h : TurnsNone B W W' row) {e : TypeId} {k : Nat} {v : Value} {n : Nat} {xs : List Value} (ho : W.ownsRow b0 e k v n xs) : W'.ownsRow b0 e k v n xs := by
  obtain ⟨hl, h1 | ⟨g, cap, cur, hv, hB, hg, h1, h2, h3, h4⟩⟩ := ho
  · exact ⟨hl, Or.inl h1⟩
  · exact ⟨hl, Or.inr ⟨g, cap, cur, hv, hB, h.cells hg, h1, h2, h3, h4⟩⟩
/-- A step that writes to cells alone keeps what is no cells. -/
theorem Kept.others {S : List Nat} {W W' : World} (k : Kept S W W') (hS : ∀ x, x ∈ S → ∃ c t fr, W.heap[x]? = some (.cells c t fr)) (B : Nat) : KeepsFrom B W W' :=
  ⟨k.size, fun i o _ hi ho => (k.block i (Array.getElem?_eq_some_iff.1 hi).1 (fun hm => by
    obtain ⟨c, t, fr, hx⟩ := hS i hm
    rw [hi] at hx
    injection hx with hx
    subst hx
    cases ho)).trans hi⟩
theorem Kept.grows {w w' : World} (k : Kept [] w w') : w.grownBy w' none := ⟨k.os, k.tape, k.output, k.size, fun i hi _ => k.block i hi (by simp)⟩
end Go.Proofs.YtbdkalicgpdbkaaDoor
