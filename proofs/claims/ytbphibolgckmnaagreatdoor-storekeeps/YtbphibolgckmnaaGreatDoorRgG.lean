/-
  Rows of cells loaded and stored within a fence (a range over a function is walked there). No Go text is named here.
  A RANGE OVER A FUNCTION whose rounds know what they are handed: the world ahead of the handing and what lies there for the round. No Go text is named here.
-/
import Derived.Test.YtbphibolgckmnaaGreatDoorPlain
import Derived.RangeFuncNested
import Derived.RangeFuncBound
import Derived.RangeFuncCalls
import Derived.RangeFuncLeaves
import Derived.Shelf.Abstract
import Derived.Shelf.RegionOpen
import Derived.OwnWalkIn
import Derived.TacticsInMore
import Derived.LoopNIn
import Derived.LoopIn
import Derived.Deep.WholeRow
namespace Go.Proofs.YtbphibolgckmnaaGreatDoor
open Go.RowKit Go.Shelf

section
variable {F : Fence} {n : Nat} {P : Program} {ops : Array Oper} {rest : List Oper} {op : Oper} {a : Act} {w : World} {K : Act → World → Prop} {Q : Exit → Act → World → Prop}
theorem opIn_load_mid (d' : Option Tmp) (hd' : op.dst = d') (ty : TypeId) (x : Operand) (ho : op.op = .load ty x) (b o : Nat) (hx : a.eval x = .pointer (some ⟨b, o, none⟩)) (cs : List Value) (d : TypeDesc) (hc : w.rangeAt b o cs)
    (hu : P.underlying ty = some d) (hd : d.isRow = true) (hi : (P.info? ty).map (·.size) = some cs.length) (h : K (a.put d' (.agg cs.toArray)) w) : op.wpIn F n P a w K Q := by
  subst hd'
  unfold Oper.wpIn
  refine ⟨by simp [Oper.about, ho], ?_⟩
  rw [Oper.semAt_plain F _ _ (by rw [ho]; intro c hc'; cases hc')]
  unfold execOp
  simp only [ho, hx, Instr.loadAt, Instr.sureAddr, Sem.run_bind, Sem.run_pure, Result.andThen_ok, run_loadVar_mid w b o ty cs d hc hu hd hi]
  exact h
theorem opIn_load_run (d' : Option Tmp) (hd' : op.dst = d') (ty : TypeId) (x : Operand) (ho : op.op = .load ty x) (p : Addr) (hx : a.eval x = .pointer (some p)) (v : Value) (hr : (loadVar ty p).run P w = .ok v w) (h : K (a.put d' v) w) : op.wpIn F n P a w K Q := by
  subst hd'
  unfold Oper.wpIn
  refine ⟨by simp [Oper.about, ho], ?_⟩
  rw [Oper.semAt_plain F _ _ (by rw [ho]; intro c hc'; cases hc')]
  unfold execOp
  simp only [ho, hx, Instr.loadAt, Instr.sureAddr, Sem.run_bind, Sem.run_pure, Result.andThen_ok, hr]
  exact h
theorem opIn_call (d' : Option Tmp) (hd' : op.dst = d') {f : Nat} {xs : Array Operand} {ts : Array TypeId} (ho : op.op = .call { callee := .value (.func f), args := xs, argTypes := ts }) (vs : Array Value) (hv : xs.map a.eval = vs) (eg : ∀ args w, (callFunc f args).run P w = .ok (.enter f args) w) {R : Ending → World → Prop} (hc : Calls P f vs w R)
    (h : ∀ e w', R e w' → ∃ v, e = .returned v ∧ K (a.put d' v) w') : op.wpIn Fence.wide n P a w K Q := by
  subst hd'
  unfold Oper.wpIn
  refine ⟨fun _ _ => trivial, ?_⟩
  rw [Oper.semAt_plain Fence.wide _ _ (by rw [ho]; intro c hc'; cases hc')]
  have e1 : (execOp a.eval op).run P w = .ok (.enter f vs) w := by
    unfold execOp
    simp only [ho, resolve, Act.eval, Deferred.ofValue, Sem.run_bind, Sem.run_pure, Result.andThen_ok, invoke, hv, eg, Array.append_empty, Array.empty_append]
  rw [e1]
  refine ⟨fun h => (by cases h), (callsIn_wide.2 hc).mono fun e w' he => ?_⟩
  obtain ⟨v, rfl, hK⟩ := h e w' he
  exact hK
theorem opIn_yield (d' : Option Tmp) (hd' : op.dst = d') {l : Nat} {x : Operand} {xs : Array Operand} {ts : Array TypeId} (ho : op.op = .call { callee := .value x, args := xs, argTypes := ts }) (hx : a.eval x = .func (.yield l) #[] #[]) (vs : Array Value) (hv : xs.map a.eval = vs) {R : Ending → World → Prop} (hy : YieldAt Fence.wide (n - 1) P l vs w R)
    (h : ∀ e w', R e w' → ∃ v, e = .returned v ∧ K (a.put d' v) w') : op.wpIn Fence.wide n P a w K Q := by
  subst hd'
  obtain ⟨fn, tmps, assign, body, hy, hR⟩ := hy
  unfold Oper.wpIn
  refine ⟨fun _ _ => trivial, ?_⟩
  rw [Oper.semAt_plain Fence.wide _ _ (by rw [ho]; intro c hc'; cases hc')]
  have e1 : (execOp a.eval op).run P w = .ok (.round l fn tmps assign body) w := by
    unfold execOp
    simp only [ho, resolve, hx, Deferred.ofValue, Sem.run_bind, Sem.run_pure, Result.andThen_ok, invoke, hv, hy, Array.empty_append]
  rw [e1]
  refine ⟨fun h => (by cases h), hR.mono fun e w' he => ?_⟩
  obtain ⟨v, rfl, hK⟩ := h e w' he
  exact hK
theorem listIn_load_mid (hgd : op.guard = none) (ty : TypeId) (x : Operand) (ho : op.op = .load ty x) (b o : Nat) (hx : a.eval x = .pointer (some ⟨b, o, none⟩)) (cs : List Value) (d : TypeDesc) (hc : w.rangeAt b o cs)
    (hu : P.underlying ty = some d) (hd : d.isRow = true) (hi : (P.info? ty).map (·.size) = some cs.length) (h : wpListIn F n P ops Q rest (a.put op.dst (.agg cs.toArray)) w) : wpListIn F n P ops Q (op :: rest) a w :=
  wpListIn_plain hgd fun _ hK => opIn_load_mid _ rfl ty x ho b o hx cs d hc hu hd hi (hK _ _ h)
theorem listIn_slice_k (hgd : op.guard = none) (t e : TypeId) (x : Operand) (ho : op.op = .buildSlice t 1 #[(0, x)]) (us : List Value) (hx : a.eval x = .agg us.toArray)
    (hr : ∀ W : World, (Instr.buildSlice t 1 #[(0, .agg us.toArray)]).run P W = .ok (.slice (some ⟨W.heap.size, 0, none⟩) 1 1) (W.alloc (.cells us.toArray e)))
    (h : wpListIn F n P ops Q rest (a.put op.dst (.slice (some ⟨w.heap.size, 0, none⟩) 1 1)) (w.alloc (.cells us.toArray e))) : wpListIn F n P ops Q (op :: rest) a w := by
  refine wpListIn_plain hgd fun K hK => ?_
  unfold Oper.wpIn
  refine ⟨by simp [Oper.about, ho], ?_⟩
  rw [Oper.semAt_plain F _ _ (by rw [ho]; intro c hc'; cases hc')]
  unfold execOp
  simp [ho, hx, hr, Result.andThen]
  exact hK _ _ h
theorem listIn_store_row (hgd : op.guard = none) (ty : TypeId) (x y : Operand) (ho : op.op = .store ty x y) (g : Nat) (cells : Array Value) (hx : a.eval x = .pointer (some ⟨g, 0, none⟩)) (hy : a.eval y = .agg cells)
    (t : TypeId) (old : Array Value) (hg : w.heap[g]? = some (.cells old t (0, 0))) (hi : (P.info? ty).map (·.size) = some cells.size) (hold : old.size = cells.size) (h1 : cells.all (·.oneCell') = true)
    (h : wpListIn F n P ops Q rest (a.put op.dst undef) (w.setRow g cells)) : wpListIn F n P ops Q (op :: rest) a w := by
  refine wpListIn_plain hgd fun K hK => ?_
  unfold Oper.wpIn
  refine ⟨by simp [Oper.about, ho], ?_⟩
  rw [Oper.semAt_plain F _ _ (by rw [ho]; intro c hc'; cases hc')]
  unfold execOp
  simp only [ho, hx, hy, Instr.storeAt, Instr.sureAddr, Sem.run_bind, Sem.run_pure, Result.andThen_ok, run_storeVar_row w g t ty old cells hg hi hold h1]
  exact hK _ _ h
theorem listIn_store_new (hgd : op.guard = none) (ty : TypeId) (x y : Operand) (ho : op.op = .store ty x y) (w0 : World) (old cells : Array Value) (hx : a.eval x = .pointer (some ⟨w0.heap.size, 0, none⟩)) (hy : a.eval y = .agg cells)
    (hi : (P.info? ty).map (·.size) = some cells.size) (hold : old.size = cells.size) (h1 : cells.all (·.oneCell') = true)
    (h : wpListIn F n P ops Q rest (a.put op.dst undef) (w0.alloc (.cells cells ty))) : wpListIn F n P ops Q (op :: rest) a (w0.alloc (.cells old ty)) := by
  refine listIn_store_row hgd ty x y ho w0.heap.size cells hx hy ty old (heap_alloc_new w0 _) hi hold h1 ?_
  rw [World.setRow_alloc_new]
  exact h
end
/-- What a law of a range turns by itself: no cells, and nothing old. -/
def TurnsNone (B : Nat) (W W' : World) (row : Option Nat) : Prop := W.grownBy W' row ∧ ∀ r, row = some r → B ≤ r ∧ ∃ o : Obj, W.heap[r]? = some o ∧ o.isCells = false
theorem TurnsNone.cells {B : Nat} {W W' : World} {row : Option Nat} (h : TurnsNone B W W' row) {k : Nat} {c : Array Value} {t : TypeId} {fr : Nat × Nat} (hk : W.heap[k]? = some (.cells c t fr)) : W'.heap[k]? = some (.cells c t fr) :=
  (h.1.block k (lt_of_block hk) (fun e => by
    obtain ⟨_, o, ho, hc⟩ := h.2 k e.symm
    rw [hk] at ho
    injection ho with ho
    subst ho
    cases hc)).trans hk
theorem TurnsNone.kept {B : Nat} {w W W' : World} {row : Option Nat} (h : TurnsNone B W W' row) (k : Kept [] w W) (hB : w.heap.size ≤ B) : Kept [] w W' :=
  k.grown h.1 (fun r e => Or.inr (by have := (h.2 r e).1; omega))
theorem TurnsNone.owns {B b0 : Nat} {W W' : World} {row : Option Nat} (h : TurnsNone B W W' row) {e : TypeId} {k : Nat} {v : Value} {n : Nat} {xs : List Value} (ho : W.ownsRow b0 e k v n xs) : W'.ownsRow b0 e k v n xs := by
  obtain ⟨hl, h1 | ⟨g, cap, cur, hv, hB, hg, h1, h2, h3, h4⟩⟩ := ho
  · exact ⟨hl, Or.inl h1⟩
  · exact ⟨hl, Or.inr ⟨g, cap, cur, hv, hB, h.cells hg, h1, h2, h3, h4⟩⟩
/-- A step that writes to cells alone keeps what is no cells. -/
theorem Kept.others {S : List Nat} {W W' : World} (k : Kept S W W') (hS : ∀ x, x ∈ S → ∃ c t fr, W.heap[x]? = some (.cells c t fr)) (B : Nat) : KeepsFrom B W W' :=
  ⟨k.size, fun i o _ hi ho => (k.block i (Array.getElem?_eq_some_iff.1 hi).1 (fun hm => by
    obtain ⟨c, t, fr, hx⟩ := hS i hm
    rw [hi] at hx
    injection hx with hx
    subst hx
    cases ho)).trans hi⟩
theorem Kept.grows {w w' : World} (k : Kept [] w w') : w.grownBy w' none := ⟨k.os, k.tape, k.output, k.size, fun i hi _ => k.block i hi (by simp)⟩
end Go.Proofs.YtbphibolgckmnaaGreatDoor

namespace Go.Proofs.YtbphibolgckmnaaGreatDoor
open Go.RowKit

theorem BytesAt.uniq {w : World} {v : Value} {xs ys : List Int} (h : BytesAt w v xs) (k : BytesAt w v ys) : xs = ys := by
  obtain ⟨ao, cap, rfl, _, _, hc⟩ := h
  obtain ⟨ao', cap', he, _, _, hc'⟩ := k
  injection he with e1 e2 e3
  subst e1
  by_cases h0 : xs = []
  · subst h0
    exact (List.eq_nil_of_length_eq_zero e2.symm).symm
  · have h0' : ys ≠ [] := fun e => by
      rw [e] at e2
      exact h0 (List.eq_nil_of_length_eq_zero e2)
    obtain ⟨b, off, rfl, hh⟩ := hc h0
    obtain ⟨b', off', he, hh'⟩ := hc' h0'
    injection he with he
    injection he with h1 h2 _
    subst h1 h2
    refine List.ext_getElem e2 fun i hi hi' => ?_
    have q1 := hh i _ (List.getElem?_eq_getElem hi)
    have q2 := hh' i _ (List.getElem?_eq_getElem hi')
    rw [q1] at q2
    injection q2 with q2
    injection q2
theorem owns_lower {w : World} {B B' : Nat} {e : TypeId} {k : Nat} {v : Value} {n : Nat} {xs : List Value} (h : w.ownsRow B e k v n xs) (hB : B' ≤ B) : w.ownsRow B' e k v n xs := by
  obtain ⟨hl, h1 | ⟨g, cap, cur, hv, h2, rest⟩⟩ := h
  · exact ⟨hl, Or.inl h1⟩
  · exact ⟨hl, Or.inr ⟨g, cap, cur, hv, Nat.le_trans hB h2, rest⟩⟩
/-- What an iterator does that hands x only where 'G x A B' holds: in A the caller's word held, B is the world in which x is handed. -/
def SeqG {α : Type} (F : Fence) (n : Nat) (P : Program) (g : Nat) (lb : Array Value) (encs : α → Array Value) (Kp : World → World → Prop) (G : α → World → World → Prop) (S Sp : List α → Prop) (N : Nat) (w : World) : Prop :=
  ∀ (l : Nat) (J Jx : List α → World → Prop) (W : World), Below w.heap.size w W → AbidesFrom W.heap.size J → AbidesFrom W.heap.size Jx →
    (∀ pre x A B, J pre A → G x A B → pre.length < N → YieldAt F (n - 1) P l (encs x) B fun e W' =>
      (e = .returned (.bool true) ∧ J (pre ++ [x]) W' ∧ Kp B W') ∨ (e = .returned (.bool false) ∧ Jx (pre ++ [x]) W')) →
    J [] W →
    CallsIn F n P g (#[.func (.yield l) #[] #[]] ++ lb) W fun e W' => (∃ v, e = .returned v) ∧ ((∃ xs, S xs ∧ J xs W') ∨ (∃ pre, Sp pre ∧ Jx pre W'))
/-- A loop's record, in one of its states. -/
def recAt (fn : FuncId) (tm : Array Value) (ps : Array Tmp) (assign body : Code) (dd : Nat) (st : LoopState) (pe : Option Code) : Loop := { state := st, pending := pe, fn := fn, tmps := tm, params := ps, assign := assign, body := body, defers := dd }
section
variable {α : Type} {F : Fence} {n : Nat} {P : Program} {ps : Array Tmp} {assign body : Code} {tm : Array Value} {fn : FuncId} {dd l B : Nat} {encs : α → Array Value} {Kp : World → World → Prop} {G : α → World → World → Prop} {N : Nat} {X : World → Prop} {I : List α → World → Prop} {Ix : Code → List α → World → Prop} {Ax : List α → α → Act → World → Prop}
/-- What a law keeps beside its own word: the record and X. -/
def BkG (fn : FuncId) (tm : Array Value) (ps : Array Tmp) (assign body : Code) (dd l : Nat) (X : World → Prop) (st : LoopState) (pe : Option Code) (W : World) : Prop := W.heap[l]? = some (.loop (recAt fn tm ps assign body dd st pe)) ∧ X W
theorem BkG.turn {st st' : LoopState} {pe pe' : Option Code} {W : World} (hXp : ∀ A o, X A → X (A.putObj l o)) (h : BkG fn tm ps assign body dd l X st pe W) : BkG fn tm ps assign body dd l X st' pe' (W.putObj l (.loop (recAt fn tm ps assign body dd st' pe'))) :=
  ⟨World.putObj_heap_same (lt_of_block h.1), hXp _ _ h.2⟩
end
end Go.Proofs.YtbphibolgckmnaaGreatDoor
