/-
  THE LIBRARY's CONTRACTS that are used here, laid at this program in plain words (by the guide's lay-plain): the table of numbers, and a field a fact.
  The store's rows SORTED: slices.SortFunc at them.
  Rows of cells loaded and stored within a fence (a range over a function is walked there). No Go text is named here.
  A RANGE OVER A FUNCTION whose rounds know what they are handed: the world ahead of the handing and what lies there for the round. No Go text is named here.
  PLAIN MATHEMATICS: signs of UTF-8 as the document tells them, held against the library's decoder.
  WALKS: satchelref3.tail, sign, Line, Name: for every text.
  WALKS: satchelref3.Line, Name: for every text.
-/
import Derived.Test.YtddhhjgegkkjbaaGreatDoorChecked
import Derived.Shelf.SlLaysF0
import Derived.Test.YtddhhjgegkkjbaaGreatDoorShelf
import Derived.Shelf.SlSortCmp.WholeK
import Derived.Test.YtddhhjgegkkjbaaGreatDoorPlain
import Derived.RangeFuncNested
import Derived.RangeFuncBound
import Derived.RangeFuncCalls
import Derived.RangeFuncLeaves
import Derived.Shelf.Abstract
import Derived.Shelf.RegionOpen
import Derived.OwnWalkIn
import Derived.TacticsInMore
import Derived.LoopNIn
import Derived.LoopIn
import Derived.Deep.WholeRow
import Derived.Test.YtddhhjgegkkjbaaGreatDoorObj1
namespace Go.Proofs
open Go.Shelf
def Tryz.sortRow_ren : Go.Shelf.Ren := ⟨fun | 6 => 36 | 15 => 56 | 14 => 55 | 28 => 77 | 29 => 78 | 20 => 69 | 21 => 70 | 22 => 71 | 23 => 72 | 24 => 73 | 25 => 74 | 26 => 75 | 27 => 76 | 46 => 91 | 47 => 92 | 48 => 93 | 49 => 94 | 50 => 95 | 57 => 104 | n => n, fun | 22 => 65 | 24 => 68 | 25 => 87 | 3 => 3 | 39 => 92 | 0 => 0 | 53 => 109 | 55 => 55 | 4 => 4 | 46 => 133 | 45 => 132 | 50 => 137 | 5 => 5 | 9 => 9 | 66 => 154 | 70 => 157 | 76 => 163 | 77 => 164 | n => n, fun | n => n⟩
theorem Tryz.sortRow : Go.Proofs.SlLaysF0.n6 Tryz.prog Tryz.sortRow_ren := {
  mixed := by kernel_rfl
  f6 := ⟨Tryz.f36.name, by decide, Tryz.func36.trans (congrArg some (by kernel_rfl))⟩
  f14 := ⟨Tryz.f55.name, by decide, Tryz.func55.trans (congrArg some (by kernel_rfl))⟩
  f15 := Tryz.func56.trans (congrArg some (by kernel_rfl))
  f20 := ⟨Tryz.f69.name, by decide, Tryz.func69.trans (congrArg some (by kernel_rfl))⟩
  f21 := ⟨Tryz.f70.name, by decide, Tryz.func70.trans (congrArg some (by kernel_rfl))⟩
  f22 := ⟨Tryz.f71.name, by decide, Tryz.func71.trans (congrArg some (by kernel_rfl))⟩
  f23 := ⟨Tryz.f72.name, by decide, Tryz.func72.trans (congrArg some (by kernel_rfl))⟩
  f24 := ⟨Tryz.f73.name, by decide, Tryz.func73.trans (congrArg some (by kernel_rfl))⟩
  f25 := ⟨Tryz.f74.name, by decide, Tryz.func74.trans (congrArg some (by kernel_rfl))⟩
  f26 := ⟨Tryz.f75.name, by decide, Tryz.func75.trans (congrArg some (by kernel_rfl))⟩
  f27 := ⟨Tryz.f76.name, by decide, Tryz.func76.trans (congrArg some (by kernel_rfl))⟩
  f28 := Tryz.func77.trans (congrArg some (by kernel_rfl))
  f29 := Tryz.func78.trans (congrArg some (by kernel_rfl))
  f46 := ⟨Tryz.f91.name, by decide, Tryz.func91.trans (congrArg some (by kernel_rfl))⟩
  f47 := Tryz.func92.trans (congrArg some (by kernel_rfl))
  f48 := Tryz.func93.trans (congrArg some (by kernel_rfl))
  f49 := ⟨Tryz.f94.name, by decide, Tryz.func94.trans (congrArg some (by kernel_rfl))⟩
  f50 := ⟨Tryz.f95.name, by decide, Tryz.func95.trans (congrArg some (by kernel_rfl))⟩
  f57 := ⟨Tryz.f104.name, by decide, Tryz.func104.trans (congrArg some (by kernel_rfl))⟩
  t0 := Tryz.underlying0
  a0 := Tryz.isAgg0
  z0 := Tryz.sizeOf0
  v0 := Tryz.zeroValue0
  t3 := Tryz.underlying3
  a3 := Tryz.isAgg3
  z3 := Tryz.sizeOf3
  v3 := Tryz.zeroValue3
  t4 := Tryz.underlying4
  a4 := Tryz.isAgg4
  z4 := Tryz.sizeOf4
  v4 := Tryz.zeroValue4
  t5 := Tryz.underlying5
  a5 := Tryz.isAgg5
  z5 := Tryz.sizeOf5
  v5 := Tryz.zeroValue5
  t9 := Tryz.underlying9
  a9 := Tryz.isAgg9
  z9 := Tryz.sizeOf9
  v9 := Tryz.zeroValue9
  t22 := Tryz.underlying65
  a22 := Tryz.isAgg65
  z22 := Tryz.sizeOf65
  v22 := Tryz.zeroValue65
  t25 := Tryz.underlying87
  a25 := Tryz.isAgg87
  z25 := Tryz.sizeOf87
  v25 := Tryz.zeroValue87
  t39 := Tryz.underlying92
  a39 := Tryz.isAgg92
  z39 := Tryz.sizeOf92
  v39 := Tryz.zeroValue92
  t45 := Tryz.underlying132
  a45 := Tryz.isAgg132
  z45 := Tryz.sizeOf132
  v45 := Tryz.zeroValue132
  t46 := Tryz.underlying133
  a46 := Tryz.isAgg133
  z46 := Tryz.sizeOf133
  v46 := Tryz.zeroValue133
  t50 := Tryz.underlying137
  a50 := Tryz.isAgg137
  z50 := Tryz.sizeOf137
  v50 := Tryz.zeroValue137
  t53 := Tryz.underlying109
  a53 := Tryz.isAgg109
  z53 := Tryz.sizeOf109
  v53 := Tryz.zeroValue109
  t55 := Tryz.underlying55
  a55 := Tryz.isAgg55
  z55 := Tryz.sizeOf55
  v55 := Tryz.zeroValue55
  t66 := Tryz.underlying154
  a66 := Tryz.isAgg154
  z66 := Tryz.sizeOf154
  v66 := Tryz.zeroValue154
  t70 := Tryz.underlying157
  a70 := Tryz.isAgg157
  z70 := Tryz.sizeOf157
  v70 := Tryz.zeroValue157
  t76 := Tryz.underlying163
  a76 := Tryz.isAgg163
  z76 := Tryz.sizeOf163
  v76 := Tryz.zeroValue163
  t77 := Tryz.underlying164
  a77 := Tryz.isAgg164
  z77 := Tryz.sizeOf164
  v77 := Tryz.zeroValue164 }
end Go.Proofs

namespace Go.Proofs.YtddhhjgegkkjbaaGreatDoor
open Go.RowKit Go.Shelf Go.Lib Go.Sort

theorem Tryz.aggRow (w : World) : (isAgg 68).run Tryz.prog w = .ok true w := Tryz.isAgg68 w
theorem Tryz.sizeRow (w : World) : (Go.sizeOf 68).run Tryz.prog w = .ok 33 w := Tryz.sizeOf68 w
theorem sortRows_any (blk off cap : Nat) (d : Array RowE) (w : World) (hH : HoldsK encRow 33 w blk off d) (hblk : blk < w.heap.size) (hsz : d.size < 4611686018427387904) :
    Calls Tryz.prog 36 #[.slice (some ⟨blk, off, none⟩) d.size cap, .func (.func 37) #[] #[]] w fun e w' =>
      e = .returned (.tuple #[]) ∧ ∃ d' n os, PermIn 0 d.size d d' ∧ SortedIn (ltOf fun x y : RowE => cmpB x.xs y.xs) 0 d.size d' ∧ w' = sortWorldK encRow 33 w blk off n d' os :=
  AnyQ.slices_SortFunc Tryz.sortRow 33 Tryz.aggRow Tryz.sizeRow encRow encRow_len encRow_one (fun x y => cmpB x.xs y.xs) rowSWO 37 #[] blk off cap d w
    (enters_of Tryz.func37 (by kernel_rfl) rfl) (rowLays blk off d.size w) hH hblk hsz
end Go.Proofs.YtddhhjgegkkjbaaGreatDoor

namespace Go.Proofs.YtddhhjgegkkjbaaGreatDoor
open Go.RowKit Go.Shelf

section
variable {F : Fence} {n : Nat} {P : Program} {ops : Array Oper} {rest : List Oper} {op : Oper} {a : Act} {w : World} {K : Act → World → Prop} {Q : Exit → Act → World → Prop}
theorem opIn_load_mid (d' : Option Tmp) (hd' : op.dst = d') (ty : TypeId) (x : Operand) (ho : op.op = .load ty x) (b o : Nat) (hx : a.eval x = .pointer (some ⟨b, o, none⟩)) (cs : List Value) (d : TypeDesc) (hc : w.rangeAt b o cs)
    (hu : P.underlying ty = some d) (hd : d.isRow = true) (hi : (P.info? ty).map (·.size) = some cs.length) (h : K (a.put d' (.agg cs.toArray)) w) : op.wpIn F n P a w K Q := by
  subst hd'
  unfold Oper.wpIn
  refine ⟨by simp [Oper.about, ho], ?_⟩
  rw [Oper.semAt_plain F _ _ (by rw [ho]; intro c hc'; cases hc')]
  unfold execOp
  simp only [ho, hx, Instr.loadAt, Instr.sureAddr, Sem.run_bind, Sem.run_pure, Result.andThen_ok, run_loadVar_mid w b o ty cs d hc hu hd hi]
  exact h
theorem opIn_load_run (d' : Option Tmp) (hd' : op.dst = d') (ty : TypeId) (x : Operand) (ho : op.op = .load ty x) (p : Addr) (hx : a.eval x = .pointer (some p)) (v : Value) (hr : (loadVar ty p).run P w = .ok v w) (h : K (a.put d' v) w) : op.wpIn F n P a w K Q := by
  subst hd'
  unfold Oper.wpIn
  refine ⟨by simp [Oper.about, ho], ?_⟩
  rw [Oper.semAt_plain F _ _ (by rw [ho]; intro c hc'; cases hc')]
  unfold execOp
  simp only [ho, hx, Instr.loadAt, Instr.sureAddr, Sem.run_bind, Sem.run_pure, Result.andThen_ok, hr]
  exact h
theorem opIn_call (d' : Option Tmp) (hd' : op.dst = d') {f : Nat} {xs : Array Operand} {ts : Array TypeId} (ho : op.op = .call { callee := .value (.func f), args := xs, argTypes := ts }) (vs : Array Value) (hv : xs.map a.eval = vs) (eg : ∀ args w, (callFunc f args).run P w = .ok (.enter f args) w) {R : Ending → World → Prop} (hc : Calls P f vs w R)
    (h : ∀ e w', R e w' → ∃ v, e = .returned v ∧ K (a.put d' v) w') : op.wpIn Fence.wide n P a w K Q := by
  subst hd'
  unfold Oper.wpIn
  refine ⟨fun _ _ => trivial, ?_⟩
  rw [Oper.semAt_plain Fence.wide _ _ (by rw [ho]; intro c hc'; cases hc')]
  have e1 : (execOp a.eval op).run P w = .ok (.enter f vs) w := by
    unfold execOp
    simp only [ho, resolve, Act.eval, Deferred.ofValue, Sem.run_bind, Sem.run_pure, Result.andThen_ok, invoke, hv, eg, Array.append_empty, Array.empty_append]
  rw [e1]
  refine ⟨fun h => (by cases h), (callsIn_wide.2 hc).mono fun e w' he => ?_⟩
  obtain ⟨v, rfl, hK⟩ := h e w' he
  exact hK
theorem opIn_yield (d' : Option Tmp) (hd' : op.dst = d') {l : Nat} {x : Operand} {xs : Array Operand} {ts : Array TypeId} (ho : op.op = .call { callee := .value x, args := xs, argTypes := ts }) (hx : a.eval x = .func (.yield l) #[] #[]) (vs : Array Value) (hv : xs.map a.eval = vs) {R : Ending → World → Prop} (hy : YieldAt Fence.wide (n - 1) P l vs w R)
    (h : ∀ e w', R e w' → ∃ v, e = .returned v ∧ K (a.put d' v) w') : op.wpIn Fence.wide n P a w K Q := by
  subst hd'
  obtain ⟨fn, tmps, assign, body, hy, hR⟩ := hy
  unfold Oper.wpIn
  refine ⟨fun _ _ => trivial, ?_⟩
  rw [Oper.semAt_plain Fence.wide _ _ (by rw [ho]; intro c hc'; cases hc')]
  have e1 : (execOp a.eval op).run P w = .ok (.round l fn tmps assign body) w := by
    unfold execOp
    simp only [ho, resolve, hx, Deferred.ofValue, Sem.run_bind, Sem.run_pure, Result.andThen_ok, invoke, hv, hy, Array.empty_append]
  rw [e1]
  refine ⟨fun h => (by cases h), hR.mono fun e w' he => ?_⟩
  obtain ⟨v, rfl, hK⟩ := h e w' he
  exact hK
theorem listIn_load_mid (hgd : op.guard = none) (ty : TypeId) (x : Operand) (ho : op.op = .load ty x) (b o : Nat) (hx : a.eval x = .pointer (some ⟨b, o, none⟩)) (cs : List Value) (d : TypeDesc) (hc : w.rangeAt b o cs)
    (hu : P.underlying ty = some d) (hd : d.isRow = true) (hi : (P.info? ty).map (·.size) = some cs.length) (h : wpListIn F n P ops Q rest (a.put op.dst (.agg cs.toArray)) w) : wpListIn F n P ops Q (op :: rest) a w :=
  wpListIn_plain hgd fun _ hK => opIn_load_mid _ rfl ty x ho b o hx cs d hc hu hd hi (hK _ _ h)
theorem listIn_slice_k (hgd : op.guard = none) (t e : TypeId) (x : Operand) (ho : op.op = .buildSlice t 1 #[(0, x)]) (us : List Value) (hx : a.eval x = .agg us.toArray)
    (hr : ∀ W : World, (Instr.buildSlice t 1 #[(0, .agg us.toArray)]).run P W = .ok (.slice (some ⟨W.heap.size, 0, none⟩) 1 1) (W.alloc (.cells us.toArray e)))
    (h : wpListIn F n P ops Q rest (a.put op.dst (.slice (some ⟨w.heap.size, 0, none⟩) 1 1)) (w.alloc (.cells us.toArray e))) : wpListIn F n P ops Q (op :: rest) a w := by
  refine wpListIn_plain hgd fun K hK => ?_
  unfold Oper.wpIn
  refine ⟨by simp [Oper.about, ho], ?_⟩
  rw [Oper.semAt_plain F _ _ (by rw [ho]; intro c hc'; cases hc')]
  unfold execOp
  simp [ho, hx, hr, Result.andThen]
  exact hK _ _ h
theorem listIn_store_row (hgd : op.guard = none) (ty : TypeId) (x y : Operand) (ho : op.op = .store ty x y) (g : Nat) (cells : Array Value) (hx : a.eval x = .pointer (some ⟨g, 0, none⟩)) (hy : a.eval y = .agg cells)
    (t : TypeId) (old : Array Value) (hg : w.heap[g]? = some (.cells old t (0, 0))) (hi : (P.info? ty).map (·.size) = some cells.size) (hold : old.size = cells.size) (h1 : cells.all (·.oneCell') = true)
    (h : wpListIn F n P ops Q rest (a.put op.dst undef) (w.setRow g cells)) : wpListIn F n P ops Q (op :: rest) a w := by
  refine wpListIn_plain hgd fun K hK => ?_
  unfold Oper.wpIn
  refine ⟨by simp [Oper.about, ho], ?_⟩
  rw [Oper.semAt_plain F _ _ (by rw [ho]; intro c hc'; cases hc')]
  unfold execOp
  simp only [ho, hx, hy, Instr.storeAt, Instr.sureAddr, Sem.run_bind, Sem.run_pure, Result.andThen_ok, run_storeVar_row w g t ty old cells hg hi hold h1]
  exact hK _ _ h
theorem listIn_store_new (hgd : op.guard = none) (ty : TypeId) (x y : Operand) (ho : op.op = .store ty x y) (w0 : World) (old cells : Array Value) (hx : a.eval x = .pointer (some ⟨w0.heap.size, 0, none⟩)) (hy : a.eval y = .agg cells)
    (hi : (P.info? ty).map (·.size) = some cells.size) (hold : old.size = cells.size) (h1 : cells.all (·.oneCell') = true)
    (h : wpListIn F n P ops Q rest (a.put op.dst undef) (w0.alloc (.cells cells ty))) : wpListIn F n P ops Q (op :: rest) a (w0.alloc (.cells old ty)) := by
  refine listIn_store_row hgd ty x y ho w0.heap.size cells hx hy ty old (heap_alloc_new w0 _) hi hold h1 ?_
  rw [World.setRow_alloc_new]
  exact h
end
/-- What a law of a range turns by itself: no cells, and nothing old. -/
def TurnsNone (B : Nat) (W W' : World) (row : Option Nat) : Prop := W.grownBy W' row ∧ ∀ r, row = some r → B ≤ r ∧ ∃ o : Obj, W.heap[r]? = some o ∧ o.isCells = false
theorem TurnsNone.cells {B : Nat} {W W' : World} {row : Option Nat} (h : TurnsNone B W W' row) {k : Nat} {c : Array Value} {t : TypeId} {fr : Nat × Nat} (hk : W.heap[k]? = some (.cells c t fr)) : W'.heap[k]? = some (.cells c t fr) :=
  (h.1.block k (lt_of_block hk) (fun e => by
    obtain ⟨_, o, ho, hc⟩ := h.2 k e.symm
    rw [hk] at ho
    injection ho with ho
    subst ho
    cases hc)).trans hk
theorem TurnsNone.kept {B : Nat} {w W W' : World} {row : Option Nat} (h : TurnsNone B W W' row) (k : Kept [] w W) (hB : w.heap.size ≤ B) : Kept [] w W' :=
  k.grown h.1 (fun r e => Or.inr (by have := (h.2 r e).1; omega))
theorem TurnsNone.owns {B b0 : Nat} {W W' : World} {row : Option Nat} (h : TurnsNone B W W' row) {e : TypeId} {k : Nat} {v : Value} {n : Nat} {xs : List Value} (ho : W.ownsRow b0 e k v n xs) : W'.ownsRow b0 e k v n xs := by
  obtain ⟨hl, h1 | ⟨g, cap, cur, hv, hB, hg, h1, h2, h3, h4⟩⟩ := ho
  · exact ⟨hl, Or.inl h1⟩
  · exact ⟨hl, Or.inr ⟨g, cap, cur, hv, hB, h.cells hg, h1, h2, h3, h4⟩⟩
/-- A step that writes to cells alone keeps what is no cells. -/
theorem Kept.others {S : List Nat} {W W' : World} (k : Kept S W W') (hS : ∀ x, x ∈ S → ∃ c t fr, W.heap[x]? = some (.cells c t fr)) (B : Nat) : KeepsFrom B W W' :=
  ⟨k.size, fun i o _ hi ho => (k.block i (Array.getElem?_eq_some_iff.1 hi).1 (fun hm => by
    obtain ⟨c, t, fr, hx⟩ := hS i hm
    rw [hi] at hx
    injection hx with hx
    subst hx
    cases ho)).trans hi⟩
theorem Kept.grows {w w' : World} (k : Kept [] w w') : w.grownBy w' none := ⟨k.os, k.tape, k.output, k.size, fun i hi _ => k.block i hi (by simp)⟩
end Go.Proofs.YtddhhjgegkkjbaaGreatDoor

namespace Go.Proofs.YtddhhjgegkkjbaaGreatDoor
open Go.RowKit

theorem BytesAt.uniq {w : World} {v : Value} {xs ys : List Int} (h : BytesAt w v xs) (k : BytesAt w v ys) : xs = ys := by
  obtain ⟨ao, cap, rfl, _, _, hc⟩ := h
  obtain ⟨ao', cap', he, _, _, hc'⟩ := k
  injection he with e1 e2 e3
  subst e1
  by_cases h0 : xs = []
  · subst h0
    exact (List.eq_nil_of_length_eq_zero e2.symm).symm
  · have h0' : ys ≠ [] := fun e => by
      rw [e] at e2
      exact h0 (List.eq_nil_of_length_eq_zero e2)
    obtain ⟨b, off, rfl, hh⟩ := hc h0
    obtain ⟨b', off', he, hh'⟩ := hc' h0'
    injection he with he
    injection he with h1 h2 _
    subst h1 h2
    refine List.ext_getElem e2 fun i hi hi' => ?_
    have q1 := hh i _ (List.getElem?_eq_getElem hi)
    have q2 := hh' i _ (List.getElem?_eq_getElem hi')
    rw [q1] at q2
    injection q2 with q2
    injection q2
theorem owns_lower {w : World} {B B' : Nat} {e : TypeId} {k : Nat} {v : Value} {n : Nat} {xs : List Value} (h : w.ownsRow B e k v n xs) (hB : B' ≤ B) : w.ownsRow B' e k v n xs := by
  obtain ⟨hl, h1 | ⟨g, cap, cur, hv, h2, rest⟩⟩ := h
  · exact ⟨hl, Or.inl h1⟩
  · exact ⟨hl, Or.inr ⟨g, cap, cur, hv, Nat.le_trans hB h2, rest⟩⟩
/-- What an iterator does that hands x only where 'G x A B' holds: in A the caller's word held, B is the world in which x is handed. -/
def SeqG {α : Type} (F : Fence) (n : Nat) (P : Program) (g : Nat) (lb : Array Value) (encs : α → Array Value) (Kp : World → World → Prop) (G : α → World → World → Prop) (S Sp : List α → Prop) (N : Nat) (w : World) : Prop :=
  ∀ (l : Nat) (J Jx : List α → World → Prop) (W : World), Below w.heap.size w W → AbidesFrom W.heap.size J → AbidesFrom W.heap.size Jx →
    (∀ pre x A B, J pre A → G x A B → pre.length < N → YieldAt F (n - 1) P l (encs x) B fun e W' =>
      (e = .returned (.bool true) ∧ J (pre ++ [x]) W' ∧ Kp B W') ∨ (e = .returned (.bool false) ∧ Jx (pre ++ [x]) W')) →
    J [] W →
    CallsIn F n P g (#[.func (.yield l) #[] #[]] ++ lb) W fun e W' => (∃ v, e = .returned v) ∧ ((∃ xs, S xs ∧ J xs W') ∨ (∃ pre, Sp pre ∧ Jx pre W'))
/-- A loop's record, in one of its states. -/
def recAt (fn : FuncId) (tm : Array Value) (ps : Array Tmp) (assign body : Code) (dd : Nat) (st : LoopState) (pe : Option Code) : Loop := { state := st, pending := pe, fn := fn, tmps := tm, params := ps, assign := assign, body := body, defers := dd }
section
variable {α : Type} {F : Fence} {n : Nat} {P : Program} {ps : Array Tmp} {assign body : Code} {tm : Array Value} {fn : FuncId} {dd l B : Nat} {encs : α → Array Value} {Kp : World → World → Prop} {G : α → World → World → Prop} {N : Nat} {X : World → Prop} {I : List α → World → Prop} {Ix : Code → List α → World → Prop} {Ax : List α → α → Act → World → Prop}
/-- What a law keeps beside its own word: the record and X. -/
def BkG (fn : FuncId) (tm : Array Value) (ps : Array Tmp) (assign body : Code) (dd l : Nat) (X : World → Prop) (st : LoopState) (pe : Option Code) (W : World) : Prop := W.heap[l]? = some (.loop (recAt fn tm ps assign body dd st pe)) ∧ X W
theorem BkG.turn {st st' : LoopState} {pe pe' : Option Code} {W : World} (hXp : ∀ A o, X A → X (A.putObj l o)) (h : BkG fn tm ps assign body dd l X st pe W) : BkG fn tm ps assign body dd l X st' pe' (W.putObj l (.loop (recAt fn tm ps assign body dd st' pe'))) :=
  ⟨World.putObj_heap_same (lt_of_block h.1), hXp _ _ h.2⟩
end
end Go.Proofs.YtddhhjgegkkjbaaGreatDoor

namespace Go.Proofs.YtddhhjgegkkjbaaGreatDoor
open Go.RowKit

def tlB (xs : List Int) (k : Nat) (lo hi : Int) : Bool := decide (k < xs.length) && decide (lo ≤ xs.getD k 0) && decide (xs.getD k 0 ≤ hi)
/-- How many bytes the sign at the front takes; 0: none is there. -/
def signN (xs : List Int) : Nat :=
  if xs.getD 0 0 < 128 then 1
  else if 194 ≤ xs.getD 0 0 ∧ xs.getD 0 0 ≤ 223 then (if tlB xs 1 128 191 = true then 2 else 0)
  else if 224 ≤ xs.getD 0 0 ∧ xs.getD 0 0 ≤ 239 then (if tlB xs 1 (if xs.getD 0 0 = 224 then 160 else 128) (if xs.getD 0 0 = 237 then 159 else 191) = true ∧ tlB xs 2 128 191 = true then 3 else 0)
  else if 240 ≤ xs.getD 0 0 ∧ xs.getD 0 0 ≤ 244 then (if tlB xs 1 (if xs.getD 0 0 = 240 then 144 else 128) (if xs.getD 0 0 = 244 then 143 else 191) = true ∧ tlB xs 2 128 191 = true ∧ tlB xs 3 128 191 = true then 4 else 0)
  else 0

/-- A sign's bytes behind its first are above 127, and it lies within the text. -/
theorem sign_high (xs : List Int) (h : signN xs ≠ 0) (hne : 0 < xs.length) : signN xs ≤ xs.length ∧ ∀ k, 1 ≤ k → k < signN xs → 128 ≤ xs.getD k 0 := by
  have ht : ∀ k lo hi, 128 ≤ lo → tlB xs k lo hi = true → k < xs.length ∧ 128 ≤ xs.getD k 0 := by
    intro k lo hi hlo hb
    unfold tlB at hb
    simp only [Bool.and_eq_true, decide_eq_true_eq] at hb
    omega
  have hi1 : ∀ c : Int, (128 : Int) ≤ (if c = 224 then 160 else 128) := fun c => by split <;> omega
  have hi2 : ∀ c : Int, (128 : Int) ≤ (if c = 240 then 144 else 128) := fun c => by split <;> omega
  unfold signN at h ⊢
  by_cases c0 : xs.getD 0 0 < 128
  · rw [if_pos c0]
    exact ⟨by omega, fun k h1 h2 => by omega⟩
  rw [if_neg c0] at h ⊢
  by_cases c1 : 194 ≤ xs.getD 0 0 ∧ xs.getD 0 0 ≤ 223
  · rw [if_pos c1] at h ⊢
    by_cases d1 : tlB xs 1 128 191 = true
    · rw [if_pos d1]
      have a1 := ht 1 _ _ (by omega) d1
      refine ⟨by omega, fun k h1 h2 => ?_⟩
      obtain rfl : k = 1 := by omega
      exact a1.2
    · rw [if_neg d1] at h
      exact absurd rfl h
  rw [if_neg c1] at h ⊢
  by_cases c2 : 224 ≤ xs.getD 0 0 ∧ xs.getD 0 0 ≤ 239
  · rw [if_pos c2] at h ⊢
    by_cases d1 : tlB xs 1 (if xs.getD 0 0 = 224 then 160 else 128) (if xs.getD 0 0 = 237 then 159 else 191) = true ∧ tlB xs 2 128 191 = true
    · rw [if_pos d1]
      have a1 := ht 1 _ _ (hi1 _) d1.1
      have a2 := ht 2 _ _ (by omega) d1.2
      refine ⟨by omega, fun k h1 h2 => ?_⟩
      rcases (by omega : k = 1 ∨ k = 2) with rfl | rfl
      · exact a1.2
      · exact a2.2
    · rw [if_neg d1] at h
      exact absurd rfl h
  rw [if_neg c2] at h ⊢
  by_cases c3 : 240 ≤ xs.getD 0 0 ∧ xs.getD 0 0 ≤ 244
  · rw [if_pos c3] at h ⊢
    by_cases d1 : tlB xs 1 (if xs.getD 0 0 = 240 then 144 else 128) (if xs.getD 0 0 = 244 then 143 else 191) = true ∧ tlB xs 2 128 191 = true ∧ tlB xs 3 128 191 = true
    · rw [if_pos d1]
      have a1 := ht 1 _ _ (hi2 _) d1.1
      have a2 := ht 2 _ _ (by omega) d1.2.1
      have a3 := ht 3 _ _ (by omega) d1.2.2
      refine ⟨by omega, fun k h1 h2 => ?_⟩
      rcases (by omega : k = 1 ∨ k = 2 ∨ k = 3) with rfl | rfl | rfl
      · exact a1.2
      · exact a2.2
      · exact a3.2
    · rw [if_neg d1] at h
      exact absurd rfl h
  rw [if_neg c3] at h
  exact absurd rfl h

/-- The document's own reading of a line from a place on: sign by sign. -/
def lineW : Nat → List Int → Bool
  | 0, _ => true
  | f + 1, xs => if xs = [] then true else if signN xs = 0 ∨ okByte (xs.getD 0 0) = false then false else lineW f (xs.drop (signN xs))
end Go.Proofs.YtddhhjgegkkjbaaGreatDoor

namespace Go.Proofs.YtddhhjgegkkjbaaGreatDoor
open Go.RowKit

theorem getD_drop (xs : List Int) (k j : Nat) : (xs.drop k).getD j 0 = xs.getD (k + j) 0 := by
  rw [List.getD_eq_getElem?_getD, List.getD_eq_getElem?_getD, List.getElem?_drop]
end Go.Proofs.YtddhhjgegkkjbaaGreatDoor

namespace Go.Proofs.YtddhhjgegkkjbaaGreatDoor
open Go.RowKit

/-- What is left of a line to be read, behind k bytes. -/
def LRun (xs : List Int) (k : Nat) : Prop := ∃ f, (xs.drop k).length ≤ f ∧ lineW xs.length xs = lineW f (xs.drop k)
theorem LRun.start (xs : List Int) : LRun xs 0 := ⟨xs.length, by simp, by simp⟩
theorem LRun.bad {xs : List Int} {k : Nat} (h : LRun xs k) (hk : k < xs.length) (hb : signN (xs.drop k) = 0 ∨ okByte (xs.getD k 0) = false) : lineW xs.length xs = false := by
  obtain ⟨f, hf, e⟩ := h
  rw [List.length_drop] at hf
  rw [e]
  cases f with
  | zero => omega
  | succ f =>
    have hne : xs.drop k ≠ [] := by
      intro h0
      have := congrArg List.length h0
      rw [List.length_drop] at this
      simp at this
      omega
    unfold lineW
    rw [if_neg hne, getD_drop, Nat.add_zero, if_pos hb]
theorem LRun.on {xs : List Int} {k : Nat} (h : LRun xs k) (hk : k < xs.length) (hs : signN (xs.drop k) ≠ 0) (hb : okByte (xs.getD k 0) = true) : LRun xs (k + signN (xs.drop k)) ∧ k + signN (xs.drop k) ≤ xs.length := by
  obtain ⟨f, hf, e⟩ := h
  rw [List.length_drop] at hf
  have hp : 0 < (xs.drop k).length := by rw [List.length_drop]; omega
  have h3 := (sign_high (xs.drop k) hs hp).1
  rw [List.length_drop] at h3
  cases f with
  | zero => omega
  | succ f =>
    have hne : xs.drop k ≠ [] := List.length_pos_iff.1 hp
    refine ⟨⟨f, by rw [List.length_drop]; omega, ?_⟩, by omega⟩
    rw [e]
    conv => lhs; unfold lineW
    rw [if_neg hne, getD_drop, Nat.add_zero, if_neg (by rintro (h | h); · exact hs h
                                                        · rw [hb] at h; cases h), List.drop_drop]
end Go.Proofs.YtddhhjgegkkjbaaGreatDoor
