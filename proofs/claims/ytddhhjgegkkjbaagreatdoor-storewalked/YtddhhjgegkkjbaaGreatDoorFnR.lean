/-
  THE LIBRARY's CONTRACTS that are used here, laid at this program in plain words (by the guide's lay-plain): the table of numbers, and a field a fact.
  The store's rows SORTED: slices.SortFunc at them.
  A list of structs that the library's sort has sorted, in plain words. No Go text is named here.
  Rows of cells loaded and stored within a fence (a range over a function is walked there). No Go text is named here.
-/
import Derived.Test.YtddhhjgegkkjbaaGreatDoorChecked
import Derived.Shelf.SlLaysF0
import Derived.Test.YtddhhjgegkkjbaaGreatDoorShelf
import Derived.Shelf.SlSortCmp.WholeK
import Derived.Test.YtddhhjgegkkjbaaGreatDoorQuietId
import Derived.Shelf.SlSortCmp.InsertionK
import Derived.Test.YtddhhjgegkkjbaaGreatDoorPlain
import Derived.RangeFuncNested
import Derived.RangeFuncBound
import Derived.RangeFuncCalls
import Derived.RangeFuncLeaves
import Derived.Shelf.Abstract
import Derived.Shelf.RegionOpen
import Derived.OwnWalkIn
import Derived.TacticsInMore
import Derived.LoopNIn
import Derived.LoopIn
import Derived.Deep.WholeRow
namespace Go.Proofs
open Go.Shelf
def Tryz.sortRow_ren : Go.Shelf.Ren := ⟨fun | 6 => 36 | 15 => 56 | 14 => 55 | 28 => 77 | 29 => 78 | 20 => 69 | 21 => 70 | 22 => 71 | 23 => 72 | 24 => 73 | 25 => 74 | 26 => 75 | 27 => 76 | 46 => 91 | 47 => 92 | 48 => 93 | 49 => 94 | 50 => 95 | 57 => 104 | n => n, fun | 22 => 65 | 24 => 68 | 25 => 87 | 3 => 3 | 39 => 92 | 0 => 0 | 53 => 109 | 55 => 55 | 4 => 4 | 46 => 133 | 45 => 132 | 50 => 137 | 5 => 5 | 9 => 9 | 66 => 154 | 70 => 157 | 76 => 163 | 77 => 164 | n => n, fun | n => n⟩
theorem Tryz.sortRow : Go.Proofs.SlLaysF0.n6 Tryz.prog Tryz.sortRow_ren := {
  mixed := by kernel_rfl
  f6 := ⟨Tryz.f36.name, by decide, Tryz.func36.trans (congrArg some (by kernel_rfl))⟩
  f14 := ⟨Tryz.f55.name, by decide, Tryz.func55.trans (congrArg some (by kernel_rfl))⟩
  f15 := Tryz.func56.trans (congrArg some (by kernel_rfl))
  f20 := ⟨Tryz.f69.name, by decide, Tryz.func69.trans (congrArg some (by kernel_rfl))⟩
  f21 := ⟨Tryz.f70.name, by decide, Tryz.func70.trans (congrArg some (by kernel_rfl))⟩
  f22 := ⟨Tryz.f71.name, by decide, Tryz.func71.trans (congrArg some (by kernel_rfl))⟩
  f23 := ⟨Tryz.f72.name, by decide, Tryz.func72.trans (congrArg some (by kernel_rfl))⟩
  f24 := ⟨Tryz.f73.name, by decide, Tryz.func73.trans (congrArg some (by kernel_rfl))⟩
  f25 := ⟨Tryz.f74.name, by decide, Tryz.func74.trans (congrArg some (by kernel_rfl))⟩
  f26 := ⟨Tryz.f75.name, by decide, Tryz.func75.trans (congrArg some (by kernel_rfl))⟩
  f27 := ⟨Tryz.f76.name, by decide, Tryz.func76.trans (congrArg some (by kernel_rfl))⟩
  f28 := Tryz.func77.trans (congrArg some (by kernel_rfl))
  f29 := Tryz.func78.trans (congrArg some (by kernel_rfl))
  f46 := ⟨Tryz.f91.name, by decide, Tryz.func91.trans (congrArg some (by kernel_rfl))⟩
  f47 := Tryz.func92.trans (congrArg some (by kernel_rfl))
  f48 := Tryz.func93.trans (congrArg some (by kernel_rfl))
  f49 := ⟨Tryz.f94.name, by decide, Tryz.func94.trans (congrArg some (by kernel_rfl))⟩
  f50 := ⟨Tryz.f95.name, by decide, Tryz.func95.trans (congrArg some (by kernel_rfl))⟩
  f57 := ⟨Tryz.f104.name, by decide, Tryz.func104.trans (congrArg some (by kernel_rfl))⟩
  t0 := Tryz.underlying0
  a0 := Tryz.isAgg0
  z0 := Tryz.sizeOf0
  v0 := Tryz.zeroValue0
  t3 := Tryz.underlying3
  a3 := Tryz.isAgg3
  z3 := Tryz.sizeOf3
  v3 := Tryz.zeroValue3
  t4 := Tryz.underlying4
  a4 := Tryz.isAgg4
  z4 := Tryz.sizeOf4
  v4 := Tryz.zeroValue4
  t5 := Tryz.underlying5
  a5 := Tryz.isAgg5
  z5 := Tryz.sizeOf5
  v5 := Tryz.zeroValue5
  t9 := Tryz.underlying9
  a9 := Tryz.isAgg9
  z9 := Tryz.sizeOf9
  v9 := Tryz.zeroValue9
  t22 := Tryz.underlying65
  a22 := Tryz.isAgg65
  z22 := Tryz.sizeOf65
  v22 := Tryz.zeroValue65
  t25 := Tryz.underlying87
  a25 := Tryz.isAgg87
  z25 := Tryz.sizeOf87
  v25 := Tryz.zeroValue87
  t39 := Tryz.underlying92
  a39 := Tryz.isAgg92
  z39 := Tryz.sizeOf92
  v39 := Tryz.zeroValue92
  t45 := Tryz.underlying132
  a45 := Tryz.isAgg132
  z45 := Tryz.sizeOf132
  v45 := Tryz.zeroValue132
  t46 := Tryz.underlying133
  a46 := Tryz.isAgg133
  z46 := Tryz.sizeOf133
  v46 := Tryz.zeroValue133
  t50 := Tryz.underlying137
  a50 := Tryz.isAgg137
  z50 := Tryz.sizeOf137
  v50 := Tryz.zeroValue137
  t53 := Tryz.underlying109
  a53 := Tryz.isAgg109
  z53 := Tryz.sizeOf109
  v53 := Tryz.zeroValue109
  t55 := Tryz.underlying55
  a55 := Tryz.isAgg55
  z55 := Tryz.sizeOf55
  v55 := Tryz.zeroValue55
  t66 := Tryz.underlying154
  a66 := Tryz.isAgg154
  z66 := Tryz.sizeOf154
  v66 := Tryz.zeroValue154
  t70 := Tryz.underlying157
  a70 := Tryz.isAgg157
  z70 := Tryz.sizeOf157
  v70 := Tryz.zeroValue157
  t76 := Tryz.underlying163
  a76 := Tryz.isAgg163
  z76 := Tryz.sizeOf163
  v76 := Tryz.zeroValue163
  t77 := Tryz.underlying164
  a77 := Tryz.isAgg164
  z77 := Tryz.sizeOf164
  v77 := Tryz.zeroValue164 }
end Go.Proofs

namespace Go.Proofs.YtddhhjgegkkjbaaGreatDoor
open Go.RowKit Go.Shelf Go.Lib Go.Sort

theorem Tryz.aggRow (w : World) : (isAgg 68).run Tryz.prog w = .ok true w := Tryz.isAgg68 w
theorem Tryz.sizeRow (w : World) : (Go.sizeOf 68).run Tryz.prog w = .ok 33 w := Tryz.sizeOf68 w
theorem sortRows_any (blk off cap : Nat) (d : Array RowE) (w : World) (hH : HoldsK encRow 33 w blk off d) (hblk : blk < w.heap.size) (hsz : d.size < 4611686018427387904) :
    Calls Tryz.prog 36 #[.slice (some ⟨blk, off, none⟩) d.size cap, .func (.func 37) #[] #[]] w fun e w' =>
      e = .returned (.tuple #[]) ∧ ∃ d' n os, PermIn 0 d.size d d' ∧ SortedIn (ltOf fun x y : RowE => cmpB x.xs y.xs) 0 d.size d' ∧ w' = sortWorldK encRow 33 w blk off n d' os :=
  AnyQ.slices_SortFunc Tryz.sortRow 33 Tryz.aggRow Tryz.sizeRow encRow encRow_len encRow_one (fun x y => cmpB x.xs y.xs) rowSWO 37 #[] blk off cap d w
    (enters_of Tryz.func37 (by kernel_rfl) rfl) (rowLays blk off d.size w) hH hblk hsz
end Go.Proofs.YtddhhjgegkkjbaaGreatDoor

namespace Go.Proofs.YtddhhjgegkkjbaaGreatDoor
open Go.RowKit Go.Shelf Go.Lib Go.Sort
section
variable {α : Type} [Inhabited α]
theorem perm_of_in {d d' : Array α} (h : PermIn 0 d.size d d') : d'.toList.Perm d.toList := by
  obtain ⟨h1, _, h3⟩ := h
  have e1 : d'.extract 0 d.size = d' := by rw [← h1]; exact Array.extract_size
  have e2 : d.extract 0 d.size = d := Array.extract_size
  rw [e1, e2] at h3
  exact h3
theorem sorted_of_in {lt : α → α → Bool} {d : Array α} {n : Nat} (hn : n = d.size) (h : SortedIn lt 0 n d) : d.toList.Pairwise (fun a b => lt b a = false) := by
  rw [List.pairwise_iff_getElem]
  intro i j hi hj hij
  have hi' : i < d.size := by simpa using hi
  have hj' : j < d.size := by simpa using hj
  have := h i j (Nat.zero_le _) hij (by omega)
  rw [getElem!_pos d i hi', getElem!_pos d j hj'] at this
  simpa using this
theorem sortK_heap (enc : α → List Value) (k : Nat) (w : World) (blk n : Nat) (d : Array α) (os : Array Obj) {c : Array Value} {t : TypeId} {fr : Nat × Nat} (h : w.heap[blk]? = some (.cells c t fr)) : ∃ c', (sortWorldK enc k w blk 0 n d os).heap[blk]? = some (.cells c' t fr) := by
  have hlt := lt_of_block h
  refine ⟨putCells id 0 (flatK enc k d) c, ?_⟩
  show (grow (putRow id (Sort.ahead w n) blk 0 (flatK enc k d)) os).heap[blk]? = _
  have e : (putRow id (Sort.ahead w n) blk 0 (flatK enc k d)).heap.size = w.heap.size := by simp [putRow, mapBlock, Sort.ahead]
  rw [heap_grow_old _ _ (by rw [e]; exact hlt)]
  show (w.heap.modify blk (onCells _))[blk]? = _
  rw [Array.getElem?_modify, if_pos rfl, h]
  rfl
theorem sortK_kept (enc : α → List Value) (k : Nat) (w : World) (blk n : Nat) (d : Array α) (os : Array Obj) : Kept [blk] w (sortWorldK enc k w blk 0 n d os) := by
  have e : (putRow id (Sort.ahead w n) blk 0 (flatK enc k d)).heap.size = w.heap.size := by simp [putRow, mapBlock, Sort.ahead]
  refine ⟨rfl, rfl, rfl, ?_, fun i hi hn => ?_⟩
  · show w.heap.size ≤ (grow (putRow id (Sort.ahead w n) blk 0 (flatK enc k d)) os).heap.size
    rw [size_grow, e]
    omega
  · show (grow (putRow id (Sort.ahead w n) blk 0 (flatK enc k d)) os).heap[i]? = _
    rw [heap_grow_old _ _ (by rw [e]; exact hi)]
    show (w.heap.modify blk (onCells _))[i]? = _
    rw [Array.getElem?_modify, if_neg (fun e => hn (by simp [e]))]
theorem holdsK_own {enc : α → List Value} {k : Nat} (hk : ∀ x, (enc x).length = k) (h0 : 0 < k) {w : World} {B g cap : Nat} {t : TypeId} {L : List α} (h : w.ownsRow B t k (.slice (some ⟨g, 0, none⟩) L.length cap) L.length (L.map enc).flatten) : HoldsK enc k w g 0 L.toArray ∧ ∃ c, w.heap[g]? = some (.cells c t (0, 0)) := by
  obtain ⟨hl, ⟨hv, _⟩ | ⟨g', cap', cur, hv, hB, hg, h1, h2, h3, h4⟩⟩ := h
  · cases hv
  · injection hv with hv1 hv2 hv3
    injection hv1 with hv1
    injection hv1 with hv1 _ _
    subst hv1
    refine ⟨fun j hj => ?_, _, hg⟩
    have hj2 : j < L.length * k := by simpa using hj
    have hr : ∀ r, r ∈ L.map enc → r.length = k := fun r hr => by
      obtain ⟨x, _, rfl⟩ := List.mem_map.1 hr
      exact hk x
    have hi : j / k < L.length := Nat.div_lt_of_lt_mul (by rw [Nat.mul_comm]; exact hj2)
    have hm : j % k < k := Nat.mod_lt _ h0
    have e1 : (L.map enc).flatten[j]? = some (enc L[j / k])[j % k]! := by
      rw [flat_bind k h0 _ hr, List.getElem?_map, List.getElem?_eq_getElem hi]
      show (enc L[j / k])[j % k]? = _
      rw [List.getElem?_eq_getElem (by rw [hk]; exact hm), getElem!_pos _ _ (by rw [hk]; exact hm)]
    rw [cell_of_row _ _ _ _ _ _ hg, frozen_of_row _ _ _ _ _ hg]
    refine ⟨?_, rfl⟩
    rw [Nat.zero_add, get_flatK _ _ _ _ (by simpa using hj2)]
    rw [← h4, List.getElem?_take_of_lt (by exact hj2)] at e1
    rw [← Array.getElem?_toList, e1]
    simp [hi]
theorem rows_of_holdsK {enc : α → List Value} {k : Nat} (hk : ∀ x, (enc x).length = k) {w : World} {g : Nat} {d : Array α} (h : HoldsK enc k w g 0 d) : ∀ i x, d.toList[i]? = some x → w.rangeAt g (i * k) (enc x) := fun i x hx j v hv => by
  have hi : i < d.size := by simpa using (List.getElem?_eq_some_iff.1 hx).1
  have hj : j < k := by rw [← hk x]; exact (List.getElem?_eq_some_iff.1 hv).1
  have h1 := (h.cell hi hj).1
  rw [Nat.zero_add] at h1
  rw [h1]
  have e : d[i]! = x := by
    rw [getElem!_pos d i hi]
    have := List.getElem?_eq_some_iff.1 hx
    simpa using this.2
  rw [e, getElem!_pos _ _ (by rw [hk]; exact hj)]
  obtain ⟨_, h2⟩ := List.getElem?_eq_some_iff.1 hv
  rw [h2]
end
end Go.Proofs.YtddhhjgegkkjbaaGreatDoor

namespace Go.Proofs.YtddhhjgegkkjbaaGreatDoor
open Go.RowKit Go.Shelf

section
variable {F : Fence} {n : Nat} {P : Program} {ops : Array Oper} {rest : List Oper} {op : Oper} {a : Act} {w : World} {K : Act → World → Prop} {Q : Exit → Act → World → Prop}
theorem opIn_load_mid (d' : Option Tmp) (hd' : op.dst = d') (ty : TypeId) (x : Operand) (ho : op.op = .load ty x) (b o : Nat) (hx : a.eval x = .pointer (some ⟨b, o, none⟩)) (cs : List Value) (d : TypeDesc) (hc : w.rangeAt b o cs)
    (hu : P.underlying ty = some d) (hd : d.isRow = true) (hi : (P.info? ty).map (·.size) = some cs.length) (h : K (a.put d' (.agg cs.toArray)) w) : op.wpIn F n P a w K Q := by
  subst hd'
  unfold Oper.wpIn
  refine ⟨by simp [Oper.about, ho], ?_⟩
  rw [Oper.semAt_plain F _ _ (by rw [ho]; intro c hc'; cases hc')]
  unfold execOp
  simp only [ho, hx, Instr.loadAt, Instr.sureAddr, Sem.run_bind, Sem.run_pure, Result.andThen_ok, run_loadVar_mid w b o ty cs d hc hu hd hi]
  exact h
theorem opIn_load_run (d' : Option Tmp) (hd' : op.dst = d') (ty : TypeId) (x : Operand) (ho : op.op = .load ty x) (p : Addr) (hx : a.eval x = .pointer (some p)) (v : Value) (hr : (loadVar ty p).run P w = .ok v w) (h : K (a.put d' v) w) : op.wpIn F n P a w K Q := by
  subst hd'
  unfold Oper.wpIn
  refine ⟨by simp [Oper.about, ho], ?_⟩
  rw [Oper.semAt_plain F _ _ (by rw [ho]; intro c hc'; cases hc')]
  unfold execOp
  simp only [ho, hx, Instr.loadAt, Instr.sureAddr, Sem.run_bind, Sem.run_pure, Result.andThen_ok, hr]
  exact h
theorem opIn_call (d' : Option Tmp) (hd' : op.dst = d') {f : Nat} {xs : Array Operand} {ts : Array TypeId} (ho : op.op = .call { callee := .value (.func f), args := xs, argTypes := ts }) (vs : Array Value) (hv : xs.map a.eval = vs) (eg : ∀ args w, (callFunc f args).run P w = .ok (.enter f args) w) {R : Ending → World → Prop} (hc : Calls P f vs w R)
    (h : ∀ e w', R e w' → ∃ v, e = .returned v ∧ K (a.put d' v) w') : op.wpIn Fence.wide n P a w K Q := by
  subst hd'
  unfold Oper.wpIn
  refine ⟨fun _ _ => trivial, ?_⟩
  rw [Oper.semAt_plain Fence.wide _ _ (by rw [ho]; intro c hc'; cases hc')]
  have e1 : (execOp a.eval op).run P w = .ok (.enter f vs) w := by
    unfold execOp
    simp only [ho, resolve, Act.eval, Deferred.ofValue, Sem.run_bind, Sem.run_pure, Result.andThen_ok, invoke, hv, eg, Array.append_empty, Array.empty_append]
  rw [e1]
  refine ⟨fun h => (by cases h), (callsIn_wide.2 hc).mono fun e w' he => ?_⟩
  obtain ⟨v, rfl, hK⟩ := h e w' he
  exact hK
theorem opIn_yield (d' : Option Tmp) (hd' : op.dst = d') {l : Nat} {x : Operand} {xs : Array Operand} {ts : Array TypeId} (ho : op.op = .call { callee := .value x, args := xs, argTypes := ts }) (hx : a.eval x = .func (.yield l) #[] #[]) (vs : Array Value) (hv : xs.map a.eval = vs) {R : Ending → World → Prop} (hy : YieldAt Fence.wide (n - 1) P l vs w R)
    (h : ∀ e w', R e w' → ∃ v, e = .returned v ∧ K (a.put d' v) w') : op.wpIn Fence.wide n P a w K Q := by
  subst hd'
  obtain ⟨fn, tmps, assign, body, hy, hR⟩ := hy
  unfold Oper.wpIn
  refine ⟨fun _ _ => trivial, ?_⟩
  rw [Oper.semAt_plain Fence.wide _ _ (by rw [ho]; intro c hc'; cases hc')]
  have e1 : (execOp a.eval op).run P w = .ok (.round l fn tmps assign body) w := by
    unfold execOp
    simp only [ho, resolve, hx, Deferred.ofValue, Sem.run_bind, Sem.run_pure, Result.andThen_ok, invoke, hv, hy, Array.empty_append]
  rw [e1]
  refine ⟨fun h => (by cases h), hR.mono fun e w' he => ?_⟩
  obtain ⟨v, rfl, hK⟩ := h e w' he
  exact hK
theorem listIn_load_mid (hgd : op.guard = none) (ty : TypeId) (x : Operand) (ho : op.op = .load ty x) (b o : Nat) (hx : a.eval x = .pointer (some ⟨b, o, none⟩)) (cs : List Value) (d : TypeDesc) (hc : w.rangeAt b o cs)
    (hu : P.underlying ty = some d) (hd : d.isRow = true) (hi : (P.info? ty).map (·.size) = some cs.length) (h : wpListIn F n P ops Q rest (a.put op.dst (.agg cs.toArray)) w) : wpListIn F n P ops Q (op :: rest) a w :=
  wpListIn_plain hgd fun _ hK => opIn_load_mid _ rfl ty x ho b o hx cs d hc hu hd hi (hK _ _ h)
theorem listIn_slice_k (hgd : op.guard = none) (t e : TypeId) (x : Operand) (ho : op.op = .buildSlice t 1 #[(0, x)]) (us : List Value) (hx : a.eval x = .agg us.toArray)
    (hr : ∀ W : World, (Instr.buildSlice t 1 #[(0, .agg us.toArray)]).run P W = .ok (.slice (some ⟨W.heap.size, 0, none⟩) 1 1) (W.alloc (.cells us.toArray e)))
    (h : wpListIn F n P ops Q rest (a.put op.dst (.slice (some ⟨w.heap.size, 0, none⟩) 1 1)) (w.alloc (.cells us.toArray e))) : wpListIn F n P ops Q (op :: rest) a w := by
  refine wpListIn_plain hgd fun K hK => ?_
  unfold Oper.wpIn
  refine ⟨by simp [Oper.about, ho], ?_⟩
  rw [Oper.semAt_plain F _ _ (by rw [ho]; intro c hc'; cases hc')]
  unfold execOp
  simp [ho, hx, hr, Result.andThen]
  exact hK _ _ h
theorem listIn_store_row (hgd : op.guard = none) (ty : TypeId) (x y : Operand) (ho : op.op = .store ty x y) (g : Nat) (cells : Array Value) (hx : a.eval x = .pointer (some ⟨g, 0, none⟩)) (hy : a.eval y = .agg cells)
    (t : TypeId) (old : Array Value) (hg : w.heap[g]? = some (.cells old t (0, 0))) (hi : (P.info? ty).map (·.size) = some cells.size) (hold : old.size = cells.size) (h1 : cells.all (·.oneCell') = true)
    (h : wpListIn F n P ops Q rest (a.put op.dst undef) (w.setRow g cells)) : wpListIn F n P ops Q (op :: rest) a w := by
  refine wpListIn_plain hgd fun K hK => ?_
  unfold Oper.wpIn
  refine ⟨by simp [Oper.about, ho], ?_⟩
  rw [Oper.semAt_plain F _ _ (by rw [ho]; intro c hc'; cases hc')]
  unfold execOp
  simp only [ho, hx, hy, Instr.storeAt, Instr.sureAddr, Sem.run_bind, Sem.run_pure, Result.andThen_ok, run_storeVar_row w g t ty old cells hg hi hold h1]
  exact hK _ _ h
theorem listIn_store_new (hgd : op.guard = none) (ty : TypeId) (x y : Operand) (ho : op.op = .store ty x y) (w0 : World) (old cells : Array Value) (hx : a.eval x = .pointer (some ⟨w0.heap.size, 0, none⟩)) (hy : a.eval y = .agg cells)
    (hi : (P.info? ty).map (·.size) = some cells.size) (hold : old.size = cells.size) (h1 : cells.all (·.oneCell') = true)
    (h : wpListIn F n P ops Q rest (a.put op.dst undef) (w0.alloc (.cells cells ty))) : wpListIn F n P ops Q (op :: rest) a (w0.alloc (.cells old ty)) := by
  refine listIn_store_row hgd ty x y ho w0.heap.size cells hx hy ty old (heap_alloc_new w0 _) hi hold h1 ?_
  rw [World.setRow_alloc_new]
  exact h
end
/-- What a law of a range turns by itself: no cells, and nothing old. -/
def TurnsNone (B : Nat) (W W' : World) (row : Option Nat) : Prop := W.grownBy W' row ∧ ∀ r, row = some r → B ≤ r ∧ ∃ o : Obj, W.heap[r]? = some o ∧ o.isCells = false
theorem TurnsNone.cells {B : Nat} {W W' : World} {row : Option Nat} (h : TurnsNone B W W' row) {k : Nat} {c : Array Value} {t : TypeId} {fr : Nat × Nat} (hk : W.heap[k]? = some (.cells c t fr)) : W'.heap[k]? = some (.cells c t fr) :=
  (h.1.block k (lt_of_block hk) (fun e => by
    obtain ⟨_, o, ho, hc⟩ := h.2 k e.symm
    rw [hk] at ho
    injection ho with ho
    subst ho
    cases hc)).trans hk
theorem TurnsNone.kept {B : Nat} {w W W' : World} {row : Option Nat} (h : TurnsNone B W W' row) (k : Kept [] w W) (hB : w.heap.size ≤ B) : Kept [] w W' :=
  k.grown h.1 (fun r e => Or.inr (by have := (h.2 r e).1; omega))
theorem TurnsNone.owns {B b0 : Nat} {W W' : World} {row : Option Nat} (h : TurnsNone B W W' row) {e : TypeId} {k : Nat} {v : Value} {n : Nat} {xs : List Value} (ho : W.ownsRow b0 e k v n xs) : W'.ownsRow b0 e k v n xs := by
  obtain ⟨hl, h1 | ⟨g, cap, cur, hv, hB, hg, h1, h2, h3, h4⟩⟩ := ho
  · exact ⟨hl, Or.inl h1⟩
  · exact ⟨hl, Or.inr ⟨g, cap, cur, hv, hB, h.cells hg, h1, h2, h3, h4⟩⟩
/-- A step that writes to cells alone keeps what is no cells. -/
theorem Kept.others {S : List Nat} {W W' : World} (k : Kept S W W') (hS : ∀ x, x ∈ S → ∃ c t fr, W.heap[x]? = some (.cells c t fr)) (B : Nat) : KeepsFrom B W W' :=
  ⟨k.size, fun i o _ hi ho => (k.block i (Array.getElem?_eq_some_iff.1 hi).1 (fun hm => by
    obtain ⟨c, t, fr, hx⟩ := hS i hm
    rw [hi] at hx
    injection hx with hx
    subst hx
    cases ho)).trans hi⟩
theorem Kept.grows {w w' : World} (k : Kept [] w w') : w.grownBy w' none := ⟨k.os, k.tape, k.output, k.size, fun i hi _ => k.block i hi (by simp)⟩
end Go.Proofs.YtddhhjgegkkjbaaGreatDoor
