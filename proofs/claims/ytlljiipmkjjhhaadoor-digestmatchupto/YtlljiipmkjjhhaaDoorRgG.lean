/-
  The store's rows as the library's sort takes them.
  THE LIBRARY's CONTRACTS that are used here, laid at this program in plain words (by the guide's lay-plain): the table of numbers, and a field a fact.
  A list of structs that the library's sort has sorted, in plain words. No Go text is named here.
  Rows of cells loaded and stored within a fence (a range over a function is walked there). No Go text is named here.
  A RANGE OVER A FUNCTION whose rounds know what they are handed: the world ahead of the handing and what lies there for the round. No Go text is named here.
-/
import Derived.Test.YtlljiipmkjjhhaaDoorSha1
import Derived.Test.YtlljiipmkjjhhaaDoorCmpO
import Derived.Deep.QuietTactic
import Derived.BigQuiet
import Derived.Shelf.SlSortCmp.InsertionK
import Derived.Test.YtlljiipmkjjhhaaDoorChecked
import Derived.Shelf.SlLaysF0
import Derived.Test.YtlljiipmkjjhhaaDoorRw0
import Derived.Test.YtlljiipmkjjhhaaDoorBase
import Derived.RangeFuncNested
import Derived.RangeFuncBound
import Derived.RangeFuncCalls
import Derived.RangeFuncLeaves
import Derived.Shelf.Abstract
import Derived.Shelf.RegionOpen
import Derived.OwnWalkIn
import Derived.TacticsInMore
import Derived.LoopNIn
import Derived.LoopIn
import Derived.Deep.WholeRow
namespace Go.Proofs.YtlljiipmkjjhhaaDoor
open Go.RowKit Go.Shelf Go.Lib Go.Sort

/-- A row: an id, a slice of bytes. -/
structure RowE where
  xs : List Int
  p : Option Addr
  l : Nat
  c : Nat
  good : GoodID xs
instance : Inhabited RowE := ⟨⟨zero32, none, 0, 0, by simp [zero32], fun x h => by rw [List.eq_of_mem_replicate h]; decide⟩⟩
end Go.Proofs.YtlljiipmkjjhhaaDoor

namespace Go.Proofs
open Go.Shelf
def Tryd.sortId_ren : Go.Shelf.Ren := ⟨fun | 6 => 20 | 15 => 34 | 14 => 33 | 28 => 66 | 29 => 67 | 20 => 58 | 21 => 59 | 22 => 60 | 23 => 61 | 24 => 62 | 25 => 63 | 26 => 64 | 27 => 65 | 46 => 81 | 47 => 82 | 48 => 83 | 49 => 84 | 50 => 85 | 57 => 89 | n => n, fun | 22 => 22 | 24 => 24 | 25 => 39 | 3 => 3 | 39 => 70 | 0 => 0 | 53 => 89 | 55 => 91 | 4 => 4 | 46 => 82 | 45 => 81 | 50 => 86 | 5 => 5 | 9 => 9 | 66 => 128 | 70 => 132 | 76 => 139 | 77 => 140 | n => n, fun | n => n⟩
theorem Tryd.sortId : Go.Proofs.SlLaysF0.n6 Tryd.prog Tryd.sortId_ren := {
  mixed := by kernel_rfl
  f6 := ⟨Tryd.f20.name, by decide, Tryd.func20.trans (congrArg some (by kernel_rfl))⟩
  f14 := ⟨Tryd.f33.name, by decide, Tryd.func33.trans (congrArg some (by kernel_rfl))⟩
  f15 := Tryd.func34.trans (congrArg some (by kernel_rfl))
  f20 := ⟨Tryd.f58.name, by decide, Tryd.func58.trans (congrArg some (by kernel_rfl))⟩
  f21 := ⟨Tryd.f59.name, by decide, Tryd.func59.trans (congrArg some (by kernel_rfl))⟩
  f22 := ⟨Tryd.f60.name, by decide, Tryd.func60.trans (congrArg some (by kernel_rfl))⟩
  f23 := ⟨Tryd.f61.name, by decide, Tryd.func61.trans (congrArg some (by kernel_rfl))⟩
  f24 := ⟨Tryd.f62.name, by decide, Tryd.func62.trans (congrArg some (by kernel_rfl))⟩
  f25 := ⟨Tryd.f63.name, by decide, Tryd.func63.trans (congrArg some (by kernel_rfl))⟩
  f26 := ⟨Tryd.f64.name, by decide, Tryd.func64.trans (congrArg some (by kernel_rfl))⟩
  f27 := ⟨Tryd.f65.name, by decide, Tryd.func65.trans (congrArg some (by kernel_rfl))⟩
  f28 := Tryd.func66.trans (congrArg some (by kernel_rfl))
  f29 := Tryd.func67.trans (congrArg some (by kernel_rfl))
  f46 := ⟨Tryd.f81.name, by decide, Tryd.func81.trans (congrArg some (by kernel_rfl))⟩
  f47 := Tryd.func82.trans (congrArg some (by kernel_rfl))
  f48 := Tryd.func83.trans (congrArg some (by kernel_rfl))
  f49 := ⟨Tryd.f84.name, by decide, Tryd.func84.trans (congrArg some (by kernel_rfl))⟩
  f50 := ⟨Tryd.f85.name, by decide, Tryd.func85.trans (congrArg some (by kernel_rfl))⟩
  f57 := ⟨Tryd.f89.name, by decide, Tryd.func89.trans (congrArg some (by kernel_rfl))⟩
  t0 := Tryd.underlying0
  a0 := Tryd.isAgg0
  z0 := Tryd.sizeOf0
  v0 := Tryd.zeroValue0
  t3 := Tryd.underlying3
  a3 := Tryd.isAgg3
  z3 := Tryd.sizeOf3
  v3 := Tryd.zeroValue3
  t4 := Tryd.underlying4
  a4 := Tryd.isAgg4
  z4 := Tryd.sizeOf4
  v4 := Tryd.zeroValue4
  t5 := Tryd.underlying5
  a5 := Tryd.isAgg5
  z5 := Tryd.sizeOf5
  v5 := Tryd.zeroValue5
  t9 := Tryd.underlying9
  a9 := Tryd.isAgg9
  z9 := Tryd.sizeOf9
  v9 := Tryd.zeroValue9
  t22 := Tryd.underlying22
  a22 := Tryd.isAgg22
  z22 := Tryd.sizeOf22
  v22 := Tryd.zeroValue22
  t25 := Tryd.underlying39
  a25 := Tryd.isAgg39
  z25 := Tryd.sizeOf39
  v25 := Tryd.zeroValue39
  t39 := Tryd.underlying70
  a39 := Tryd.isAgg70
  z39 := Tryd.sizeOf70
  v39 := Tryd.zeroValue70
  t45 := Tryd.underlying81
  a45 := Tryd.isAgg81
  z45 := Tryd.sizeOf81
  v45 := Tryd.zeroValue81
  t46 := Tryd.underlying82
  a46 := Tryd.isAgg82
  z46 := Tryd.sizeOf82
  v46 := Tryd.zeroValue82
  t50 := Tryd.underlying86
  a50 := Tryd.isAgg86
  z50 := Tryd.sizeOf86
  v50 := Tryd.zeroValue86
  t53 := Tryd.underlying89
  a53 := Tryd.isAgg89
  z53 := Tryd.sizeOf89
  v53 := Tryd.zeroValue89
  t55 := Tryd.underlying91
  a55 := Tryd.isAgg91
  z55 := Tryd.sizeOf91
  v55 := Tryd.zeroValue91
  t66 := Tryd.underlying128
  a66 := Tryd.isAgg128
  z66 := Tryd.sizeOf128
  v66 := Tryd.zeroValue128
  t70 := Tryd.underlying132
  a70 := Tryd.isAgg132
  z70 := Tryd.sizeOf132
  v70 := Tryd.zeroValue132
  t76 := Tryd.underlying139
  a76 := Tryd.isAgg139
  z76 := Tryd.sizeOf139
  v76 := Tryd.zeroValue139
  t77 := Tryd.underlying140
  a77 := Tryd.isAgg140
  z77 := Tryd.sizeOf140
  v77 := Tryd.zeroValue140 }
end Go.Proofs

namespace Go.Proofs.YtlljiipmkjjhhaaDoor
open Go.RowKit Go.Shelf Go.Lib Go.Sort
section
variable {α : Type} [Inhabited α]
theorem perm_of_in {d d' : Array α} (h : PermIn 0 d.size d d') : d'.toList.Perm d.toList := by
  obtain ⟨h1, _, h3⟩ := h
  have e1 : d'.extract 0 d.size = d' := by rw [← h1]; exact Array.extract_size
  have e2 : d.extract 0 d.size = d := Array.extract_size
  rw [e1, e2] at h3
  exact h3
theorem sorted_of_in {lt : α → α → Bool} {d : Array α} {n : Nat} (hn : n = d.size) (h : SortedIn lt 0 n d) : d.toList.Pairwise (fun a b => lt b a = false) := by
  rw [List.pairwise_iff_getElem]
  intro i j hi hj hij
  have hi' : i < d.size := by simpa using hi
  have hj' : j < d.size := by simpa using hj
  have := h i j (Nat.zero_le _) hij (by omega)
  rw [getElem!_pos d i hi', getElem!_pos d j hj'] at this
  simpa using this
theorem sortK_kept (enc : α → List Value) (k : Nat) (w : World) (blk n : Nat) (d : Array α) (os : Array Obj) : Kept [blk] w (sortWorldK enc k w blk 0 n d os) := by
  have e : (putRow id (Sort.ahead w n) blk 0 (flatK enc k d)).heap.size = w.heap.size := by simp [putRow, mapBlock, Sort.ahead]
  refine ⟨rfl, rfl, rfl, ?_, fun i hi hn => ?_⟩
  · show w.heap.size ≤ (grow (putRow id (Sort.ahead w n) blk 0 (flatK enc k d)) os).heap.size
    rw [size_grow, e]
    omega
  · show (grow (putRow id (Sort.ahead w n) blk 0 (flatK enc k d)) os).heap[i]? = _
    rw [heap_grow_old _ _ (by rw [e]; exact hi)]
    show (w.heap.modify blk (onCells _))[i]? = _
    rw [Array.getElem?_modify, if_neg (fun e => hn (by simp [e]))]
theorem holdsK_own {enc : α → List Value} {k : Nat} (hk : ∀ x, (enc x).length = k) (h0 : 0 < k) {w : World} {B g cap : Nat} {t : TypeId} {L : List α} (h : w.ownsRow B t k (.slice (some ⟨g, 0, none⟩) L.length cap) L.length (L.map enc).flatten) : HoldsK enc k w g 0 L.toArray ∧ ∃ c, w.heap[g]? = some (.cells c t (0, 0)) := by
  obtain ⟨hl, ⟨hv, _⟩ | ⟨g', cap', cur, hv, hB, hg, h1, h2, h3, h4⟩⟩ := h
  · cases hv
  · injection hv with hv1 hv2 hv3
    injection hv1 with hv1
    injection hv1 with hv1 _ _
    subst hv1
    refine ⟨fun j hj => ?_, _, hg⟩
    have hj2 : j < L.length * k := by simpa using hj
    have hr : ∀ r, r ∈ L.map enc → r.length = k := fun r hr => by
      obtain ⟨x, _, rfl⟩ := List.mem_map.1 hr
      exact hk x
    have hi : j / k < L.length := Nat.div_lt_of_lt_mul (by rw [Nat.mul_comm]; exact hj2)
    have hm : j % k < k := Nat.mod_lt _ h0
    have e1 : (L.map enc).flatten[j]? = some (enc L[j / k])[j % k]! := by
      rw [flat_bind k h0 _ hr, List.getElem?_map, List.getElem?_eq_getElem hi]
      show (enc L[j / k])[j % k]? = _
      rw [List.getElem?_eq_getElem (by rw [hk]; exact hm), getElem!_pos _ _ (by rw [hk]; exact hm)]
    rw [cell_of_row _ _ _ _ _ _ hg, frozen_of_row _ _ _ _ _ hg]
    refine ⟨?_, rfl⟩
    rw [Nat.zero_add, get_flatK _ _ _ _ (by simpa using hj2)]
    rw [← h4, List.getElem?_take_of_lt (by exact hj2)] at e1
    rw [← Array.getElem?_toList, e1]
    simp [hi]
theorem rows_of_holdsK {enc : α → List Value} {k : Nat} (hk : ∀ x, (enc x).length = k) {w : World} {g : Nat} {d : Array α} (h : HoldsK enc k w g 0 d) : ∀ i x, d.toList[i]? = some x → w.rangeAt g (i * k) (enc x) := fun i x hx j v hv => by
  have hi : i < d.size := by simpa using (List.getElem?_eq_some_iff.1 hx).1
  have hj : j < k := by rw [← hk x]; exact (List.getElem?_eq_some_iff.1 hv).1
  have h1 := (h.cell hi hj).1
  rw [Nat.zero_add] at h1
  rw [h1]
  have e : d[i]! = x := by
    rw [getElem!_pos d i hi]
    have := List.getElem?_eq_some_iff.1 hx
    simpa using this.2
  rw [e, getElem!_pos _ _ (by rw [hk]; exact hj)]
  obtain ⟨_, h2⟩ := List.getElem?_eq_some_iff.1 hv
  rw [h2]
end
end Go.Proofs.YtlljiipmkjjhhaaDoor

namespace Go.Proofs.YtlljiipmkjjhhaaDoor
open Go.RowKit Go.Shelf

section
variable {F : Fence} {n : Nat} {P : Program} {ops : Array Oper} {rest : List Oper} {op : Oper} {a : Act} {w : World} {K : Act → World → Prop} {Q : Exit → Act → World → Prop}
end
/-- What a law of a range turns by itself: no cells, and nothing old. -/
def TurnsNone (B : Nat) (W W' : World) (row : Option Nat) : Prop := W.grownBy W' row ∧ ∀ r, row = some r → B ≤ r ∧ ∃ o : Obj, W.heap[r]? = some o ∧ o.isCells = false
theorem TurnsNone.cells {B : Nat} {W W' : World} {row : Option Nat} (h : TurnsNone B W W' row) {k : Nat} {c : Array Value} {t : TypeId} {fr : Nat × Nat} (hk : W.heap[k]? = some (.cells c t fr)) : W'.heap[k]? = some (.cells c t fr) :=
  (h.1.block k (lt_of_block hk) (fun e => by
    obtain ⟨_, o, ho, hc⟩ := h.2 k e.symm
    rw [hk] at ho
    injection ho with ho
    subst ho
    cases hc)).trans hk
theorem TurnsNone.kept {B : Nat} {w W W' : World} {row : Option Nat} (h : TurnsNone B W W' row) (k : Kept [] w W) (hB : w.heap.size ≤ B) : Kept [] w W' :=
  k.grown h.1 (fun r e => Or.inr (by have := (h.2 r e).1; omega))
end Go.Proofs.YtlljiipmkjjhhaaDoor

namespace Go.Proofs.YtlljiipmkjjhhaaDoor
open Go.RowKit

theorem BytesAt.uniq {w : World} {v : Value} {xs ys : List Int} (h : BytesAt w v xs) (k : BytesAt w v ys) : xs = ys := by
  obtain ⟨ao, cap, rfl, _, _, hc⟩ := h
  obtain ⟨ao', cap', he, _, _, hc'⟩ := k
  injection he with e1 e2 e3
  subst e1
  by_cases h0 : xs = []
  · subst h0
    exact (List.eq_nil_of_length_eq_zero e2.symm).symm
  · have h0' : ys ≠ [] := fun e => by
      rw [e] at e2
      exact h0 (List.eq_nil_of_length_eq_zero e2)
    obtain ⟨b, off, rfl, hh⟩ := hc h0
    obtain ⟨b', off', he, hh'⟩ := hc' h0'
    injection he with he
    injection he with h1 h2 _
    subst h1 h2
    refine List.ext_getElem e2 fun i hi hi' => ?_
    have q1 := hh i _ (List.getElem?_eq_getElem hi)
    have q2 := hh' i _ (List.getElem?_eq_getElem hi')
    rw [q1] at q2
    injection q2 with q2
    injection q2
/-- A loop's record, in one of its states. -/
def recAt (fn : FuncId) (tm : Array Value) (ps : Array Tmp) (assign body : Code) (dd : Nat) (st : LoopState) (pe : Option Code) : Loop := { state := st, pending := pe, fn := fn, tmps := tm, params := ps, assign := assign, body := body, defers := dd }
section
variable {α : Type} {F : Fence} {n : Nat} {P : Program} {ps : Array Tmp} {assign body : Code} {tm : Array Value} {fn : FuncId} {dd l B : Nat} {encs : α → Array Value} {Kp : World → World → Prop} {G : α → World → World → Prop} {N : Nat} {X : World → Prop} {I : List α → World → Prop} {Ix : Code → List α → World → Prop} {Ax : List α → α → Act → World → Prop}
/-- What a law keeps beside its own word: the record and X. -/
def BkG (fn : FuncId) (tm : Array Value) (ps : Array Tmp) (assign body : Code) (dd l : Nat) (X : World → Prop) (st : LoopState) (pe : Option Code) (W : World) : Prop := W.heap[l]? = some (.loop (recAt fn tm ps assign body dd st pe)) ∧ X W
theorem BkG.turn {st st' : LoopState} {pe pe' : Option Code} {W : World} (hXp : ∀ A o, X A → X (A.putObj l o)) (h : BkG fn tm ps assign body dd l X st pe W) : BkG fn tm ps assign body dd l X st' pe' (W.putObj l (.loop (recAt fn tm ps assign body dd st' pe'))) :=
  ⟨World.putObj_heap_same (lt_of_block h.1), hXp _ _ h.2⟩
end
end Go.Proofs.YtlljiipmkjjhhaaDoor
