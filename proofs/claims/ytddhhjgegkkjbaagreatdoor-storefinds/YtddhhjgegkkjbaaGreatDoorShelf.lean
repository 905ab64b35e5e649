/-
  The store's rows as the library's sort takes them.
  THE LIBRARY's CONTRACTS that are used here, laid at this program in plain words (by the guide's lay-plain): the table of numbers, and a field a fact.
  A list of structs that the library's sort has sorted, in plain words. No Go text is named here.
  THE LIBRARY's CONTRACTS that are used here, laid at this program in plain words (by the guide's lay-plain): the table of numbers, and a field a fact.
-/
import Derived.Test.YtddhhjgegkkjbaaGreatDoorRwC
import Derived.Shelf.SlSortCmp.InsertionK
import Derived.Test.YtddhhjgegkkjbaaGreatDoorChecked
import Derived.Shelf.SlLaysF0
import Derived.Test.YtddhhjgegkkjbaaGreatDoorRw0
import Derived.Test.YtddhhjgegkkjbaaGreatDoorProg
import Derived.Shelf.Unicode.ValidAny
import Derived.Shelf.Strings.Search3
namespace Go.Proofs.YtddhhjgegkkjbaaGreatDoor
open Go.RowKit Go.Shelf Go.Lib Go.Sort

/-- A row: an id, a slice of bytes. -/
structure RowE where
  xs : List Int
  p : Option Addr
  l : Nat
  c : Nat
  good : GoodID xs
instance : Inhabited RowE := ⟨⟨zero32, none, 0, 0, by simp [zero32], fun x h => by rw [List.eq_of_mem_replicate h]; decide⟩⟩
def encRow (x : RowE) : List Value := x.xs.map (Value.int .u8) ++ [.slice x.p x.l x.c]
theorem encRow_len (x : RowE) : (encRow x).length = 33 := by simp [encRow, x.good.1]
theorem encRow_one (x : RowE) (v : Value) (hv : v ∈ encRow x) : v.oneCell' = true := by
  simp only [encRow, List.mem_append, List.mem_map, List.mem_singleton] at hv
  rcases hv with ⟨y, _, rfl⟩ | rfl <;> rfl
theorem rowLays (blk off size : Nat) (w : World) : CmpLays Tryz.prog 37 #[] encRow 33 (fun x y => cmpB x.xs y.xs) blk off size w :=
  fun _ _ _ _ x y => (rowCmp_any x.xs y.xs (.slice x.p x.l x.c) (.slice y.p y.l y.c) _ x.good y.good).mono fun _ _ ⟨he, n, hn⟩ => ⟨he, n, #[.cells (rowC x.xs (.slice x.p x.l x.c)) 68, .cells (rowC y.xs (.slice y.p y.l y.c)) 68], by rw [hn, alloc_eq_grow, alloc_eq_grow, grow_grow]; rfl⟩
/-- Which id is first: a strict order, and total. -/
theorem cmpB_swap : ∀ xs ys : List Int, cmpB xs ys < 0 → ¬ cmpB ys xs < 0
  | [], [], h => by simp [cmpB] at h
  | [], _ :: _, _ => by simp [cmpB]
  | _ :: _, [], h => by simp [cmpB] at h
  | a :: x, b :: y, h => by
    simp only [cmpB] at h ⊢
    by_cases h1 : a < b
    · rw [if_neg (by omega), if_pos h1]; omega
    · rw [if_neg h1] at h
      by_cases h2 : b < a
      · rw [if_pos h2] at h; omega
      · rw [if_neg h2] at h
        rw [if_neg h2, if_neg h1]
        exact cmpB_swap x y h
theorem cmpB_total : ∀ xs ys : List Int, ¬ cmpB xs ys < 0 → ¬ cmpB ys xs < 0 → xs = ys
  | [], [], _, _ => rfl
  | [], _ :: _, h, _ => by simp [cmpB] at h
  | _ :: _, [], _, h => by simp [cmpB] at h
  | a :: x, b :: y, h, h' => by
    simp only [cmpB] at h h'
    by_cases h1 : a < b
    · rw [if_pos h1] at h; omega
    · by_cases h2 : b < a
      · rw [if_pos h2] at h'; omega
      · rw [if_neg h1, if_neg h2] at h
        rw [if_neg h2, if_neg h1] at h'
        obtain rfl : a = b := by omega
        rw [cmpB_total x y h h']
theorem cmpB_trans : ∀ xs ys zs : List Int, cmpB xs ys < 0 → cmpB ys zs < 0 → cmpB xs zs < 0
  | [], [], _, h, _ => by simp [cmpB] at h
  | _ :: _, [], _, h, _ => by simp [cmpB] at h
  | _, _ :: _, [], _, h => by simp [cmpB] at h
  | [], _ :: _, _ :: _, _, _ => by simp [cmpB]
  | a :: x, b :: y, c :: z, h, h' => by
    simp only [cmpB] at h h' ⊢
    by_cases h1 : a < b
    · by_cases h2 : c < b
      · rw [if_neg (by omega), if_pos h2] at h'; omega
      · rw [if_pos (by omega)]; omega
    · rw [if_neg h1] at h
      by_cases h2 : b < a
      · rw [if_pos h2] at h; omega
      · rw [if_neg h2] at h
        obtain rfl : a = b := by omega
        by_cases h3 : a < c
        · rw [if_pos h3]; omega
        · rw [if_neg h3] at h' ⊢
          by_cases h4 : c < a
          · rw [if_pos h4] at h'; omega
          · rw [if_neg h4] at h' ⊢
            exact cmpB_trans x y z h h'
theorem cmpB_self (xs : List Int) : ¬ cmpB xs xs < 0 := fun h => cmpB_swap xs xs h h
/-- What is not less: either greater or the same. -/
theorem cmpB_ge {xs ys : List Int} (h : ¬ cmpB xs ys < 0) : cmpB ys xs < 0 ∨ xs = ys := by
  by_cases h' : cmpB ys xs < 0
  · exact .inl h'
  · exact .inr (cmpB_total xs ys h h')
theorem rowSWO : SWO (ltOf fun x y : RowE => cmpB x.xs y.xs) where
  irrefl x := by simp only [ltOf, decide_eq_false_iff_not]; exact cmpB_self x.xs
  trans x y z h1 h2 := by
    simp only [ltOf, decide_eq_true_eq] at *
    exact cmpB_trans _ _ _ h1 h2
  ntrans x y z h1 h2 := by
    simp only [ltOf, decide_eq_false_iff_not] at *
    intro h
    rcases cmpB_ge h1 with g | g
    · exact h2 (cmpB_trans _ _ _ g h)
    · exact h2 (g ▸ h)
end Go.Proofs.YtddhhjgegkkjbaaGreatDoor

namespace Go.Proofs
open Go.Shelf
def Tryz.sortId_ren : Go.Shelf.Ren := ⟨fun | 6 => 43 | 15 => 56 | 14 => 61 | 28 => 77 | 29 => 78 | 20 => 81 | 21 => 82 | 22 => 83 | 23 => 84 | 24 => 85 | 25 => 86 | 26 => 87 | 27 => 88 | 46 => 97 | 47 => 92 | 48 => 93 | 49 => 98 | 50 => 99 | 57 => 105 | n => n, fun | 22 => 32 | 24 => 36 | 25 => 75 | 3 => 3 | 39 => 92 | 0 => 0 | 53 => 109 | 55 => 55 | 4 => 4 | 46 => 133 | 45 => 132 | 50 => 137 | 5 => 5 | 9 => 9 | 66 => 154 | 70 => 157 | 76 => 163 | 77 => 164 | n => n, fun | n => n⟩
theorem Tryz.sortId : Go.Proofs.SlLaysF0.n6 Tryz.prog Tryz.sortId_ren := {
  mixed := by kernel_rfl
  f6 := ⟨Tryz.f43.name, by decide, Tryz.func43.trans (congrArg some (by kernel_rfl))⟩
  f14 := ⟨Tryz.f61.name, by decide, Tryz.func61.trans (congrArg some (by kernel_rfl))⟩
  f15 := Tryz.func56.trans (congrArg some (by kernel_rfl))
  f20 := ⟨Tryz.f81.name, by decide, Tryz.func81.trans (congrArg some (by kernel_rfl))⟩
  f21 := ⟨Tryz.f82.name, by decide, Tryz.func82.trans (congrArg some (by kernel_rfl))⟩
  f22 := ⟨Tryz.f83.name, by decide, Tryz.func83.trans (congrArg some (by kernel_rfl))⟩
  f23 := ⟨Tryz.f84.name, by decide, Tryz.func84.trans (congrArg some (by kernel_rfl))⟩
  f24 := ⟨Tryz.f85.name, by decide, Tryz.func85.trans (congrArg some (by kernel_rfl))⟩
  f25 := ⟨Tryz.f86.name, by decide, Tryz.func86.trans (congrArg some (by kernel_rfl))⟩
  f26 := ⟨Tryz.f87.name, by decide, Tryz.func87.trans (congrArg some (by kernel_rfl))⟩
  f27 := ⟨Tryz.f88.name, by decide, Tryz.func88.trans (congrArg some (by kernel_rfl))⟩
  f28 := Tryz.func77.trans (congrArg some (by kernel_rfl))
  f29 := Tryz.func78.trans (congrArg some (by kernel_rfl))
  f46 := ⟨Tryz.f97.name, by decide, Tryz.func97.trans (congrArg some (by kernel_rfl))⟩
  f47 := Tryz.func92.trans (congrArg some (by kernel_rfl))
  f48 := Tryz.func93.trans (congrArg some (by kernel_rfl))
  f49 := ⟨Tryz.f98.name, by decide, Tryz.func98.trans (congrArg some (by kernel_rfl))⟩
  f50 := ⟨Tryz.f99.name, by decide, Tryz.func99.trans (congrArg some (by kernel_rfl))⟩
  f57 := ⟨Tryz.f105.name, by decide, Tryz.func105.trans (congrArg some (by kernel_rfl))⟩
  t0 := Tryz.underlying0
  a0 := Tryz.isAgg0
  z0 := Tryz.sizeOf0
  v0 := Tryz.zeroValue0
  t3 := Tryz.underlying3
  a3 := Tryz.isAgg3
  z3 := Tryz.sizeOf3
  v3 := Tryz.zeroValue3
  t4 := Tryz.underlying4
  a4 := Tryz.isAgg4
  z4 := Tryz.sizeOf4
  v4 := Tryz.zeroValue4
  t5 := Tryz.underlying5
  a5 := Tryz.isAgg5
  z5 := Tryz.sizeOf5
  v5 := Tryz.zeroValue5
  t9 := Tryz.underlying9
  a9 := Tryz.isAgg9
  z9 := Tryz.sizeOf9
  v9 := Tryz.zeroValue9
  t22 := Tryz.underlying32
  a22 := Tryz.isAgg32
  z22 := Tryz.sizeOf32
  v22 := Tryz.zeroValue32
  t25 := Tryz.underlying75
  a25 := Tryz.isAgg75
  z25 := Tryz.sizeOf75
  v25 := Tryz.zeroValue75
  t39 := Tryz.underlying92
  a39 := Tryz.isAgg92
  z39 := Tryz.sizeOf92
  v39 := Tryz.zeroValue92
  t45 := Tryz.underlying132
  a45 := Tryz.isAgg132
  z45 := Tryz.sizeOf132
  v45 := Tryz.zeroValue132
  t46 := Tryz.underlying133
  a46 := Tryz.isAgg133
  z46 := Tryz.sizeOf133
  v46 := Tryz.zeroValue133
  t50 := Tryz.underlying137
  a50 := Tryz.isAgg137
  z50 := Tryz.sizeOf137
  v50 := Tryz.zeroValue137
  t53 := Tryz.underlying109
  a53 := Tryz.isAgg109
  z53 := Tryz.sizeOf109
  v53 := Tryz.zeroValue109
  t55 := Tryz.underlying55
  a55 := Tryz.isAgg55
  z55 := Tryz.sizeOf55
  v55 := Tryz.zeroValue55
  t66 := Tryz.underlying154
  a66 := Tryz.isAgg154
  z66 := Tryz.sizeOf154
  v66 := Tryz.zeroValue154
  t70 := Tryz.underlying157
  a70 := Tryz.isAgg157
  z70 := Tryz.sizeOf157
  v70 := Tryz.zeroValue157
  t76 := Tryz.underlying163
  a76 := Tryz.isAgg163
  z76 := Tryz.sizeOf163
  v76 := Tryz.zeroValue163
  t77 := Tryz.underlying164
  a77 := Tryz.isAgg164
  z77 := Tryz.sizeOf164
  v77 := Tryz.zeroValue164 }
end Go.Proofs

namespace Go.Proofs.YtddhhjgegkkjbaaGreatDoor
open Go.RowKit Go.Shelf Go.Lib Go.Sort
section
variable {α : Type} [Inhabited α]
theorem perm_of_in {d d' : Array α} (h : PermIn 0 d.size d d') : d'.toList.Perm d.toList := by
  obtain ⟨h1, _, h3⟩ := h
  have e1 : d'.extract 0 d.size = d' := by rw [← h1]; exact Array.extract_size
  have e2 : d.extract 0 d.size = d := Array.extract_size
  rw [e1, e2] at h3
  exact h3
theorem sorted_of_in {lt : α → α → Bool} {d : Array α} {n : Nat} (hn : n = d.size) (h : SortedIn lt 0 n d) : d.toList.Pairwise (fun a b => lt b a = false) := by
  rw [List.pairwise_iff_getElem]
  intro i j hi hj hij
  have hi' : i < d.size := by simpa using hi
  have hj' : j < d.size := by simpa using hj
  have := h i j (Nat.zero_le _) hij (by omega)
  rw [getElem!_pos d i hi', getElem!_pos d j hj'] at this
  simpa using this
theorem sortK_heap (enc : α → List Value) (k : Nat) (w : World) (blk n : Nat) (d : Array α) (os : Array Obj) {c : Array Value} {t : TypeId} {fr : Nat × Nat} (h : w.heap[blk]? = some (.cells c t fr)) : ∃ c', (sortWorldK enc k w blk 0 n d os).heap[blk]? = some (.cells c' t fr) := by
  have hlt := lt_of_block h
  refine ⟨putCells id 0 (flatK enc k d) c, ?_⟩
  show (grow (putRow id (Sort.ahead w n) blk 0 (flatK enc k d)) os).heap[blk]? = _
  have e : (putRow id (Sort.ahead w n) blk 0 (flatK enc k d)).heap.size = w.heap.size := by simp [putRow, mapBlock, Sort.ahead]
  rw [heap_grow_old _ _ (by rw [e]; exact hlt)]
  show (w.heap.modify blk (onCells _))[blk]? = _
  rw [Array.getElem?_modify, if_pos rfl, h]
  rfl
theorem sortK_kept (enc : α → List Value) (k : Nat) (w : World) (blk n : Nat) (d : Array α) (os : Array Obj) : Kept [blk] w (sortWorldK enc k w blk 0 n d os) := by
  have e : (putRow id (Sort.ahead w n) blk 0 (flatK enc k d)).heap.size = w.heap.size := by simp [putRow, mapBlock, Sort.ahead]
  refine ⟨rfl, rfl, rfl, ?_, fun i hi hn => ?_⟩
  · show w.heap.size ≤ (grow (putRow id (Sort.ahead w n) blk 0 (flatK enc k d)) os).heap.size
    rw [size_grow, e]
    omega
  · show (grow (putRow id (Sort.ahead w n) blk 0 (flatK enc k d)) os).heap[i]? = _
    rw [heap_grow_old _ _ (by rw [e]; exact hi)]
    show (w.heap.modify blk (onCells _))[i]? = _
    rw [Array.getElem?_modify, if_neg (fun e => hn (by simp [e]))]
theorem holdsK_own {enc : α → List Value} {k : Nat} (hk : ∀ x, (enc x).length = k) (h0 : 0 < k) {w : World} {B g cap : Nat} {t : TypeId} {L : List α} (h : w.ownsRow B t k (.slice (some ⟨g, 0, none⟩) L.length cap) L.length (L.map enc).flatten) : HoldsK enc k w g 0 L.toArray ∧ ∃ c, w.heap[g]? = some (.cells c t (0, 0)) := by
  obtain ⟨hl, ⟨hv, _⟩ | ⟨g', cap', cur, hv, hB, hg, h1, h2, h3, h4⟩⟩ := h
  · cases hv
  · injection hv with hv1 hv2 hv3
    injection hv1 with hv1
    injection hv1 with hv1 _ _
    subst hv1
    refine ⟨fun j hj => ?_, _, hg⟩
    have hj2 : j < L.length * k := by simpa using hj
    have hr : ∀ r, r ∈ L.map enc → r.length = k := fun r hr => by
      obtain ⟨x, _, rfl⟩ := List.mem_map.1 hr
      exact hk x
    have hi : j / k < L.length := Nat.div_lt_of_lt_mul (by rw [Nat.mul_comm]; exact hj2)
    have hm : j % k < k := Nat.mod_lt _ h0
    have e1 : (L.map enc).flatten[j]? = some (enc L[j / k])[j % k]! := by
      rw [flat_bind k h0 _ hr, List.getElem?_map, List.getElem?_eq_getElem hi]
      show (enc L[j / k])[j % k]? = _
      rw [List.getElem?_eq_getElem (by rw [hk]; exact hm), getElem!_pos _ _ (by rw [hk]; exact hm)]
    rw [cell_of_row _ _ _ _ _ _ hg, frozen_of_row _ _ _ _ _ hg]
    refine ⟨?_, rfl⟩
    rw [Nat.zero_add, get_flatK _ _ _ _ (by simpa using hj2)]
    rw [← h4, List.getElem?_take_of_lt (by exact hj2)] at e1
    rw [← Array.getElem?_toList, e1]
    simp [hi]
theorem rows_of_holdsK {enc : α → List Value} {k : Nat} (hk : ∀ x, (enc x).length = k) {w : World} {g : Nat} {d : Array α} (h : HoldsK enc k w g 0 d) : ∀ i x, d.toList[i]? = some x → w.rangeAt g (i * k) (enc x) := fun i x hx j v hv => by
  have hi : i < d.size := by simpa using (List.getElem?_eq_some_iff.1 hx).1
  have hj : j < k := by rw [← hk x]; exact (List.getElem?_eq_some_iff.1 hv).1
  have h1 := (h.cell hi hj).1
  rw [Nat.zero_add] at h1
  rw [h1]
  have e : d[i]! = x := by
    rw [getElem!_pos d i hi]
    have := List.getElem?_eq_some_iff.1 hx
    simpa using this.2
  rw [e, getElem!_pos _ _ (by rw [hk]; exact hj)]
  obtain ⟨_, h2⟩ := List.getElem?_eq_some_iff.1 hv
  rw [h2]
end
end Go.Proofs.YtddhhjgegkkjbaaGreatDoor

namespace Go.Proofs
open Go.Shelf
def Tryz.laysValid_ren : Go.Shelf.Ren := ⟨fun | 196 => 132 | 259 => 134 | n => n, fun | 9 => 9 | 4 => 4 | 3 => 3 | 5 => 5 | 12 => 12 | 119 => 188 | 0 => 0 | 46 => 92 | 139 => 191 | 138 => 190 | 53 => 55 | n => n, fun | 3 => 3 | 4 => 4 | n => n⟩
theorem Tryz.laysValid : Go.Proofs.Lays.n196 Tryz.prog Tryz.laysValid_ren := {
  mixed := by kernel_rfl
  f196 := Tryz.func132.trans (congrArg some (by kernel_rfl))
  f259 := Tryz.func134.trans (congrArg some (by kernel_rfl))
  t0 := Tryz.underlying0
  a0 := Tryz.isAgg0
  z0 := Tryz.sizeOf0
  v0 := Tryz.zeroValue0
  t3 := Tryz.underlying3
  a3 := Tryz.isAgg3
  z3 := Tryz.sizeOf3
  v3 := Tryz.zeroValue3
  t4 := Tryz.underlying4
  a4 := Tryz.isAgg4
  z4 := Tryz.sizeOf4
  v4 := Tryz.zeroValue4
  t5 := Tryz.underlying5
  a5 := Tryz.isAgg5
  z5 := Tryz.sizeOf5
  v5 := Tryz.zeroValue5
  t9 := Tryz.underlying9
  a9 := Tryz.isAgg9
  z9 := Tryz.sizeOf9
  v9 := Tryz.zeroValue9
  t12 := Tryz.underlying12
  a12 := Tryz.isAgg12
  z12 := Tryz.sizeOf12
  v12 := Tryz.zeroValue12
  t46 := Tryz.underlying92
  a46 := Tryz.isAgg92
  z46 := Tryz.sizeOf92
  v46 := Tryz.zeroValue92
  t53 := Tryz.underlying55
  a53 := Tryz.isAgg55
  z53 := Tryz.sizeOf55
  v53 := Tryz.zeroValue55
  t119 := Tryz.underlying188
  a119 := Tryz.isAgg188
  z119 := Tryz.sizeOf188
  t138 := Tryz.underlying190
  a138 := Tryz.isAgg190
  z138 := Tryz.sizeOf190
  v138 := Tryz.zeroValue190
  t139 := Tryz.underlying191
  a139 := Tryz.isAgg191
  z139 := Tryz.sizeOf191
  v139 := Tryz.zeroValue191
  g3 := by kernel_rfl
  g4 := by kernel_rfl }
def Tryz.laysContains_ren : Go.Shelf.Ren := ⟨fun | 144 => 131 | 143 => 133 | 219 => 135 | 217 => 136 | 225 => 137 | 224 => 138 | 267 => 139 | 266 => 140 | 314 => 141 | n => n, fun | 9 => 9 | 4 => 4 | 3 => 3 | 5 => 5 | 46 => 92 | 146 => 194 | 51 => 109 | n => n, fun | 1 => 1 | n => n⟩
theorem Tryz.laysContains : Go.Proofs.Lays.n144 Tryz.prog Tryz.laysContains_ren := {
  mixed := by kernel_rfl
  f143 := Tryz.func133.trans (congrArg some (by kernel_rfl))
  f144 := Tryz.func131.trans (congrArg some (by kernel_rfl))
  f217 := Tryz.func136.trans (congrArg some (by kernel_rfl))
  f219 := Tryz.func135.trans (congrArg some (by kernel_rfl))
  f224 := Tryz.func138.trans (congrArg some (by kernel_rfl))
  f225 := Tryz.func137.trans (congrArg some (by kernel_rfl))
  f266 := Tryz.func140.trans (congrArg some (by kernel_rfl))
  f267 := Tryz.func139.trans (congrArg some (by kernel_rfl))
  f314 := Tryz.func141.trans (congrArg some (by kernel_rfl))
  t3 := Tryz.underlying3
  a3 := Tryz.isAgg3
  z3 := Tryz.sizeOf3
  v3 := Tryz.zeroValue3
  t4 := Tryz.underlying4
  a4 := Tryz.isAgg4
  z4 := Tryz.sizeOf4
  v4 := Tryz.zeroValue4
  t5 := Tryz.underlying5
  a5 := Tryz.isAgg5
  z5 := Tryz.sizeOf5
  v5 := Tryz.zeroValue5
  t9 := Tryz.underlying9
  a9 := Tryz.isAgg9
  z9 := Tryz.sizeOf9
  v9 := Tryz.zeroValue9
  t46 := Tryz.underlying92
  a46 := Tryz.isAgg92
  z46 := Tryz.sizeOf92
  v46 := Tryz.zeroValue92
  t51 := Tryz.underlying109
  a51 := Tryz.isAgg109
  z51 := Tryz.sizeOf109
  v51 := Tryz.zeroValue109
  t146 := Tryz.underlying194
  a146 := Tryz.isAgg194
  z146 := Tryz.sizeOf194
  v146 := Tryz.zeroValue194
  g1 := by kernel_rfl }
end Go.Proofs
