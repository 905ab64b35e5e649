/-
  The store's rows as the library's sort takes them.
  THE LIBRARY's CONTRACTS that are used here, laid at this program in plain words (by the guide's lay-plain): the table of numbers, and a field a fact.
-/
import Derived.Test.YtddhhjgegkkjbaaGreatDoorRwC
import Derived.Shelf.SlSortCmp.InsertionK
import Derived.Test.YtddhhjgegkkjbaaGreatDoorProg
import Derived.Shelf.Unicode.ValidAny
import Derived.Shelf.Strings.Search3
namespace Go.Proofs.YtddhhjgegkkjbaaGreatDoor
open Go.RowKit Go.Shelf Go.Lib Go.Sort

/-- A row: an id, a slice of bytes. -/
structure RowE where
  xs : List Int
  p : Option Addr
  l : Nat
  c : Nat
  good : GoodID xs
instance : Inhabited RowE := ⟨⟨zero32, none, 0, 0, by simp [zero32], fun x h => by rw [List.eq_of_mem_replicate h]; decide⟩⟩
def encRow (x : RowE) : List Value := x.xs.map (Value.int .u8) ++ [.slice x.p x.l x.c]
theorem encRow_len (x : RowE) : (encRow x).length = 33 := by simp [encRow, x.good.1]
theorem encRow_one (x : RowE) (v : Value) (hv : v ∈ encRow x) : v.oneCell' = true := by
  simp only [encRow, List.mem_append, List.mem_map, List.mem_singleton] at hv
  rcases hv with ⟨y, _, rfl⟩ | rfl <;> rfl
theorem rowLays (blk off size : Nat) (w : World) : CmpLays Tryz.prog 37 #[] encRow 33 (fun x y => cmpB x.xs y.xs) blk off size w :=
  fun _ _ _ _ x y => (rowCmp_any x.xs y.xs (.slice x.p x.l x.c) (.slice y.p y.l y.c) _ x.good y.good).mono fun _ _ ⟨he, n, hn⟩ => ⟨he, n, #[.cells (rowC x.xs (.slice x.p x.l x.c)) 68, .cells (rowC y.xs (.slice y.p y.l y.c)) 68], by rw [hn, alloc_eq_grow, alloc_eq_grow, grow_grow]; rfl⟩
/-- Which id is first: a strict order, and total. -/
theorem cmpB_swap : ∀ xs ys : List Int, cmpB xs ys < 0 → ¬ cmpB ys xs < 0
  | [], [], h => by simp [cmpB] at h
  | [], _ :: _, _ => by simp [cmpB]
  | _ :: _, [], h => by simp [cmpB] at h
  | a :: x, b :: y, h => by
    simp only [cmpB] at h ⊢
    by_cases h1 : a < b
    · rw [if_neg (by omega), if_pos h1]; omega
    · rw [if_neg h1] at h
      by_cases h2 : b < a
      · rw [if_pos h2] at h; omega
      · rw [if_neg h2] at h
        rw [if_neg h2, if_neg h1]
        exact cmpB_swap x y h
theorem cmpB_total : ∀ xs ys : List Int, ¬ cmpB xs ys < 0 → ¬ cmpB ys xs < 0 → xs = ys
  | [], [], _, _ => rfl
  | [], _ :: _, h, _ => by simp [cmpB] at h
  | _ :: _, [], _, h => by simp [cmpB] at h
  | a :: x, b :: y, h, h' => by
    simp only [cmpB] at h h'
    by_cases h1 : a < b
    · rw [if_pos h1] at h; omega
    · by_cases h2 : b < a
      · rw [if_pos h2] at h'; omega
      · rw [if_neg h1, if_neg h2] at h
        rw [if_neg h2, if_neg h1] at h'
        obtain rfl : a = b := by omega
        rw [cmpB_total x y h h']
theorem cmpB_trans : ∀ xs ys zs : List Int, cmpB xs ys < 0 → cmpB ys zs < 0 → cmpB xs zs < 0
  | [], [], _, h, _ => by simp [cmpB] at h
  | _ :: _, [], _, h, _ => by simp [cmpB] at h
  | _, _ :: _, [], _, h => by simp [cmpB] at h
  | [], _ :: _, _ :: _, _, _ => by simp [cmpB]
  | a :: x, b :: y, c :: z, h, h' => by
    simp only [cmpB] at h h' ⊢
    by_cases h1 : a < b
    · by_cases h2 : c < b
      · rw [if_neg (by omega), if_pos h2] at h'; omega
      · rw [if_pos (by omega)]; omega
    · rw [if_neg h1] at h
      by_cases h2 : b < a
      · rw [if_pos h2] at h; omega
      · rw [if_neg h2] at h
        obtain rfl : a = b := by omega
        by_cases h3 : a < c
        · rw [if_pos h3]; omega
        · rw [if_neg h3] at h' ⊢
          by_cases h4 : c < a
          · rw [if_pos h4] at h'; omega
          · rw [if_neg h4] at h' ⊢
            exact cmpB_trans x y z h h'
theorem cmpB_self (xs : List Int) : ¬ cmpB xs xs < 0 := fun h => cmpB_swap xs xs h h
/-- What is not less: either greater or the same. -/
theorem cmpB_ge {xs ys : List Int} (h : ¬ cmpB xs ys < 0) : cmpB ys xs < 0 ∨ xs = ys := by
  by_cases h' : cmpB ys xs < 0
  · exact .inl h'
  · exact .inr (cmpB_total xs ys h h')
theorem rowSWO : SWO (ltOf fun x y : RowE => cmpB x.xs y.xs) where
  irrefl x := by simp only [ltOf, decide_eq_false_iff_not]; exact cmpB_self x.xs
  trans x y z h1 h2 := by
    simp only [ltOf, decide_eq_true_eq] at *
    exact cmpB_trans _ _ _ h1 h2
  ntrans x y z h1 h2 := by
    simp only [ltOf, decide_eq_false_iff_not] at *
    intro h
    rcases cmpB_ge h1 with g | g
    · exact h2 (cmpB_trans _ _ _ g h)
    · exact h2 (g ▸ h)
end Go.Proofs.YtddhhjgegkkjbaaGreatDoor

namespace Go.Proofs
open Go.Shelf
def Tryz.laysValid_ren : Go.Shelf.Ren := ⟨fun | 196 => 132 | 259 => 134 | n => n, fun | 9 => 9 | 4 => 4 | 3 => 3 | 5 => 5 | 12 => 12 | 119 => 188 | 0 => 0 | 46 => 92 | 139 => 191 | 138 => 190 | 53 => 55 | n => n, fun | 3 => 3 | 4 => 4 | n => n⟩
theorem Tryz.laysValid : Go.Proofs.Lays.n196 Tryz.prog Tryz.laysValid_ren := {
  mixed := by kernel_rfl
  f196 := Tryz.func132.trans (congrArg some (by kernel_rfl))
  f259 := Tryz.func134.trans (congrArg some (by kernel_rfl))
  t0 := Tryz.underlying0
  a0 := Tryz.isAgg0
  z0 := Tryz.sizeOf0
  v0 := Tryz.zeroValue0
  t3 := Tryz.underlying3
  a3 := Tryz.isAgg3
  z3 := Tryz.sizeOf3
  v3 := Tryz.zeroValue3
  t4 := Tryz.underlying4
  a4 := Tryz.isAgg4
  z4 := Tryz.sizeOf4
  v4 := Tryz.zeroValue4
  t5 := Tryz.underlying5
  a5 := Tryz.isAgg5
  z5 := Tryz.sizeOf5
  v5 := Tryz.zeroValue5
  t9 := Tryz.underlying9
  a9 := Tryz.isAgg9
  z9 := Tryz.sizeOf9
  v9 := Tryz.zeroValue9
  t12 := Tryz.underlying12
  a12 := Tryz.isAgg12
  z12 := Tryz.sizeOf12
  v12 := Tryz.zeroValue12
  t46 := Tryz.underlying92
  a46 := Tryz.isAgg92
  z46 := Tryz.sizeOf92
  v46 := Tryz.zeroValue92
  t53 := Tryz.underlying55
  a53 := Tryz.isAgg55
  z53 := Tryz.sizeOf55
  v53 := Tryz.zeroValue55
  t119 := Tryz.underlying188
  a119 := Tryz.isAgg188
  z119 := Tryz.sizeOf188
  t138 := Tryz.underlying190
  a138 := Tryz.isAgg190
  z138 := Tryz.sizeOf190
  v138 := Tryz.zeroValue190
  t139 := Tryz.underlying191
  a139 := Tryz.isAgg191
  z139 := Tryz.sizeOf191
  v139 := Tryz.zeroValue191
  g3 := by kernel_rfl
  g4 := by kernel_rfl }
def Tryz.laysContains_ren : Go.Shelf.Ren := ⟨fun | 144 => 131 | 143 => 133 | 219 => 135 | 217 => 136 | 225 => 137 | 224 => 138 | 267 => 139 | 266 => 140 | 314 => 141 | n => n, fun | 9 => 9 | 4 => 4 | 3 => 3 | 5 => 5 | 46 => 92 | 146 => 194 | 51 => 109 | n => n, fun | 1 => 1 | n => n⟩
theorem Tryz.laysContains : Go.Proofs.Lays.n144 Tryz.prog Tryz.laysContains_ren := {
  mixed := by kernel_rfl
  f143 := Tryz.func133.trans (congrArg some (by kernel_rfl))
  f144 := Tryz.func131.trans (congrArg some (by kernel_rfl))
  f217 := Tryz.func136.trans (congrArg some (by kernel_rfl))
  f219 := Tryz.func135.trans (congrArg some (by kernel_rfl))
  f224 := Tryz.func138.trans (congrArg some (by kernel_rfl))
  f225 := Tryz.func137.trans (congrArg some (by kernel_rfl))
  f266 := Tryz.func140.trans (congrArg some (by kernel_rfl))
  f267 := Tryz.func139.trans (congrArg some (by kernel_rfl))
  f314 := Tryz.func141.trans (congrArg some (by kernel_rfl))
  t3 := Tryz.underlying3
  a3 := Tryz.isAgg3
  z3 := Tryz.sizeOf3
  v3 := Tryz.zeroValue3
  t4 := Tryz.underlying4
  a4 := Tryz.isAgg4
  z4 := Tryz.sizeOf4
  v4 := Tryz.zeroValue4
  t5 := Tryz.underlying5
  a5 := Tryz.isAgg5
  z5 := Tryz.sizeOf5
  v5 := Tryz.zeroValue5
  t9 := Tryz.underlying9
  a9 := Tryz.isAgg9
  z9 := Tryz.sizeOf9
  v9 := Tryz.zeroValue9
  t46 := Tryz.underlying92
  a46 := Tryz.isAgg92
  z46 := Tryz.sizeOf92
  v46 := Tryz.zeroValue92
  t51 := Tryz.underlying109
  a51 := Tryz.isAgg109
  z51 := Tryz.sizeOf109
  v51 := Tryz.zeroValue109
  t146 := Tryz.underlying194
  a146 := Tryz.isAgg194
  z146 := Tryz.sizeOf194
  v146 := Tryz.zeroValue194
  g1 := by kernel_rfl }
end Go.Proofs
