/-
  PLAIN MATHEMATICS: signs of UTF-8 as the document tells them, held against the library's decoder.
  WALKS: satchelref3.tail, sign, Line, Name: for every text.
  WALKS: satchelref3.Line, Name: for every text.
  The store's rows as the library's sort takes them.
  THE LIBRARY's CONTRACTS that are used here, laid at this program in plain words (by the guide's lay-plain): the table of numbers, and a field a fact.
  The store's rows SORTED: slices.SortFunc at them.
  A list of structs that the library's sort has sorted, in plain words. No Go text is named here.
-/
import Derived.Test.YtbphibolgckmnaaGreatDoorObj1
import Derived.Test.YtbphibolgckmnaaGreatDoorPlain
import Derived.Test.YtbphibolgckmnaaGreatDoorHdS
import Derived.Shelf.SlSortCmp.InsertionK
import Derived.Test.YtbphibolgckmnaaGreatDoorChecked
import Derived.Shelf.SlLaysF0
import Derived.Shelf.SlSortCmp.WholeK
import Derived.Test.YtbphibolgckmnaaGreatDoorRows0
namespace Go.Proofs.YtbphibolgckmnaaGreatDoor
open Go.RowKit

def tlB (xs : List Int) (k : Nat) (lo hi : Int) : Bool := decide (k < xs.length) && decide (lo ≤ xs.getD k 0) && decide (xs.getD k 0 ≤ hi)
/-- How many bytes the sign at the front takes; 0: none is there. -/
def signN (xs : List Int) : Nat :=
  if xs.getD 0 0 < 128 then 1
  else if 194 ≤ xs.getD 0 0 ∧ xs.getD 0 0 ≤ 223 then (if tlB xs 1 128 191 = true then 2 else 0)
  else if 224 ≤ xs.getD 0 0 ∧ xs.getD 0 0 ≤ 239 then (if tlB xs 1 (if xs.getD 0 0 = 224 then 160 else 128) (if xs.getD 0 0 = 237 then 159 else 191) = true ∧ tlB xs 2 128 191 = true then 3 else 0)
  else if 240 ≤ xs.getD 0 0 ∧ xs.getD 0 0 ≤ 244 then (if tlB xs 1 (if xs.getD 0 0 = 240 then 144 else 128) (if xs.getD 0 0 = 244 then 143 else 191) = true ∧ tlB xs 2 128 191 = true ∧ tlB xs 3 128 191 = true then 4 else 0)
  else 0

/-- A sign's bytes behind its first are above 127, and it lies within the text. -/
theorem sign_high (xs : List Int) (h : signN xs ≠ 0) (hne : 0 < xs.length) : signN xs ≤ xs.length ∧ ∀ k, 1 ≤ k → k < signN xs → 128 ≤ xs.getD k 0 := by
  have ht : ∀ k lo hi, 128 ≤ lo → tlB xs k lo hi = true → k < xs.length ∧ 128 ≤ xs.getD k 0 := by
    intro k lo hi hlo hb
    unfold tlB at hb
    simp only [Bool.and_eq_true, decide_eq_true_eq] at hb
    omega
  have hi1 : ∀ c : Int, (128 : Int) ≤ (if c = 224 then 160 else 128) := fun c => by split <;> omega
  have hi2 : ∀ c : Int, (128 : Int) ≤ (if c = 240 then 144 else 128) := fun c => by split <;> omega
  unfold signN at h ⊢
  by_cases c0 : xs.getD 0 0 < 128
  · rw [if_pos c0]
    exact ⟨by omega, fun k h1 h2 => by omega⟩
  rw [if_neg c0] at h ⊢
  by_cases c1 : 194 ≤ xs.getD 0 0 ∧ xs.getD 0 0 ≤ 223
  · rw [if_pos c1] at h ⊢
    by_cases d1 : tlB xs 1 128 191 = true
    · rw [if_pos d1]
      have a1 := ht 1 _ _ (by omega) d1
      refine ⟨by omega, fun k h1 h2 => ?_⟩
      obtain rfl : k = 1 := by omega
      exact a1.2
    · rw [if_neg d1] at h
      exact absurd rfl h
  rw [if_neg c1] at h ⊢
  by_cases c2 : 224 ≤ xs.getD 0 0 ∧ xs.getD 0 0 ≤ 239
  · rw [if_pos c2] at h ⊢
    by_cases d1 : tlB xs 1 (if xs.getD 0 0 = 224 then 160 else 128) (if xs.getD 0 0 = 237 then 159 else 191) = true ∧ tlB xs 2 128 191 = true
    · rw [if_pos d1]
      have a1 := ht 1 _ _ (hi1 _) d1.1
      have a2 := ht 2 _ _ (by omega) d1.2
      refine ⟨by omega, fun k h1 h2 => ?_⟩
      rcases (by omega : k = 1 ∨ k = 2) with rfl | rfl
      · exact a1.2
      · exact a2.2
    · rw [if_neg d1] at h
      exact absurd rfl h
  rw [if_neg c2] at h ⊢
  by_cases c3 : 240 ≤ xs.getD 0 0 ∧ xs.getD 0 0 ≤ 244
  · rw [if_pos c3] at h ⊢
    by_cases d1 : tlB xs 1 (if xs.getD 0 0 = 240 then 144 else 128) (if xs.getD 0 0 = 244 then 143 else 191) = true ∧ tlB xs 2 128 191 = true ∧ tlB xs 3 128 191 = true
    · rw [if_pos d1]
      have a1 := ht 1 _ _ (hi2 _) d1.1
      have a2 := ht 2 _ _ (by omega) d1.2.1
      have a3 := ht 3 _ _ (by omega) d1.2.2
      refine ⟨by omega, fun k h1 h2 => ?_⟩
      rcases (by omega : k = 1 ∨ k = 2 ∨ k = 3) with rfl | rfl | rfl
      · exact a1.2
      · exact a2.2
      · exact a3.2
    · rw [if_neg d1] at h
      exact absurd rfl h
  rw [if_neg c3] at h
  exact absurd rfl h

/-- The document's own reading of a line from a place on: sign by sign. -/
def lineW : Nat → List Int → Bool
  | 0, _ => true
  | f + 1, xs => if xs = [] then true else if signN xs = 0 ∨ okByte (xs.getD 0 0) = false then false else lineW f (xs.drop (signN xs))
end Go.Proofs.YtbphibolgckmnaaGreatDoor

namespace Go.Proofs.YtbphibolgckmnaaGreatDoor
open Go.RowKit

theorem getD_drop (xs : List Int) (k j : Nat) : (xs.drop k).getD j 0 = xs.getD (k + j) 0 := by
  rw [List.getD_eq_getElem?_getD, List.getD_eq_getElem?_getD, List.getElem?_drop]
end Go.Proofs.YtbphibolgckmnaaGreatDoor

namespace Go.Proofs.YtbphibolgckmnaaGreatDoor
open Go.RowKit

/-- What is left of a line to be read, behind k bytes. -/
def LRun (xs : List Int) (k : Nat) : Prop := ∃ f, (xs.drop k).length ≤ f ∧ lineW xs.length xs = lineW f (xs.drop k)
theorem LRun.start (xs : List Int) : LRun xs 0 := ⟨xs.length, by simp, by simp⟩
theorem LRun.bad {xs : List Int} {k : Nat} (h : LRun xs k) (hk : k < xs.length) (hb : signN (xs.drop k) = 0 ∨ okByte (xs.getD k 0) = false) : lineW xs.length xs = false := by
  obtain ⟨f, hf, e⟩ := h
  rw [List.length_drop] at hf
  rw [e]
  cases f with
  | zero => omega
  | succ f =>
    have hne : xs.drop k ≠ [] := by
      intro h0
      have := congrArg List.length h0
      rw [List.length_drop] at this
      simp at this
      omega
    unfold lineW
    rw [if_neg hne, getD_drop, Nat.add_zero, if_pos hb]
theorem LRun.on {xs : List Int} {k : Nat} (h : LRun xs k) (hk : k < xs.length) (hs : signN (xs.drop k) ≠ 0) (hb : okByte (xs.getD k 0) = true) : LRun xs (k + signN (xs.drop k)) ∧ k + signN (xs.drop k) ≤ xs.length := by
  obtain ⟨f, hf, e⟩ := h
  rw [List.length_drop] at hf
  have hp : 0 < (xs.drop k).length := by rw [List.length_drop]; omega
  have h3 := (sign_high (xs.drop k) hs hp).1
  rw [List.length_drop] at h3
  cases f with
  | zero => omega
  | succ f =>
    have hne : xs.drop k ≠ [] := List.length_pos_iff.1 hp
    refine ⟨⟨f, by rw [List.length_drop]; omega, ?_⟩, by omega⟩
    rw [e]
    conv => lhs; unfold lineW
    rw [if_neg hne, getD_drop, Nat.add_zero, if_neg (by rintro (h | h); · exact hs h
                                                        · rw [hb] at h; cases h), List.drop_drop]
end Go.Proofs.YtbphibolgckmnaaGreatDoor

namespace Go.Proofs.YtbphibolgckmnaaGreatDoor
open Go.RowKit Go.Shelf Go.Lib Go.Sort

/-- A row: an id, a slice of bytes. -/
structure RowE where
  xs : List Int
  p : Option Addr
  l : Nat
  c : Nat
  good : GoodID xs
instance : Inhabited RowE := ⟨⟨zero32, none, 0, 0, by simp [zero32], fun x h => by rw [List.eq_of_mem_replicate h]; decide⟩⟩
def encRow (x : RowE) : List Value := x.xs.map (Value.int .u8) ++ [.slice x.p x.l x.c]
theorem encRow_len (x : RowE) : (encRow x).length = 33 := by simp [encRow, x.good.1]
theorem encRow_one (x : RowE) (v : Value) (hv : v ∈ encRow x) : v.oneCell' = true := by
  simp only [encRow, List.mem_append, List.mem_map, List.mem_singleton] at hv
  rcases hv with ⟨y, _, rfl⟩ | rfl <;> rfl
theorem rowLays (blk off size : Nat) (w : World) : CmpLays Tryz.prog 52 #[] encRow 33 (fun x y => cmpB x.xs y.xs) blk off size w :=
  fun _ _ _ _ x y => (rowCmp_any x.xs y.xs (.slice x.p x.l x.c) (.slice y.p y.l y.c) _ x.good y.good).mono fun _ _ ⟨he, n, hn⟩ => ⟨he, n, #[.cells (rowC x.xs (.slice x.p x.l x.c)) 89, .cells (rowC y.xs (.slice y.p y.l y.c)) 89], by rw [hn, alloc_eq_grow, alloc_eq_grow, grow_grow]; rfl⟩
/-- Which id is first: a strict order, and total. -/
theorem cmpB_swap : ∀ xs ys : List Int, cmpB xs ys < 0 → ¬ cmpB ys xs < 0
  | [], [], h => by simp [cmpB] at h
  | [], _ :: _, _ => by simp [cmpB]
  | _ :: _, [], h => by simp [cmpB] at h
  | a :: x, b :: y, h => by
    simp only [cmpB] at h ⊢
    by_cases h1 : a < b
    · rw [if_neg (by omega), if_pos h1]; omega
    · rw [if_neg h1] at h
      by_cases h2 : b < a
      · rw [if_pos h2] at h; omega
      · rw [if_neg h2] at h
        rw [if_neg h2, if_neg h1]
        exact cmpB_swap x y h
theorem cmpB_total : ∀ xs ys : List Int, ¬ cmpB xs ys < 0 → ¬ cmpB ys xs < 0 → xs = ys
  | [], [], _, _ => rfl
  | [], _ :: _, h, _ => by simp [cmpB] at h
  | _ :: _, [], _, h => by simp [cmpB] at h
  | a :: x, b :: y, h, h' => by
    simp only [cmpB] at h h'
    by_cases h1 : a < b
    · rw [if_pos h1] at h; omega
    · by_cases h2 : b < a
      · rw [if_pos h2] at h'; omega
      · rw [if_neg h1, if_neg h2] at h
        rw [if_neg h2, if_neg h1] at h'
        obtain rfl : a = b := by omega
        rw [cmpB_total x y h h']
theorem cmpB_trans : ∀ xs ys zs : List Int, cmpB xs ys < 0 → cmpB ys zs < 0 → cmpB xs zs < 0
  | [], [], _, h, _ => by simp [cmpB] at h
  | _ :: _, [], _, h, _ => by simp [cmpB] at h
  | _, _ :: _, [], _, h => by simp [cmpB] at h
  | [], _ :: _, _ :: _, _, _ => by simp [cmpB]
  | a :: x, b :: y, c :: z, h, h' => by
    simp only [cmpB] at h h' ⊢
    by_cases h1 : a < b
    · by_cases h2 : c < b
      · rw [if_neg (by omega), if_pos h2] at h'; omega
      · rw [if_pos (by omega)]; omega
    · rw [if_neg h1] at h
      by_cases h2 : b < a
      · rw [if_pos h2] at h; omega
      · rw [if_neg h2] at h
        obtain rfl : a = b := by omega
        by_cases h3 : a < c
        · rw [if_pos h3]; omega
        · rw [if_neg h3] at h' ⊢
          by_cases h4 : c < a
          · rw [if_pos h4] at h'; omega
          · rw [if_neg h4] at h' ⊢
            exact cmpB_trans x y z h h'
theorem cmpB_self (xs : List Int) : ¬ cmpB xs xs < 0 := fun h => cmpB_swap xs xs h h
/-- What is not less: either greater or the same. -/
theorem cmpB_ge {xs ys : List Int} (h : ¬ cmpB xs ys < 0) : cmpB ys xs < 0 ∨ xs = ys := by
  by_cases h' : cmpB ys xs < 0
  · exact .inl h'
  · exact .inr (cmpB_total xs ys h h')
theorem rowSWO : SWO (ltOf fun x y : RowE => cmpB x.xs y.xs) where
  irrefl x := by simp only [ltOf, decide_eq_false_iff_not]; exact cmpB_self x.xs
  trans x y z h1 h2 := by
    simp only [ltOf, decide_eq_true_eq] at *
    exact cmpB_trans _ _ _ h1 h2
  ntrans x y z h1 h2 := by
    simp only [ltOf, decide_eq_false_iff_not] at *
    intro h
    rcases cmpB_ge h1 with g | g
    · exact h2 (cmpB_trans _ _ _ g h)
    · exact h2 (g ▸ h)
end Go.Proofs.YtbphibolgckmnaaGreatDoor

namespace Go.Proofs
open Go.Shelf
def Tryz.sortRow_ren : Go.Shelf.Ren := ⟨fun | 6 => 51 | 15 => 69 | 14 => 68 | 28 => 90 | 29 => 91 | 20 => 82 | 21 => 83 | 22 => 84 | 23 => 85 | 24 => 86 | 25 => 87 | 26 => 88 | 27 => 89 | 46 => 103 | 47 => 104 | 48 => 105 | 49 => 106 | 50 => 107 | 57 => 115 | n => n, fun | 22 => 86 | 24 => 89 | 25 => 106 | 3 => 3 | 39 => 124 | 0 => 0 | 53 => 119 | 55 => 72 | 4 => 4 | 46 => 152 | 45 => 151 | 50 => 156 | 5 => 5 | 9 => 9 | 66 => 169 | 70 => 172 | 76 => 178 | 77 => 179 | n => n, fun | n => n⟩
theorem Tryz.sortRow : Go.Proofs.SlLaysF0.n6 Tryz.prog Tryz.sortRow_ren := {
  mixed := by kernel_rfl
  f6 := ⟨Tryz.f51.name, by decide, Tryz.func51.trans (congrArg some (by kernel_rfl))⟩
  f14 := ⟨Tryz.f68.name, by decide, Tryz.func68.trans (congrArg some (by kernel_rfl))⟩
  f15 := Tryz.func69.trans (congrArg some (by kernel_rfl))
  f20 := ⟨Tryz.f82.name, by decide, Tryz.func82.trans (congrArg some (by kernel_rfl))⟩
  f21 := ⟨Tryz.f83.name, by decide, Tryz.func83.trans (congrArg some (by kernel_rfl))⟩
  f22 := ⟨Tryz.f84.name, by decide, Tryz.func84.trans (congrArg some (by kernel_rfl))⟩
  f23 := ⟨Tryz.f85.name, by decide, Tryz.func85.trans (congrArg some (by kernel_rfl))⟩
  f24 := ⟨Tryz.f86.name, by decide, Tryz.func86.trans (congrArg some (by kernel_rfl))⟩
  f25 := ⟨Tryz.f87.name, by decide, Tryz.func87.trans (congrArg some (by kernel_rfl))⟩
  f26 := ⟨Tryz.f88.name, by decide, Tryz.func88.trans (congrArg some (by kernel_rfl))⟩
  f27 := ⟨Tryz.f89.name, by decide, Tryz.func89.trans (congrArg some (by kernel_rfl))⟩
  f28 := Tryz.func90.trans (congrArg some (by kernel_rfl))
  f29 := Tryz.func91.trans (congrArg some (by kernel_rfl))
  f46 := ⟨Tryz.f103.name, by decide, Tryz.func103.trans (congrArg some (by kernel_rfl))⟩
  f47 := Tryz.func104.trans (congrArg some (by kernel_rfl))
  f48 := Tryz.func105.trans (congrArg some (by kernel_rfl))
  f49 := ⟨Tryz.f106.name, by decide, Tryz.func106.trans (congrArg some (by kernel_rfl))⟩
  f50 := ⟨Tryz.f107.name, by decide, Tryz.func107.trans (congrArg some (by kernel_rfl))⟩
  f57 := ⟨Tryz.f115.name, by decide, Tryz.func115.trans (congrArg some (by kernel_rfl))⟩
  t0 := Tryz.underlying0
  a0 := Tryz.isAgg0
  z0 := Tryz.sizeOf0
  v0 := Tryz.zeroValue0
  t3 := Tryz.underlying3
  a3 := Tryz.isAgg3
  z3 := Tryz.sizeOf3
  v3 := Tryz.zeroValue3
  t4 := Tryz.underlying4
  a4 := Tryz.isAgg4
  z4 := Tryz.sizeOf4
  v4 := Tryz.zeroValue4
  t5 := Tryz.underlying5
  a5 := Tryz.isAgg5
  z5 := Tryz.sizeOf5
  v5 := Tryz.zeroValue5
  t9 := Tryz.underlying9
  a9 := Tryz.isAgg9
  z9 := Tryz.sizeOf9
  v9 := Tryz.zeroValue9
  t22 := Tryz.underlying86
  a22 := Tryz.isAgg86
  z22 := Tryz.sizeOf86
  v22 := Tryz.zeroValue86
  t25 := Tryz.underlying106
  a25 := Tryz.isAgg106
  z25 := Tryz.sizeOf106
  v25 := Tryz.zeroValue106
  t39 := Tryz.underlying124
  a39 := Tryz.isAgg124
  z39 := Tryz.sizeOf124
  v39 := Tryz.zeroValue124
  t45 := Tryz.underlying151
  a45 := Tryz.isAgg151
  z45 := Tryz.sizeOf151
  v45 := Tryz.zeroValue151
  t46 := Tryz.underlying152
  a46 := Tryz.isAgg152
  z46 := Tryz.sizeOf152
  v46 := Tryz.zeroValue152
  t50 := Tryz.underlying156
  a50 := Tryz.isAgg156
  z50 := Tryz.sizeOf156
  v50 := Tryz.zeroValue156
  t53 := Tryz.underlying119
  a53 := Tryz.isAgg119
  z53 := Tryz.sizeOf119
  v53 := Tryz.zeroValue119
  t55 := Tryz.underlying72
  a55 := Tryz.isAgg72
  z55 := Tryz.sizeOf72
  v55 := Tryz.zeroValue72
  t66 := Tryz.underlying169
  a66 := Tryz.isAgg169
  z66 := Tryz.sizeOf169
  v66 := Tryz.zeroValue169
  t70 := Tryz.underlying172
  a70 := Tryz.isAgg172
  z70 := Tryz.sizeOf172
  v70 := Tryz.zeroValue172
  t76 := Tryz.underlying178
  a76 := Tryz.isAgg178
  z76 := Tryz.sizeOf178
  v76 := Tryz.zeroValue178
  t77 := Tryz.underlying179
  a77 := Tryz.isAgg179
  z77 := Tryz.sizeOf179
  v77 := Tryz.zeroValue179 }
end Go.Proofs

namespace Go.Proofs.YtbphibolgckmnaaGreatDoor
open Go.RowKit Go.Shelf Go.Lib Go.Sort

theorem Tryz.aggRow (w : World) : (isAgg 89).run Tryz.prog w = .ok true w := Tryz.isAgg89 w
theorem Tryz.sizeRow (w : World) : (Go.sizeOf 89).run Tryz.prog w = .ok 33 w := Tryz.sizeOf89 w
theorem sortRows_any (blk off cap : Nat) (d : Array RowE) (w : World) (hH : HoldsK encRow 33 w blk off d) (hblk : blk < w.heap.size) (hsz : d.size < 4611686018427387904) :
    Calls Tryz.prog 51 #[.slice (some ⟨blk, off, none⟩) d.size cap, .func (.func 52) #[] #[]] w fun e w' =>
      e = .returned (.tuple #[]) ∧ ∃ d' n os, PermIn 0 d.size d d' ∧ SortedIn (ltOf fun x y : RowE => cmpB x.xs y.xs) 0 d.size d' ∧ w' = sortWorldK encRow 33 w blk off n d' os :=
  AnyQ.slices_SortFunc Tryz.sortRow 33 Tryz.aggRow Tryz.sizeRow encRow encRow_len encRow_one (fun x y => cmpB x.xs y.xs) rowSWO 52 #[] blk off cap d w
    (enters_of Tryz.func52 (by kernel_rfl) rfl) (rowLays blk off d.size w) hH hblk hsz
end Go.Proofs.YtbphibolgckmnaaGreatDoor

namespace Go.Proofs.YtbphibolgckmnaaGreatDoor
open Go.RowKit Go.Shelf Go.Lib Go.Sort
section
variable {α : Type} [Inhabited α]
theorem perm_of_in {d d' : Array α} (h : PermIn 0 d.size d d') : d'.toList.Perm d.toList := by
  obtain ⟨h1, _, h3⟩ := h
  have e1 : d'.extract 0 d.size = d' := by rw [← h1]; exact Array.extract_size
  have e2 : d.extract 0 d.size = d := Array.extract_size
  rw [e1, e2] at h3
  exact h3
theorem sorted_of_in {lt : α → α → Bool} {d : Array α} {n : Nat} (hn : n = d.size) (h : SortedIn lt 0 n d) : d.toList.Pairwise (fun a b => lt b a = false) := by
  rw [List.pairwise_iff_getElem]
  intro i j hi hj hij
  have hi' : i < d.size := by simpa using hi
  have hj' : j < d.size := by simpa using hj
  have := h i j (Nat.zero_le _) hij (by omega)
  rw [getElem!_pos d i hi', getElem!_pos d j hj'] at this
  simpa using this
theorem sortK_heap (enc : α → List Value) (k : Nat) (w : World) (blk n : Nat) (d : Array α) (os : Array Obj) {c : Array Value} {t : TypeId} {fr : Nat × Nat} (h : w.heap[blk]? = some (.cells c t fr)) : ∃ c', (sortWorldK enc k w blk 0 n d os).heap[blk]? = some (.cells c' t fr) := by
  have hlt := lt_of_block h
  refine ⟨putCells id 0 (flatK enc k d) c, ?_⟩
  show (grow (putRow id (Sort.ahead w n) blk 0 (flatK enc k d)) os).heap[blk]? = _
  have e : (putRow id (Sort.ahead w n) blk 0 (flatK enc k d)).heap.size = w.heap.size := by simp [putRow, mapBlock, Sort.ahead]
  rw [heap_grow_old _ _ (by rw [e]; exact hlt)]
  show (w.heap.modify blk (onCells _))[blk]? = _
  rw [Array.getElem?_modify, if_pos rfl, h]
  rfl
theorem sortK_kept (enc : α → List Value) (k : Nat) (w : World) (blk n : Nat) (d : Array α) (os : Array Obj) : Kept [blk] w (sortWorldK enc k w blk 0 n d os) := by
  have e : (putRow id (Sort.ahead w n) blk 0 (flatK enc k d)).heap.size = w.heap.size := by simp [putRow, mapBlock, Sort.ahead]
  refine ⟨rfl, rfl, rfl, ?_, fun i hi hn => ?_⟩
  · show w.heap.size ≤ (grow (putRow id (Sort.ahead w n) blk 0 (flatK enc k d)) os).heap.size
    rw [size_grow, e]
    omega
  · show (grow (putRow id (Sort.ahead w n) blk 0 (flatK enc k d)) os).heap[i]? = _
    rw [heap_grow_old _ _ (by rw [e]; exact hi)]
    show (w.heap.modify blk (onCells _))[i]? = _
    rw [Array.getElem?_modify, if_neg (fun e => hn (by simp [e]))]
theorem holdsK_own {enc : α → List Value} {k : Nat} (hk : ∀ x, (enc x).length = k) (h0 : 0 < k) {w : World} {B g cap : Nat} {t : TypeId} {L : List α} (h : w.ownsRow B t k (.slice (some ⟨g, 0, none⟩) L.length cap) L.length (L.map enc).flatten) : HoldsK enc k w g 0 L.toArray ∧ ∃ c, w.heap[g]? = some (.cells c t (0, 0)) := by
  obtain ⟨hl, ⟨hv, _⟩ | ⟨g', cap', cur, hv, hB, hg, h1, h2, h3, h4⟩⟩ := h
  · cases hv
  · injection hv with hv1 hv2 hv3
    injection hv1 with hv1
    injection hv1 with hv1 _ _
    subst hv1
    refine ⟨fun j hj => ?_, _, hg⟩
    have hj2 : j < L.length * k := by simpa using hj
    have hr : ∀ r, r ∈ L.map enc → r.length = k := fun r hr => by
      obtain ⟨x, _, rfl⟩ := List.mem_map.1 hr
      exact hk x
    have hi : j / k < L.length := Nat.div_lt_of_lt_mul (by rw [Nat.mul_comm]; exact hj2)
    have hm : j % k < k := Nat.mod_lt _ h0
    have e1 : (L.map enc).flatten[j]? = some (enc L[j / k])[j % k]! := by
      rw [flat_bind k h0 _ hr, List.getElem?_map, List.getElem?_eq_getElem hi]
      show (enc L[j / k])[j % k]? = _
      rw [List.getElem?_eq_getElem (by rw [hk]; exact hm), getElem!_pos _ _ (by rw [hk]; exact hm)]
    rw [cell_of_row _ _ _ _ _ _ hg, frozen_of_row _ _ _ _ _ hg]
    refine ⟨?_, rfl⟩
    rw [Nat.zero_add, get_flatK _ _ _ _ (by simpa using hj2)]
    rw [← h4, List.getElem?_take_of_lt (by exact hj2)] at e1
    rw [← Array.getElem?_toList, e1]
    simp [hi]
theorem rows_of_holdsK {enc : α → List Value} {k : Nat} (hk : ∀ x, (enc x).length = k) {w : World} {g : Nat} {d : Array α} (h : HoldsK enc k w g 0 d) : ∀ i x, d.toList[i]? = some x → w.rangeAt g (i * k) (enc x) := fun i x hx j v hv => by
  have hi : i < d.size := by simpa using (List.getElem?_eq_some_iff.1 hx).1
  have hj : j < k := by rw [← hk x]; exact (List.getElem?_eq_some_iff.1 hv).1
  have h1 := (h.cell hi hj).1
  rw [Nat.zero_add] at h1
  rw [h1]
  have e : d[i]! = x := by
    rw [getElem!_pos d i hi]
    have := List.getElem?_eq_some_iff.1 hx
    simpa using this.2
  rw [e, getElem!_pos _ _ (by rw [hk]; exact hj)]
  obtain ⟨_, h2⟩ := List.getElem?_eq_some_iff.1 hv
  rw [h2]
end
end Go.Proofs.YtbphibolgckmnaaGreatDoor
