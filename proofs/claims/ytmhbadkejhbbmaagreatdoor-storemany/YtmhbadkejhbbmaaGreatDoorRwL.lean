/-
  The store's rows as the library's sort takes them.
-/
import Derived.Test.YtmhbadkejhbbmaaGreatDoorRwC
import Derived.Shelf.SlSortCmp.InsertionK
namespace Go.Proofs.YtmhbadkejhbbmaaGreatDoor
open Go.RowKit Go.Shelf Go.Lib Go.Sort

/-- A row: an id, a slice of bytes. -/
structure RowE where
  xs : List Int
  p : Option Addr
  l : Nat
  c : Nat
  good : GoodID xs
instance : Inhabited RowE := ⟨⟨zero32, none, 0, 0, by simp [zero32], fun x h => by rw [List.eq_of_mem_replicate h]; decide⟩⟩
def encRow (x : RowE) : List Value := x.xs.map (Value.int .u8) ++ [.slice x.p x.l x.c]
theorem encRow_len (x : RowE) : (encRow x).length = 33 := by simp [encRow, x.good.1]
theorem encRow_one (x : RowE) (v : Value) (hv : v ∈ encRow x) : v.oneCell' = true := by
  simp only [encRow, List.mem_append, List.mem_map, List.mem_singleton] at hv
  rcases hv with ⟨y, _, rfl⟩ | rfl <;> rfl
theorem rowLays (blk off size : Nat) (w : World) : CmpLays Tryz.prog 52 #[] encRow 33 (fun x y => cmpB x.xs y.xs) blk off size w :=
  fun _ _ _ _ x y => (rowCmp_any x.xs y.xs (.slice x.p x.l x.c) (.slice y.p y.l y.c) _ x.good y.good).mono fun _ _ ⟨he, n, hn⟩ => ⟨he, n, #[.cells (rowC x.xs (.slice x.p x.l x.c)) 89, .cells (rowC y.xs (.slice y.p y.l y.c)) 89], by rw [hn, alloc_eq_grow, alloc_eq_grow, grow_grow]; rfl⟩
/-- Which id is first: a strict order, and total. -/
theorem cmpB_swap : ∀ xs ys : List Int, cmpB xs ys < 0 → ¬ cmpB ys xs < 0
  | [], [], h => by simp [cmpB] at h
  | [], _ :: _, _ => by simp [cmpB]
  | _ :: _, [], h => by simp [cmpB] at h
  | a :: x, b :: y, h => by
    simp only [cmpB] at h ⊢
    by_cases h1 : a < b
    · rw [if_neg (by omega), if_pos h1]; omega
    · rw [if_neg h1] at h
      by_cases h2 : b < a
      · rw [if_pos h2] at h; omega
      · rw [if_neg h2] at h
        rw [if_neg h2, if_neg h1]
        exact cmpB_swap x y h
theorem cmpB_total : ∀ xs ys : List Int, ¬ cmpB xs ys < 0 → ¬ cmpB ys xs < 0 → xs = ys
  | [], [], _, _ => rfl
  | [], _ :: _, h, _ => by simp [cmpB] at h
  | _ :: _, [], _, h => by simp [cmpB] at h
  | a :: x, b :: y, h, h' => by
    simp only [cmpB] at h h'
    by_cases h1 : a < b
    · rw [if_pos h1] at h; omega
    · by_cases h2 : b < a
      · rw [if_pos h2] at h'; omega
      · rw [if_neg h1, if_neg h2] at h
        rw [if_neg h2, if_neg h1] at h'
        obtain rfl : a = b := by omega
        rw [cmpB_total x y h h']
theorem cmpB_trans : ∀ xs ys zs : List Int, cmpB xs ys < 0 → cmpB ys zs < 0 → cmpB xs zs < 0
  | [], [], _, h, _ => by simp [cmpB] at h
  | _ :: _, [], _, h, _ => by simp [cmpB] at h
  | _, _ :: _, [], _, h => by simp [cmpB] at h
  | [], _ :: _, _ :: _, _, _ => by simp [cmpB]
  | a :: x, b :: y, c :: z, h, h' => by
    simp only [cmpB] at h h' ⊢
    by_cases h1 : a < b
    · by_cases h2 : c < b
      · rw [if_neg (by omega), if_pos h2] at h'; omega
      · rw [if_pos (by omega)]; omega
    · rw [if_neg h1] at h
      by_cases h2 : b < a
      · rw [if_pos h2] at h; omega
      · rw [if_neg h2] at h
        obtain rfl : a = b := by omega
        by_cases h3 : a < c
        · rw [if_pos h3]; omega
        · rw [if_neg h3] at h' ⊢
          by_cases h4 : c < a
          · rw [if_pos h4] at h'; omega
          · rw [if_neg h4] at h' ⊢
            exact cmpB_trans x y z h h'
theorem cmpB_self (xs : List Int) : ¬ cmpB xs xs < 0 := fun h => cmpB_swap xs xs h h
/-- What is not less: either greater or the same. -/
theorem cmpB_ge {xs ys : List Int} (h : ¬ cmpB xs ys < 0) : cmpB ys xs < 0 ∨ xs = ys := by
  by_cases h' : cmpB ys xs < 0
  · exact .inl h'
  · exact .inr (cmpB_total xs ys h h')
theorem rowSWO : SWO (ltOf fun x y : RowE => cmpB x.xs y.xs) where
  irrefl x := by simp only [ltOf, decide_eq_false_iff_not]; exact cmpB_self x.xs
  trans x y z h1 h2 := by
    simp only [ltOf, decide_eq_true_eq] at *
    exact cmpB_trans _ _ _ h1 h2
  ntrans x y z h1 h2 := by
    simp only [ltOf, decide_eq_false_iff_not] at *
    intro h
    rcases cmpB_ge h1 with g | g
    · exact h2 (cmpB_trans _ _ _ g h)
    · exact h2 (g ▸ h)
end Go.Proofs.YtmhbadkejhbbmaaGreatDoor
