/-
  PLAIN: lists of 64-bit words that are one's own; the reference's padded text as bytes and as words.
-/
import Derived.Test.YtdjfcackiclepaaDoorRs2
import Derived.Test.YtdjfcackiclepaaDoorDKe0
namespace Go.Proofs.YtdjfcackiclepaaDoor
open Go.RowKit

theorem Tryd.info_u64 : (Tryd.prog.info? 42).map (fun i => (i.zero, i.size, i.bytes)) = some (some (.int .u64 0), 1, 8) := by kernel_rfl
theorem Tryd.size_u64 : (Tryd.prog.info? 42).map (·.size) = some 1 := by kernel_rfl
theorem map_oneCell64 (ys : List Int) : ∀ v, v ∈ ys.map (Value.int .u64) → v.oneCell' = true := ints_oneCell .u64 ys

/-- v is a list of the words ys in memory of its own, none of it below B. -/
def OwnU (w : World) (B : Nat) (v : Value) (ys : List Int) : Prop := w.ownsRow B 42 1 v ys.length (ys.map (Value.int .u64))
theorem OwnU.kept {w w' : World} {B : Nat} {v : Value} {ys : List Int} {T : List Nat} (h : OwnU w B v ys) (k : Kept T w w') (hd : ∀ x, v.ownBlock = some x → x ∉ T) : OwnU w' B v ys := by
  refine ⟨h.1, ?_⟩
  rcases h.2 with hn | ⟨g, cap', cur, hv, hg, hh, rest⟩
  · exact Or.inl hn
  · refine Or.inr ⟨g, cap', cur, hv, hg, k.heap hh (hd g ?_), rest⟩
    rw [hv]; rfl
theorem OwnU.nil (w : World) (B : Nat) : OwnU w B (.slice none 0 0) [] := World.ownsRow_nil w _ _ _
/-- What the walks ask of such a list. -/
theorem OwnU.parts {w : World} {B : Nat} {v : Value} {ys : List Int} (h : OwnU w B v ys) (hn : ys ≠ []) : ∃ g cap, v = .slice (some ⟨g, 0, none⟩) ys.length cap ∧ B ≤ g ∧ g < w.heap.size ∧ ys.length ≤ cap ∧ ∀ i, i < ys.length → w.cell? ⟨g, i, none⟩ = some (.int .u64 (at0 ys i)) := by
  rcases h.2 with ⟨_, h0⟩ | ⟨g, cap', cur, hv, hg, hh, hnc, hcm, hcs, htk⟩
  · exact absurd (List.eq_nil_of_length_eq_zero h0) hn
  · refine ⟨g, cap', hv, hg, lt_of_block hh, hnc, fun i hi => ?_⟩
    rw [cell_of_row w g i _ _ _ hh, ← Array.getElem?_toList]
    have h2 : (cur.toList.take (ys.length * 1))[i]? = cur.toList[i]? := List.getElem?_take_of_lt (by omega)
    rw [← h2, htk]
    simp [at0, List.getElem?_eq_getElem hi]

/-- What 'append' of a word leaves. -/
structure AppendedU (w w' : World) (B : Nat) (v v' : Value) (us : List Int) : Prop where
  own : OwnU w' B v' us
  keep : ∀ (a : World) (S : List Nat), Kept S a w → (∀ k, v.ownBlock = some k → k ∈ S ∨ a.heap.size ≤ k) → Kept S a w'
  at' : v'.ownBlock = v.ownBlock ∨ v'.ownBlock = some w.heap.size

theorem wpList_append_word {ops : Array Oper} {rest : List Oper} {o : Oper} {a : Act} {w : World} {Q : Exit → Act → World → Prop} (hgd : o.guard = none) (s x : Operand)
    (ho : o.op = .call { callee := .builtin .append, args := #[s, x], argTypes := #[47, 47] }) {B : Nat} {v : Value} {vs : List Int} (hs : a.eval s = v) (hown : OwnU w B v vs)
    {q c : Nat} {z : Int} (hx : a.eval x = .slice (some ⟨q, 0, none⟩) 1 c) (hX : w.cell? ⟨q, 0, none⟩ = some (.int .u64 z)) (hl : (vs.length + 1) * 8 ≤ 140737488355328) (hB : B ≤ w.heap.size)
    (h : ∀ v' w', AppendedU w w' B v v' (vs ++ [z]) → wpList Tryd.prog ops Q rest (a.put o.dst v') w') : wpList Tryd.prog ops Q (o :: rest) a w := by
  obtain ⟨i0, hi, hz0, hz1, hz2⟩ := info_parts Tryd.info_u64
  refine wpList_append_own_at w hgd s x 47 ho B 42 i0 (.int .u64 0) 1 8 Tryd.underlying47 hi hz0 hz1 hz2 rfl (by decide) v vs.length _ hs hown ⟨q, 0, none⟩ 1 c [.int .u64 z] hx rfl ?_ (by simp [Value.oneCell']) (by unfold maxLen; omega) hl hB ?_
  · intro j u hu
    match j, hu with
    | 0, hu => cases hu; exact hX
  · intro v' w' h2 h3 _ h5
    refine h v' w' ⟨?_, fun a S h hk => h.grown h3 hk, h5⟩
    unfold OwnU
    rw [List.length_append, List.map_append]
    exact h2

/-- How many zeros the reference lays; its eight last bytes; its text. -/
def zerosN (n : Nat) : Nat := (119 - n % 64) % 64
def lastL (told : Int) : List Int := (List.range 8).map fun k => told / 2 ^ (56 - 8 * k) % 256
def headL (xs : List Int) : List Int := xs ++ [128]
def padR (xs : List Int) : List Int := headL xs ++ List.replicate (zerosN xs.length) 0 ++ lastL (8 * (xs.length : Int))
theorem zerosN_end (n j : Nat) (h : j ≤ zerosN n) : (n + 1 + j) % 64 = 56 ↔ j = zerosN n := by
  unfold zerosN at *
  omega
theorem padR_len (xs : List Int) : (padR xs).length % 64 = 0 ∧ (padR xs).length ≤ xs.length + 72 := by
  have h1 : (padR xs).length = xs.length + 1 + zerosN xs.length + 8 := by simp [padR, headL, lastL]; omega
  rw [h1]
  unfold zerosN
  omega
theorem padR_octs (xs : List Int) (ho : Octs xs) : Octs (padR xs) := by
  intro u hu
  unfold padR headL lastL at hu
  simp only [List.mem_append, List.mem_singleton, List.mem_replicate, List.mem_map] at hu
  rcases hu with ((h | h) | h) | ⟨k, _, h⟩
  · exact ho u h
  · omega
  · omega
  · omega

/-- A word of four bytes, so far; all words. -/
def accL (l : List Int) (i k : Nat) : Int := (List.range k).foldl (fun x j => 256 * x + at0 l (i + j)) 0
theorem accL_zero (l : List Int) (i : Nat) : accL l i 0 = 0 := rfl
theorem accL_succ (l : List Int) (i k : Nat) : accL l i (k + 1) = 256 * accL l i k + at0 l (i + k) := by
  unfold accL; rw [List.range_succ, List.foldl_append]; rfl
theorem octs_at0 {l : List Int} (h : Octs l) (i : Nat) : 0 ≤ at0 l i ∧ at0 l i ≤ 255 := by
  unfold at0
  by_cases hi : i < l.length
  · rw [List.getElem?_eq_getElem hi]; exact h _ (List.getElem_mem hi)
  · rw [List.getElem?_eq_none (by omega)]; decide
theorem accL_fits {l : List Int} (h : Octs l) (i k : Nat) : 0 ≤ accL l i k ∧ accL l i k < 256 ^ k := by
  induction k with
  | zero => rw [accL_zero]; decide
  | succ k ih =>
    have := octs_at0 h (i + k)
    rw [accL_succ, Int.pow_succ]
    omega
def wordsL (l : List Int) (n : Nat) : List Int := (List.range n).map fun i => accL l (4 * i) 4
theorem wordsL_succ (l : List Int) (n : Nat) : wordsL l (n + 1) = wordsL l n ++ [accL l (4 * n) 4] := by
  unfold wordsL; rw [List.range_succ, List.map_append]; rfl
theorem wordsL_len (l : List Int) (n : Nat) : (wordsL l n).length = n := by simp [wordsL]
theorem wordsL_at (l : List Int) (n i : Nat) (h : i < n) : at0 (wordsL l n) i = accL l (4 * i) 4 := by
  unfold at0 wordsL
  rw [List.getElem?_map, List.getElem?_range h]
  rfl
end Go.Proofs.YtdjfcackiclepaaDoor
