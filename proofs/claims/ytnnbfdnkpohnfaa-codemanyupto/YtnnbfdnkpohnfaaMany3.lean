/-
  A number of four bytes is read back; what is left behind it. And rows of bytes.
-/
import Derived.Test.YtnnbfdnkpohnfaaMany2
import Derived.Test.YtnnbfdnkpohnfaaRCopy
import Derived.Test.YtnnbfdnkpohnfaaPlain3
namespace Go.Proofs.Ytnnbfdnkpohnfaa
open Go.RowKit

theorem be_fixed0 : ∀ (s : Nat) (n : Int), 0 ≤ n → n < 256 ^ s → be (fixedB n s) = n := by
  intro s
  induction s with
  | zero =>
    intro n h0 h1
    have e : n = 0 := by simp at h1; omega
    subst e; rfl
  | succ s ih =>
    intro n h0 h1
    rw [fixedB_snoc, be_snoc, ih (n / 256) (by omega) (by rw [Int.pow_succ] at h1; omega)]
    omega
theorem took_fixed (n : Int) (tl : List Int) (h0 : 0 ≤ n) (h1 : n < 256 ^ 4) : takeL (fixedB n 4 ++ tl) 0 0 0 4 0 = ⟨n, [], 4, 0⟩ := by
  have e : lookL ((fixedB n 4 ++ tl).drop 0) 0 4 0 = ⟨n, 4, 4, 0⟩ := by
    unfold lookL
    rw [if_pos rfl, List.drop_zero]
    show fixedL (fixedB n 4 ++ tl) 4 = _
    unfold fixedL
    rw [if_neg (by simp [fixedB_len]), List.take_left' (fixedB_len n 4), be_fixed0 4 n h0 h1]
  unfold takeL
  rw [if_neg (by decide), e, if_neg (by simp)]
  simp
theorem row_bytes3 {w : World} {q : Nat} {ys : List Int} (h : w.heap[q]? = some (.cells (ys.map (Value.int .u8)).toArray 5 (0, 0))) : BytesAt w (.slice (some ⟨q, 0, none⟩) ys.length ys.length) ys := by
  refine ⟨_, _, rfl, Nat.le_refl _, fun e => (by simp at e), fun _ => ⟨q, 0, rfl, fun i u hu => ?_⟩⟩
  rw [cell_of_row _ _ _ _ _ _ h, Nat.zero_add, ← Array.getElem?_toList]
  simp [hu]
theorem WAt.octs {w : World} {wb B : Nat} {zs : List Int} {S : List Nat} (h : WAt w wb B zs S) : Octs zs := by
  obtain ⟨_, _, _, _, _, _, h, _⟩ := h
  exact h

section
variable {w wr w2 : World} {sc : Array Value} {pv hv rv rv' : Value} {L : List Rec} {R : List RRec}
/-- A Reader has come: its pointer lies in the list. -/
theorem Crowd.after_read (C : Crowd w wr sc pv hv rv L R) {k : Nat} (hk : R.length = k) {ρ g : Nat} {xs : List Int} {o : Obj} {w3 : World} (hR : Rdr w2 ρ g xs 0 0) (k2 : Kept [] wr w2) (hρ : wr.heap.size ≤ ρ) (hg : wr.heap.size ≤ g)
    (p3 : w3.ownsRow w.heap.size 50 1 rv' (R.map (fun x => ptrOf x.r) ++ [ptrOf ρ]).length (R.map (fun x => ptrOf x.r) ++ [ptrOf ρ])) (k3 : Kept rv.ownBlock.toList (w2.alloc o) w3) (a3 : rv'.ownBlock = rv.ownBlock ∨ rv'.ownBlock = some (w2.alloc o).heap.size) :
    Crowd w w3 sc pv hv rv' L (R ++ [⟨ρ, g, xs, 0⟩]) ∧ ∃ gr cr, rv' = .slice (some ⟨gr, 0, none⟩) (k + 1) cr ∧ k + 1 ≤ cr ∧ cr ≤ 9223372036854775807 ∧ gr < w3.heap.size ∧ w3.cell? ⟨gr, k, none⟩ = some (.pointer (some ⟨ρ, 0, none⟩)) := by
  have hl : (R.map (fun x => ptrOf x.r) ++ [ptrOf ρ]).length = k + 1 := by rw [List.length_append, List.length_map, hk]; rfl
  refine ⟨C.reads hR k2 hρ hg p3 (((Kept.refl _ _).alloc _).then k3) (fun b hb => ?_), ?_⟩
  · rcases a3 with h | h
    · exact Or.inl (h ▸ hb)
    · rw [h] at hb
      injection hb with hb
      exact Or.inr (by rw [← hb, World.size_alloc]; omega)
  · rw [hl] at p3
    obtain ⟨gr, cr, h1, h2, h3, h4, h5, h6, h7⟩ := owns_at p3 (by omega)
    refine ⟨gr, cr, h1, h2, h3, h5, ?_⟩
    rw [h6 k (by omega), List.getElem?_append_right (by rw [List.length_map, hk]; omega), List.length_map, hk, Nat.sub_self]
    rfl
end
end Go.Proofs.Ytnnbfdnkpohnfaa
