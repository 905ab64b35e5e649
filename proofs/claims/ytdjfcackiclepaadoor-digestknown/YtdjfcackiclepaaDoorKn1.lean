/-
  PLAIN: the digest's words behind a million letters.
-/
import Derived.Test.YtdjfcackiclepaaDoorKn0
namespace Go.Proofs.YtdjfcackiclepaaDoor
open Go.RowKit

theorem turnN_mk (kw w a b c d e f g h : Nat) : turnN kw w ⟨a, b, c, d, e, f, g, h⟩ = ⟨(h + upN e + chN e f g + kw + w + (upM a + majN a b c)) % 4294967296, a, b, c, (d + (h + upN e + chN e f g + kw + w)) % 4294967296, e, f, g⟩ := rfl
theorem turnA_parts (k w : Nat) (s : EightN) : turnN k w s = turnA (k + w) s := by
  obtain ⟨a, b, c, d, e, f, g, h⟩ := s
  rw [turnA_mk, turnN_mk, Nat.add_zero, Nat.add_assoc _ k w]
theorem mixA (l : List Nat) (W : List Nat) (e1 : l = (List.range 64).map (fun t => turnKN[t]?.getD 0 + W[t]?.getD 0)) (s : EightN) : mixN (fun t => W[t]?.getD 0) s = blkStep l s := by
  have e : ∀ s, turnsN (fun t => W[t]?.getD 0) s 64 = l.foldl (fun s kw => turnA kw s) s := by
    intro s
    rw [e1, List.foldl_map]
    unfold turnsN
    simp only [turnA_parts]
  unfold mixN blkStep
  rw [e]
theorem kwA_eq : kwA = (List.range 64).map (fun t => turnKN[t]?.getD 0 + wordsA[t]?.getD 0) := by kernel_rfl
theorem wordsA_len : wordsA.length = 64 := by kernel_rfl
theorem mixL_A (s : EightN) (hs : s.Ok) : mixL (castL s) blkA = castL (blkStep kwA s) := by
  rw [← mixA kwA wordsA kwA_eq]
  refine mixL_nat s hs blkA _ fun t ht => ?_
  rw [stretchA]
  have hl : t < wordsA.length := by rw [wordsA_len]; exact ht
  generalize wordsA = W at *
  simp [at0, List.getElem?_eq_getElem hl]
theorem blkStep_ok (l : List Nat) (s : EightN) : (blkStep l s).Ok := addN_ok _ _
theorem feedA (n : Nat) : ∀ s : EightN, s.Ok → feedL (castL s, []) (List.replicate (64 * n) 97) = (castL (iterE (blkStep kwA) n s), []) := by
  induction n with
  | zero => intro s _; rfl
  | succ n ih =>
    intro s hs
    have h1 : feedL (castL s, []) (List.replicate 64 97) = (castL (blkStep kwA s), []) := by
      rw [feed_full (castL s) [] (List.replicate 64 97) (by simp) (by decide), List.nil_append, ← mixL_A s hs, blkA]
    rw [show 64 * (n + 1) = 64 + 64 * n by omega, ← List.replicate_append_replicate, feed_append, h1, ih _ (blkStep_ok _ s), iterE_succ]
theorem feed_million : feedL (firstL, []) (List.replicate 1000000 97) = (castL stA25, []) := by
  have h := feedA 15625 stA0 (by constructor <;> decide)
  rw [allA25] at h
  have e : firstL = castL stA0 := rfl
  rw [e, ← h]
end Go.Proofs.YtdjfcackiclepaaDoor
