/-
  PLAIN MATHEMATICS: a decoder of UTF-8 and a reader of its signs, both as numbers.
-/
import Derived.Test.YtbdkalicgpdbkaaDoorBase
namespace Go.Proofs.YtbdkalicgpdbkaaDoor

/-- The decoder as numbers. -/
def decN (n b0 b1 b2 b3 : Nat) : Nat × Nat :=
  if b0 < 128 then (b0, 1)
  else if b0 / 32 = 6 ∧ 1 < n ∧ b1 / 64 = 2 then (if b0 % 32 * 64 + b1 % 64 ≥ 128 then (b0 % 32 * 64 + b1 % 64, 2) else (65533, 1))
  else if b0 / 16 = 14 ∧ (1 < n ∧ b1 / 64 = 2) ∧ 2 < n ∧ b2 / 64 = 2 then (if b0 % 16 * 4096 + b1 % 64 * 64 + b2 % 64 ≥ 2048 ∧ (b0 % 16 * 4096 + b1 % 64 * 64 + b2 % 64 < 55296 ∨ 57344 ≤ b0 % 16 * 4096 + b1 % 64 * 64 + b2 % 64) ∧ b0 % 16 * 4096 + b1 % 64 * 64 + b2 % 64 ≤ 1114111 then (b0 % 16 * 4096 + b1 % 64 * 64 + b2 % 64, 3) else (65533, 1))
  else if b0 / 8 = 30 ∧ (1 < n ∧ b1 / 64 = 2) ∧ (2 < n ∧ b2 / 64 = 2) ∧ 3 < n ∧ b3 / 64 = 2 then (if b0 % 8 * 262144 + b1 % 64 * 4096 + b2 % 64 * 64 + b3 % 64 ≥ 65536 ∧ (b0 % 8 * 262144 + b1 % 64 * 4096 + b2 % 64 * 64 + b3 % 64 < 55296 ∨ 57344 ≤ b0 % 8 * 262144 + b1 % 64 * 4096 + b2 % 64 * 64 + b3 % 64) ∧ b0 % 8 * 262144 + b1 % 64 * 4096 + b2 % 64 * 64 + b3 % 64 ≤ 1114111 then (b0 % 8 * 262144 + b1 % 64 * 4096 + b2 % 64 * 64 + b3 % 64, 4) else (65533, 1))
  else (65533, 1)
def sgN (n b0 b1 b2 b3 : Nat) : Nat :=
  if b0 < 128 then 1
  else if 194 ≤ b0 ∧ b0 ≤ 223 then (if 1 < n ∧ 128 ≤ b1 ∧ b1 ≤ 191 then 2 else 0)
  else if 224 ≤ b0 ∧ b0 ≤ 239 then (if (1 < n ∧ (if b0 = 224 then 160 else 128) ≤ b1 ∧ b1 ≤ (if b0 = 237 then 159 else 191)) ∧ 2 < n ∧ 128 ≤ b2 ∧ b2 ≤ 191 then 3 else 0)
  else if 240 ≤ b0 ∧ b0 ≤ 244 then (if (1 < n ∧ (if b0 = 240 then 144 else 128) ≤ b1 ∧ b1 ≤ (if b0 = 244 then 143 else 191)) ∧ (2 < n ∧ 128 ≤ b2 ∧ b2 ≤ 191) ∧ 3 < n ∧ 128 ≤ b3 ∧ b3 ≤ 191 then 4 else 0)
  else 0
theorem dec_sg (n b0 b1 b2 b3 : Nat) (h0 : b0 ≤ 255) (h1 : b1 ≤ 255) (h2 : b2 ≤ 255) (h3 : b3 ≤ 255) :
    (sgN n b0 b1 b2 b3 = 0 → decN n b0 b1 b2 b3 = (65533, 1)) ∧ (sgN n b0 b1 b2 b3 ≠ 0 → (decN n b0 b1 b2 b3).2 = sgN n b0 b1 b2 b3 ∧ ¬ ((decN n b0 b1 b2 b3).1 = 65533 ∧ (decN n b0 b1 b2 b3).2 = 1)) := by
  have done0 : ∀ s d, sgN n b0 b1 b2 b3 = s → decN n b0 b1 b2 b3 = d → ((s = 0 ∧ d = (65533, 1)) ∨ (s ≠ 0 ∧ d.2 = s ∧ ¬ (d.1 = 65533 ∧ d.2 = 1))) → (sgN n b0 b1 b2 b3 = 0 → decN n b0 b1 b2 b3 = (65533, 1)) ∧ (sgN n b0 b1 b2 b3 ≠ 0 → (decN n b0 b1 b2 b3).2 = sgN n b0 b1 b2 b3 ∧ ¬ ((decN n b0 b1 b2 b3).1 = 65533 ∧ (decN n b0 b1 b2 b3).2 = 1)) := by
    intro s d hs hd h
    rw [hs, hd]
    rcases h with ⟨h1, h2⟩ | ⟨h1, h2, h3⟩
    · exact ⟨fun _ => h2, fun h => absurd h1 h⟩
    · exact ⟨fun h => absurd h h1, fun _ => ⟨h2, h3⟩⟩
  by_cases c0 : b0 < 128
  · refine done0 1 (b0, 1) (by unfold sgN; rw [if_pos c0]) (by unfold decN; rw [if_pos c0]) (Or.inr ⟨by decide, rfl, fun h => ?_⟩)
    have := h.1
    dsimp only at this
    omega
  by_cases c1 : 194 ≤ b0 ∧ b0 ≤ 223
  · by_cases d1 : 1 < n ∧ 128 ≤ b1 ∧ b1 ≤ 191
    · exact done0 2 _ (by unfold sgN; rw [if_neg c0, if_pos c1, if_pos d1]) (by unfold decN; rw [if_neg c0, if_pos (by omega), if_pos (by omega)]) (Or.inr ⟨by decide, rfl, fun h => absurd h.2 (by simp)⟩)
    · exact done0 0 _ (by unfold sgN; rw [if_neg c0, if_pos c1, if_neg d1]) (by unfold decN; rw [if_neg c0, if_neg (by omega), if_neg (by omega), if_neg (by omega)]) (Or.inl ⟨rfl, rfl⟩)
  by_cases c2 : 224 ≤ b0 ∧ b0 ≤ 239
  · by_cases d2 : (1 < n ∧ (if b0 = 224 then 160 else 128) ≤ b1 ∧ b1 ≤ (if b0 = 237 then 159 else 191)) ∧ 2 < n ∧ 128 ≤ b2 ∧ b2 ≤ 191
    · have e1 : b0 = 224 → 160 ≤ b1 := fun e => by have := d2.1.2.1; rw [if_pos e] at this; exact this
      have e2 : b0 = 237 → b1 ≤ 159 := fun e => by have := d2.1.2.2; rw [if_pos e] at this; exact this
      have e3 : 128 ≤ b1 := by have := d2.1.2.1; split at this <;> omega
      have e4 : b1 ≤ 191 := by have := d2.1.2.2; split at this <;> omega
      have e6 := d2.2
      have e7 := d2.1.1
      have hs : sgN n b0 b1 b2 b3 = 3 := by unfold sgN; rw [if_neg c0, if_neg c1, if_pos c2, if_pos d2]
      clear d2
      exact done0 3 _ hs (by unfold decN; rw [if_neg c0, if_neg (by omega), if_pos (by omega), if_pos (by omega)]) (Or.inr ⟨by decide, rfl, fun h => absurd h.2 (by simp)⟩)
    · have hs : sgN n b0 b1 b2 b3 = 0 := by unfold sgN; rw [if_neg c0, if_neg c1, if_pos c2, if_neg d2]
      by_cases d3 : b0 / 16 = 14 ∧ (1 < n ∧ b1 / 64 = 2) ∧ 2 < n ∧ b2 / 64 = 2
      · have e5 : (b0 = 224 ∧ b1 < 160) ∨ (b0 = 237 ∧ 159 < b1) := by
          by_cases a : b0 = 224
          · rw [if_pos a, if_neg (by omega)] at d2; omega
          · by_cases b : b0 = 237
            · rw [if_neg a, if_pos b] at d2; omega
            · rw [if_neg a, if_neg b] at d2; omega
        clear d2
        exact done0 0 _ hs (by unfold decN; rw [if_neg c0, if_neg (by omega), if_pos d3, if_neg (by omega)]) (Or.inl ⟨rfl, rfl⟩)
      · exact done0 0 _ hs (by unfold decN; clear d2; rw [if_neg c0, if_neg (by omega), if_neg d3, if_neg (by omega)]) (Or.inl ⟨rfl, rfl⟩)
  by_cases c3 : 240 ≤ b0 ∧ b0 ≤ 244
  · by_cases d2 : (1 < n ∧ (if b0 = 240 then 144 else 128) ≤ b1 ∧ b1 ≤ (if b0 = 244 then 143 else 191)) ∧ (2 < n ∧ 128 ≤ b2 ∧ b2 ≤ 191) ∧ 3 < n ∧ 128 ≤ b3 ∧ b3 ≤ 191
    · have e1 : b0 = 240 → 144 ≤ b1 := fun e => by have := d2.1.2.1; rw [if_pos e] at this; exact this
      have e2 : b0 = 244 → b1 ≤ 143 := fun e => by have := d2.1.2.2; rw [if_pos e] at this; exact this
      have e3 : 128 ≤ b1 := by have := d2.1.2.1; split at this <;> omega
      have e4 : b1 ≤ 191 := by have := d2.1.2.2; split at this <;> omega
      have e6 := d2.2
      have e7 := d2.1.1
      have hs : sgN n b0 b1 b2 b3 = 4 := by unfold sgN; rw [if_neg c0, if_neg c1, if_neg c2, if_pos c3, if_pos d2]
      clear d2
      exact done0 4 _ hs (by unfold decN; rw [if_neg c0, if_neg (by omega), if_neg (by omega), if_pos (by omega), if_pos (by omega)]) (Or.inr ⟨by decide, rfl, fun h => absurd h.2 (by simp)⟩)
    · have hs : sgN n b0 b1 b2 b3 = 0 := by unfold sgN; rw [if_neg c0, if_neg c1, if_neg c2, if_pos c3, if_neg d2]
      by_cases d3 : b0 / 8 = 30 ∧ (1 < n ∧ b1 / 64 = 2) ∧ (2 < n ∧ b2 / 64 = 2) ∧ 3 < n ∧ b3 / 64 = 2
      · have e5 : (b0 = 240 ∧ b1 < 144) ∨ (b0 = 244 ∧ 143 < b1) := by
          by_cases a : b0 = 240
          · rw [if_pos a, if_neg (by omega)] at d2; omega
          · by_cases b : b0 = 244
            · rw [if_neg a, if_pos b] at d2; omega
            · rw [if_neg a, if_neg b] at d2; omega
        clear d2
        exact done0 0 _ hs (by unfold decN; rw [if_neg c0, if_neg (by omega), if_neg (by omega), if_pos d3, if_neg (by omega)]) (Or.inl ⟨rfl, rfl⟩)
      · exact done0 0 _ hs (by unfold decN; clear d2; rw [if_neg c0, if_neg (by omega), if_neg (by omega), if_neg d3]) (Or.inl ⟨rfl, rfl⟩)
  have hs : sgN n b0 b1 b2 b3 = 0 := by unfold sgN; rw [if_neg c0, if_neg c1, if_neg c2, if_neg c3]
  by_cases d1 : b0 / 32 = 6 ∧ 1 < n ∧ b1 / 64 = 2
  · exact done0 0 _ hs (by unfold decN; rw [if_neg c0, if_pos d1, if_neg (by omega)]) (Or.inl ⟨rfl, rfl⟩)
  by_cases d3 : b0 / 8 = 30 ∧ (1 < n ∧ b1 / 64 = 2) ∧ (2 < n ∧ b2 / 64 = 2) ∧ 3 < n ∧ b3 / 64 = 2
  · exact done0 0 _ hs (by unfold decN; rw [if_neg c0, if_neg d1, if_neg (by omega), if_pos d3, if_neg (by omega)]) (Or.inl ⟨rfl, rfl⟩)
  · exact done0 0 _ hs (by unfold decN; rw [if_neg c0, if_neg d1, if_neg (by omega), if_neg d3]) (Or.inl ⟨rfl, rfl⟩)
theorem decN_irrel {n b0 b1 b2 b3 g1 g2 g3 : Nat} (h1 : 1 < n → g1 = b1) (h2 : 2 < n → g2 = b2) (h3 : 3 < n → g3 = b3) : decN n b0 g1 g2 g3 = decN n b0 b1 b2 b3 := by
  by_cases c1 : 1 < n
  · obtain rfl := h1 c1
    by_cases c2 : 2 < n
    · obtain rfl := h2 c2
      by_cases c3 : 3 < n
      · obtain rfl := h3 c3; rfl
      · unfold decN; simp [c3]
    · have c3 : ¬ 3 < n := by omega
      unfold decN; simp [c2, c3]
  · have c2 : ¬ 2 < n := by omega
    have c3 : ¬ 3 < n := by omega
    unfold decN; simp [c1]
end Go.Proofs.YtbdkalicgpdbkaaDoor
