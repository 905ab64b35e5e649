/-
  PLAIN MATHEMATICS: a decoder of UTF-8 and a reader of its signs, both as numbers.
  WALK: a Writer's Len.
  WALK: satchelref0.Cmp over any two slices of bytes: which is first.
  A text turned into bytes.
  COPY of a list of structs of k cells into memory of its own.
  WALK: satchellaw3.handed.
-/
import Derived.Test.YtnfbiemmdaenpaaDoorPlain
import Derived.Test.YtnfbiemmdaenpaaDoorLen64
import Derived.Test.YtnfbiemmdaenpaaDoorRCopy
import Derived.Test.YtnfbiemmdaenpaaDoorRows0
import Derived.Laws.IdiomStrings
import Derived.Laws.CopyRow
import Derived.Laws.MakeOwn
import Derived.Lib.SlBuf
import Derived.Test.YtnfbiemmdaenpaaDoorPlain2
namespace Go.Proofs.YtnfbiemmdaenpaaDoor

/-- The decoder as numbers. -/
def decN (n b0 b1 b2 b3 : Nat) : Nat × Nat :=
  if b0 < 128 then (b0, 1)
  else if b0 / 32 = 6 ∧ 1 < n ∧ b1 / 64 = 2 then (if b0 % 32 * 64 + b1 % 64 ≥ 128 then (b0 % 32 * 64 + b1 % 64, 2) else (65533, 1))
  else if b0 / 16 = 14 ∧ (1 < n ∧ b1 / 64 = 2) ∧ 2 < n ∧ b2 / 64 = 2 then (if b0 % 16 * 4096 + b1 % 64 * 64 + b2 % 64 ≥ 2048 ∧ (b0 % 16 * 4096 + b1 % 64 * 64 + b2 % 64 < 55296 ∨ 57344 ≤ b0 % 16 * 4096 + b1 % 64 * 64 + b2 % 64) ∧ b0 % 16 * 4096 + b1 % 64 * 64 + b2 % 64 ≤ 1114111 then (b0 % 16 * 4096 + b1 % 64 * 64 + b2 % 64, 3) else (65533, 1))
  else if b0 / 8 = 30 ∧ (1 < n ∧ b1 / 64 = 2) ∧ (2 < n ∧ b2 / 64 = 2) ∧ 3 < n ∧ b3 / 64 = 2 then (if b0 % 8 * 262144 + b1 % 64 * 4096 + b2 % 64 * 64 + b3 % 64 ≥ 65536 ∧ (b0 % 8 * 262144 + b1 % 64 * 4096 + b2 % 64 * 64 + b3 % 64 < 55296 ∨ 57344 ≤ b0 % 8 * 262144 + b1 % 64 * 4096 + b2 % 64 * 64 + b3 % 64) ∧ b0 % 8 * 262144 + b1 % 64 * 4096 + b2 % 64 * 64 + b3 % 64 ≤ 1114111 then (b0 % 8 * 262144 + b1 % 64 * 4096 + b2 % 64 * 64 + b3 % 64, 4) else (65533, 1))
  else (65533, 1)
def sgN (n b0 b1 b2 b3 : Nat) : Nat :=
  if b0 < 128 then 1
  else if 194 ≤ b0 ∧ b0 ≤ 223 then (if 1 < n ∧ 128 ≤ b1 ∧ b1 ≤ 191 then 2 else 0)
  else if 224 ≤ b0 ∧ b0 ≤ 239 then (if (1 < n ∧ (if b0 = 224 then 160 else 128) ≤ b1 ∧ b1 ≤ (if b0 = 237 then 159 else 191)) ∧ 2 < n ∧ 128 ≤ b2 ∧ b2 ≤ 191 then 3 else 0)
  else if 240 ≤ b0 ∧ b0 ≤ 244 then (if (1 < n ∧ (if b0 = 240 then 144 else 128) ≤ b1 ∧ b1 ≤ (if b0 = 244 then 143 else 191)) ∧ (2 < n ∧ 128 ≤ b2 ∧ b2 ≤ 191) ∧ 3 < n ∧ 128 ≤ b3 ∧ b3 ≤ 191 then 4 else 0)
  else 0
theorem dec_sg (n b0 b1 b2 b3 : Nat) (h0 : b0 ≤ 255) (h1 : b1 ≤ 255) (h2 : b2 ≤ 255) (h3 : b3 ≤ 255) :
    (sgN n b0 b1 b2 b3 = 0 → decN n b0 b1 b2 b3 = (65533, 1)) ∧ (sgN n b0 b1 b2 b3 ≠ 0 → (decN n b0 b1 b2 b3).2 = sgN n b0 b1 b2 b3 ∧ ¬ ((decN n b0 b1 b2 b3).1 = 65533 ∧ (decN n b0 b1 b2 b3).2 = 1)) := by
  have done0 : ∀ s d, sgN n b0 b1 b2 b3 = s → decN n b0 b1 b2 b3 = d → ((s = 0 ∧ d = (65533, 1)) ∨ (s ≠ 0 ∧ d.2 = s ∧ ¬ (d.1 = 65533 ∧ d.2 = 1))) → (sgN n b0 b1 b2 b3 = 0 → decN n b0 b1 b2 b3 = (65533, 1)) ∧ (sgN n b0 b1 b2 b3 ≠ 0 → (decN n b0 b1 b2 b3).2 = sgN n b0 b1 b2 b3 ∧ ¬ ((decN n b0 b1 b2 b3).1 = 65533 ∧ (decN n b0 b1 b2 b3).2 = 1)) := by
    intro s d hs hd h
    rw [hs, hd]
    rcases h with ⟨h1, h2⟩ | ⟨h1, h2, h3⟩
    · exact ⟨fun _ => h2, fun h => absurd h1 h⟩
    · exact ⟨fun h => absurd h h1, fun _ => ⟨h2, h3⟩⟩
  by_cases c0 : b0 < 128
  · refine done0 1 (b0, 1) (by unfold sgN; rw [if_pos c0]) (by unfold decN; rw [if_pos c0]) (Or.inr ⟨by decide, rfl, fun h => ?_⟩)
    have := h.1
    dsimp only at this
    omega
  by_cases c1 : 194 ≤ b0 ∧ b0 ≤ 223
  · by_cases d1 : 1 < n ∧ 128 ≤ b1 ∧ b1 ≤ 191
    · exact done0 2 _ (by unfold sgN; rw [if_neg c0, if_pos c1, if_pos d1]) (by unfold decN; rw [if_neg c0, if_pos (by omega), if_pos (by omega)]) (Or.inr ⟨by decide, rfl, fun h => absurd h.2 (by simp)⟩)
    · exact done0 0 _ (by unfold sgN; rw [if_neg c0, if_pos c1, if_neg d1]) (by unfold decN; rw [if_neg c0, if_neg (by omega), if_neg (by omega), if_neg (by omega)]) (Or.inl ⟨rfl, rfl⟩)
  by_cases c2 : 224 ≤ b0 ∧ b0 ≤ 239
  · by_cases d2 : (1 < n ∧ (if b0 = 224 then 160 else 128) ≤ b1 ∧ b1 ≤ (if b0 = 237 then 159 else 191)) ∧ 2 < n ∧ 128 ≤ b2 ∧ b2 ≤ 191
    · have e1 : b0 = 224 → 160 ≤ b1 := fun e => by have := d2.1.2.1; rw [if_pos e] at this; exact this
      have e2 : b0 = 237 → b1 ≤ 159 := fun e => by have := d2.1.2.2; rw [if_pos e] at this; exact this
      have e3 : 128 ≤ b1 := by have := d2.1.2.1; split at this <;> omega
      have e4 : b1 ≤ 191 := by have := d2.1.2.2; split at this <;> omega
      have e6 := d2.2
      have e7 := d2.1.1
      have hs : sgN n b0 b1 b2 b3 = 3 := by unfold sgN; rw [if_neg c0, if_neg c1, if_pos c2, if_pos d2]
      clear d2
      exact done0 3 _ hs (by unfold decN; rw [if_neg c0, if_neg (by omega), if_pos (by omega), if_pos (by omega)]) (Or.inr ⟨by decide, rfl, fun h => absurd h.2 (by simp)⟩)
    · have hs : sgN n b0 b1 b2 b3 = 0 := by unfold sgN; rw [if_neg c0, if_neg c1, if_pos c2, if_neg d2]
      by_cases d3 : b0 / 16 = 14 ∧ (1 < n ∧ b1 / 64 = 2) ∧ 2 < n ∧ b2 / 64 = 2
      · have e5 : (b0 = 224 ∧ b1 < 160) ∨ (b0 = 237 ∧ 159 < b1) := by
          by_cases a : b0 = 224
          · rw [if_pos a, if_neg (by omega)] at d2; omega
          · by_cases b : b0 = 237
            · rw [if_neg a, if_pos b] at d2; omega
            · rw [if_neg a, if_neg b] at d2; omega
        clear d2
        exact done0 0 _ hs (by unfold decN; rw [if_neg c0, if_neg (by omega), if_pos d3, if_neg (by omega)]) (Or.inl ⟨rfl, rfl⟩)
      · exact done0 0 _ hs (by unfold decN; clear d2; rw [if_neg c0, if_neg (by omega), if_neg d3, if_neg (by omega)]) (Or.inl ⟨rfl, rfl⟩)
  by_cases c3 : 240 ≤ b0 ∧ b0 ≤ 244
  · by_cases d2 : (1 < n ∧ (if b0 = 240 then 144 else 128) ≤ b1 ∧ b1 ≤ (if b0 = 244 then 143 else 191)) ∧ (2 < n ∧ 128 ≤ b2 ∧ b2 ≤ 191) ∧ 3 < n ∧ 128 ≤ b3 ∧ b3 ≤ 191
    · have e1 : b0 = 240 → 144 ≤ b1 := fun e => by have := d2.1.2.1; rw [if_pos e] at this; exact this
      have e2 : b0 = 244 → b1 ≤ 143 := fun e => by have := d2.1.2.2; rw [if_pos e] at this; exact this
      have e3 : 128 ≤ b1 := by have := d2.1.2.1; split at this <;> omega
      have e4 : b1 ≤ 191 := by have := d2.1.2.2; split at this <;> omega
      have e6 := d2.2
      have e7 := d2.1.1
      have hs : sgN n b0 b1 b2 b3 = 4 := by unfold sgN; rw [if_neg c0, if_neg c1, if_neg c2, if_pos c3, if_pos d2]
      clear d2
      exact done0 4 _ hs (by unfold decN; rw [if_neg c0, if_neg (by omega), if_neg (by omega), if_pos (by omega), if_pos (by omega)]) (Or.inr ⟨by decide, rfl, fun h => absurd h.2 (by simp)⟩)
    · have hs : sgN n b0 b1 b2 b3 = 0 := by unfold sgN; rw [if_neg c0, if_neg c1, if_neg c2, if_pos c3, if_neg d2]
      by_cases d3 : b0 / 8 = 30 ∧ (1 < n ∧ b1 / 64 = 2) ∧ (2 < n ∧ b2 / 64 = 2) ∧ 3 < n ∧ b3 / 64 = 2
      · have e5 : (b0 = 240 ∧ b1 < 144) ∨ (b0 = 244 ∧ 143 < b1) := by
          by_cases a : b0 = 240
          · rw [if_pos a, if_neg (by omega)] at d2; omega
          · by_cases b : b0 = 244
            · rw [if_neg a, if_pos b] at d2; omega
            · rw [if_neg a, if_neg b] at d2; omega
        clear d2
        exact done0 0 _ hs (by unfold decN; rw [if_neg c0, if_neg (by omega), if_neg (by omega), if_pos d3, if_neg (by omega)]) (Or.inl ⟨rfl, rfl⟩)
      · exact done0 0 _ hs (by unfold decN; clear d2; rw [if_neg c0, if_neg (by omega), if_neg (by omega), if_neg d3]) (Or.inl ⟨rfl, rfl⟩)
  have hs : sgN n b0 b1 b2 b3 = 0 := by unfold sgN; rw [if_neg c0, if_neg c1, if_neg c2, if_neg c3]
  by_cases d1 : b0 / 32 = 6 ∧ 1 < n ∧ b1 / 64 = 2
  · exact done0 0 _ hs (by unfold decN; rw [if_neg c0, if_pos d1, if_neg (by omega)]) (Or.inl ⟨rfl, rfl⟩)
  by_cases d3 : b0 / 8 = 30 ∧ (1 < n ∧ b1 / 64 = 2) ∧ (2 < n ∧ b2 / 64 = 2) ∧ 3 < n ∧ b3 / 64 = 2
  · exact done0 0 _ hs (by unfold decN; rw [if_neg c0, if_neg d1, if_neg (by omega), if_pos d3, if_neg (by omega)]) (Or.inl ⟨rfl, rfl⟩)
  · exact done0 0 _ hs (by unfold decN; rw [if_neg c0, if_neg d1, if_neg (by omega), if_neg d3]) (Or.inl ⟨rfl, rfl⟩)
theorem decN_irrel {n b0 b1 b2 b3 g1 g2 g3 : Nat} (h1 : 1 < n → g1 = b1) (h2 : 2 < n → g2 = b2) (h3 : 3 < n → g3 = b3) : decN n b0 g1 g2 g3 = decN n b0 b1 b2 b3 := by
  by_cases c1 : 1 < n
  · obtain rfl := h1 c1
    by_cases c2 : 2 < n
    · obtain rfl := h2 c2
      by_cases c3 : 3 < n
      · obtain rfl := h3 c3; rfl
      · unfold decN; simp [c3]
    · have c3 : ¬ 3 < n := by omega
      unfold decN; simp [c2, c3]
  · have c2 : ¬ 2 < n := by omega
    have c3 : ¬ 3 < n := by omega
    unfold decN; simp [c1]
end Go.Proofs.YtnfbiemmdaenpaaDoor

namespace Go.Proofs.YtnfbiemmdaenpaaDoor
open Go.RowKit

theorem WLen_any {w : World} {wb B : Nat} {zs : List Int} {S : List Nat} (h : WAt w wb B zs S) : Calls Tryd.prog 21 #[.pointer (some ⟨wb, 0, none⟩)] w fun e w' => e = .returned (.int .i64 zs.length) ∧ w' = w := by
  obtain ⟨ao, cap, hc, _⟩ := h.bytes
  clear h
  go_enter Tryd.func21, Tryd.ntmps21
  go_wp2
  go_ret
  exact ⟨rfl, rfl⟩

end Go.Proofs.YtnfbiemmdaenpaaDoor

namespace Go.Proofs.YtnfbiemmdaenpaaDoor
open Go.RowKit

/-- Which of two lists is first: -1, 0, 1. -/
def cmpZ : List Int → List Int → Int
  | [], [] => 0
  | [], _ :: _ => -1
  | _ :: _, [] => 1
  | a :: x, b :: y => if a < b then -1 else if b < a then 1 else cmpZ x y
theorem cmpZ_cons (a : Int) (x y : List Int) : cmpZ (a :: x) (a :: y) = cmpZ x y := by simp [cmpZ]
theorem cmpZ_drop : ∀ (k : Nat) (us vs : List Int), us.take k = vs.take k → k ≤ us.length → k ≤ vs.length → cmpZ us vs = cmpZ (us.drop k) (vs.drop k)
  | 0, us, vs, _, _, _ => by simp
  | k + 1, [], vs, _, h, _ => by simp at h
  | k + 1, a :: us, [], _, _, h => by simp at h
  | k + 1, a :: us, b :: vs, h, h1, h2 => by
    simp only [List.take_succ_cons, List.cons.injEq] at h
    obtain ⟨rfl, h⟩ := h
    rw [cmpZ_cons, cmpZ_drop k us vs h (by simpa using h1) (by simpa using h2)]
    rfl
theorem cmpZ_nil (vs : List Int) : cmpZ [] vs = if 0 < vs.length then -1 else if vs.length < 0 then 1 else 0 := by cases vs <;> simp [cmpZ]
theorem cmpZ_none (us : List Int) : cmpZ us [] = if us.length < 0 then -1 else if 0 < us.length then 1 else 0 := by cases us <;> simp [cmpZ]
theorem cmpZ_at {us vs : List Int} {k : Nat} (ha : k < us.length) (hb : k < vs.length) (h : us.take k = vs.take k) : (us[k]?.getD 0 < vs[k]?.getD 0 → cmpZ us vs = -1) ∧ (vs[k]?.getD 0 < us[k]?.getD 0 → cmpZ us vs = 1) := by
  rw [cmpZ_drop k us vs h (by omega) (by omega), List.drop_eq_getElem_cons ha, List.drop_eq_getElem_cons hb, List.getElem?_eq_getElem ha, List.getElem?_eq_getElem hb]
  simp only [Option.getD_some, cmpZ]
  refine ⟨fun h => if_pos h, fun h => ?_⟩
  rw [if_neg (by omega), if_pos h]
theorem cmpZ_end {us vs : List Int} {k : Nat} (h : us.take k = vs.take k) (ha : k ≤ us.length) (hb : k ≤ vs.length) (hk : us.length ≤ k ∨ vs.length ≤ k) : cmpZ us vs = if us.length < vs.length then -1 else if vs.length < us.length then 1 else 0 := by
  rw [cmpZ_drop k us vs h ha hb]
  rcases hk with hk | hk
  · obtain rfl : k = us.length := by omega
    rw [List.drop_eq_nil_of_le (Nat.le_refl _), cmpZ_nil, List.length_drop]
    by_cases h1 : us.length < vs.length
    · rw [if_pos (by omega), if_pos h1]
    · rw [if_neg (by omega), if_neg (by omega), if_neg h1, if_neg (by omega)]
  · obtain rfl : k = vs.length := by omega
    rw [List.drop_eq_nil_of_le (Nat.le_refl vs.length), cmpZ_none, List.length_drop]
    by_cases h1 : vs.length < us.length
    · rw [if_neg (by omega), if_pos (by omega), if_neg (by omega), if_pos h1]
    · rw [if_neg (by omega), if_neg (by omega), if_neg (by omega), if_neg h1]

/-- One of the two is empty. -/
theorem cmpZ_edge (ao bo : Option Addr) (la lb ca cb : Nat) (w : World) (h : la = 0 ∨ lb = 0) (ha : la ≤ 140737488355328) (hb : lb ≤ 140737488355328) : Calls Tryd.prog 28 #[.slice ao la ca, .slice bo lb cb] w fun e w' => ∃ c, e = .returned (.int .i64 c) ∧ c = (if la < lb then -1 else if lb < la then 1 else 0) ∧ ∃ n, w' = w.drewN n := by
  rcases h with rfl | rfl
  · by_cases h0 : lb = 0
    · subst h0
      refine (cmp_empty ao bo ca cb w).mono ?_
      rintro e w' ⟨rfl, n, rfl⟩
      exact ⟨0, rfl, by simp, n, rfl⟩
    · have h1 : 1 ≤ lb := by omega
      go_enter Tryd.func28, Tryd.ntmps28
      go_wp2
      refine wp_loop_rounds 1 ?_
      rw [rounds_succ]
      go_wp2
      go_ret
      exact ⟨-1, rfl, by first | rfl | rw [if_pos (by omega)], 0, rfl⟩
  · by_cases h0 : la = 0
    · subst h0
      refine (cmp_empty ao bo ca cb w).mono ?_
      rintro e w' ⟨rfl, n, rfl⟩
      exact ⟨0, rfl, by simp, n, rfl⟩
    · have h1 : 1 ≤ la := by omega
      go_enter Tryd.func28, Tryd.ntmps28
      go_wp2
      refine wp_loop_rounds 1 ?_
      rw [rounds_succ]
      go_wp2
      go_ret
      exact ⟨1, rfl, by first | rfl | rw [if_neg (by omega), if_pos (by omega)], 0, rfl⟩

set_option maxHeartbeats 2000000 in
theorem cmpZ_both (b1 o1 c1 b2 o2 c2 : Nat) (us vs : List Int) (w : World) (ha : us.length ≤ 140737488355328) (_hb : vs.length ≤ 140737488355328)
    (h1 : ∀ i, i < us.length → w.cell? ⟨b1, o1 + i, none⟩ = some (.int .u8 (us[i]?.getD 0))) (h2 : ∀ i, i < vs.length → w.cell? ⟨b2, o2 + i, none⟩ = some (.int .u8 (vs[i]?.getD 0))) :
    Calls Tryd.prog 28 #[.slice (some ⟨b1, o1, none⟩) us.length c1, .slice (some ⟨b2, o2, none⟩) vs.length c2] w fun e w' => ∃ c, e = .returned (.int .i64 c) ∧ c = cmpZ us vs ∧ ∃ n, w' = w.drewN n := by
  go_enter Tryd.func28, Tryd.ntmps28
  go_wp2
  go_loopw [5] (fun i wr => ∃ k : Nat, k ≤ us.length ∧ k ≤ vs.length ∧ i = .int .i64 k ∧ Hid (us.take k = vs.take k) ∧ ∃ n, wr = w.drewN n) (fun i _ => us.length - (intOf i).toNat)
  case atStart => exact ⟨0, Nat.zero_le _, Nat.zero_le _, rfl, rfl, 0, rfl⟩
  case round =>
    obtain ⟨k, hka, hkb, rfl, HT, n, rfl⟩ := hrel
    by_cases hlt : k < us.length
    · by_cases hlt2 : k < vs.length
      · have g1 := h1 k hlt
        have g2 := h2 k hlt2
        have hne := cmpZ_at hlt hlt2 HT.out
        have heq := take_eq_succ hlt hlt2 HT.out
        obtain ⟨x, hx⟩ : ∃ x, x = us[k]?.getD 0 := ⟨_, rfl⟩
        obtain ⟨y, hy⟩ : ∃ y, y = vs[k]?.getD 0 := ⟨_, rfl⟩
        rw [← hx] at g1 hne heq
        rw [← hy] at g2 hne heq
        have HNE : Hid ((x < y → cmpZ us vs = -1) ∧ (y < x → cmpZ us vs = 1)) := hne
        have HEQ : Hid (x = y → us.take (k + 1) = vs.take (k + 1)) := heq
        clear hx hy h1 h2 hne heq
        have i0 : (0 : Int) ≤ (k : Int) := by omega
        have i1 : (k : Int) < (us.length : Int) := by omega
        have i2 : (k : Int) < (vs.length : Int) := by omega
        rcases Int.lt_trichotomy x y with hxy | hxy | hxy
        · go_wp2
          go_quiet (fail)
          go_wp2
          go_ret
          exact ⟨-1, rfl, (HNE.out.1 hxy).symm, (by first | exact ⟨_, rfl⟩ | exact drew_two _ _ _ | exact drew_three _ _ _ _)⟩
        · subst hxy
          have HE : Hid (us.take (k + 1) = vs.take (k + 1)) := HEQ.out rfl
          clear HEQ HNE
          go_wp2
          go_quiet (fail)
          go_wp2
          go_quiet (fail)
          go_wp2
          go_roundw
          case rel => exact ⟨k + 1, by omega, by omega, by go_num, HE, (by first | exact ⟨_, rfl⟩ | exact drew_two _ _ _ | exact drew_three _ _ _ _)⟩
          case measure => simp [intOf]; omega
        · have hyx : ¬ x < y := by omega
          go_wp2
          go_quiet (fail)
          go_wp2
          go_quiet (fail)
          go_wp2
          go_ret
          exact ⟨1, rfl, (HNE.out.2 hxy).symm, (by first | exact ⟨_, rfl⟩ | exact drew_two _ _ _ | exact drew_three _ _ _ _)⟩
      · have hl := cmpZ_end HT.out hka hkb (Or.inr (by omega))
        have HL : Hid (cmpZ us vs = if us.length < vs.length then -1 else if vs.length < us.length then 1 else 0) := hl
        clear h1 h2 hl
        go_wp2
        go_ret
        exact ⟨1, rfl, by rw [HL.out, if_neg (by omega), if_pos (by omega)], _, rfl⟩
    · have hl := cmpZ_end HT.out hka hkb (Or.inl (by omega))
      have HL : Hid (cmpZ us vs = if us.length < vs.length then -1 else if vs.length < us.length then 1 else 0) := hl
      clear h1 h2 hl
      by_cases hlt2 : us.length < vs.length
      · go_wp2
        go_ret
        exact ⟨-1, rfl, by rw [HL.out, if_pos (by omega)], _, rfl⟩
      · go_wp2
        go_ret
        exact ⟨0, rfl, by rw [HL.out, if_neg (by omega), if_neg (by omega)], _, rfl⟩

theorem CmpZ_any {w : World} {u v : Value} {us vs : List Int} (hu : BytesAt w u us) (hv : BytesAt w v vs) (ha : us.length ≤ 140737488355328) (hb : vs.length ≤ 140737488355328) : Calls Tryd.prog 28 #[u, v] w fun e w' => e = .returned (.int .i64 (cmpZ us vs)) ∧ ∃ n, w' = w.drewN n := by
  rcases hu.parts with ⟨rfl, ao, ca, rfl⟩ | ⟨b1, o1, c1, rfl, _, h0, h1⟩
  · obtain ⟨bo, cb, rfl, _⟩ := hv
    refine (cmpZ_edge ao bo 0 vs.length ca cb w (Or.inl rfl) (by decide) hb).mono ?_
    rintro e w' ⟨c, he, hc, hn⟩
    exact ⟨by rw [he, hc, cmpZ_nil], hn⟩
  · rcases hv.parts with ⟨rfl, bo, cb, rfl⟩ | ⟨b2, o2, c2, rfl, _, _, h2⟩
    · refine (cmpZ_edge (some ⟨b1, o1, none⟩) bo us.length 0 c1 cb w (Or.inr rfl) ha (by decide)).mono ?_
      rintro e w' ⟨c, he, hc, hn⟩
      exact ⟨by rw [he, hc, cmpZ_none], hn⟩
    · refine (cmpZ_both b1 o1 c1 b2 o2 c2 us vs w ha hb h1 h2).mono ?_
      rintro e w' ⟨c, he, hc, hn⟩
      exact ⟨by rw [he, hc], hn⟩
end Go.Proofs.YtnfbiemmdaenpaaDoor

namespace Go.Proofs.YtnfbiemmdaenpaaDoor
open Go.RowKit

/-- A text turned into bytes. -/
theorem conv_txt (w : World) (xs : List Int) (ho : Octs xs) : ∃ cap w1, (convert 9 22 (.string (strOfNums xs))).run Tryd.prog w = .ok (.slice (some ⟨w.heap.size, 0, none⟩) xs.length cap) w1 ∧ BytesAt w1 (.slice (some ⟨w.heap.size, 0, none⟩) xs.length cap) xs ∧ Kept [] w w1 ∧ w.heap.size < w1.heap.size := by
  have h := run_bytes_of_string (P := Tryd.prog) w 9 22 5 (strOfNums xs) Tryd.underlying9 Tryd.underlying22 Tryd.underlying5
  rw [strOfNums_size] at h
  refine ⟨_, _, h, ⟨_, _, rfl, ?_, fun e => (by cases e), fun _ => ⟨w.heap.size, 0, rfl, fun i u hu => ?_⟩⟩, (Kept.refl [] w).drew.alloc _, by rw [World.size_alloc]; exact Nat.lt_succ_self _⟩
  · exact grownCap_ge w _ _ _
  · have hi : i < xs.length := (List.getElem?_eq_some_iff.1 hu).1
    have hr := ho u (List.mem_of_getElem? hu)
    refine (World.cell?_alloc_mark w.drew _ _ _ _).trans ?_
    rw [Nat.zero_add]
    unfold bytesRow
    rw [Array.getElem?_append_left (by rw [Array.size_map]; show i < (strOfNums xs).size; rw [strOfNums_size]; exact hi), Array.getElem?_map, ← Array.getElem?_toList, strOfNums_data, List.getElem?_map, hu]
    simp
    omega
end Go.Proofs.YtnfbiemmdaenpaaDoor

namespace Go.Proofs.YtnfbiemmdaenpaaDoor
open Go.RowKit

theorem run_copy_k {P : Program} (w : World) (dT sT ty elem : TypeId) (k : Nat) (g dLen dCap : Nat) (a : Addr) (sLen sCap : Nat) (cur : Array Value) (t : TypeId) (cs : List Value)
    (hu : P.underlying dT = some (.slice elem)) (hs : (P.info? elem).map (·.size) = some k)
    (hg : w.heap[g]? = some (.cells cur t (0, 0))) (hn : cs.length = Nat.min sLen dLen * k)
    (hsrc : ∀ j v, cs[j]? = some v → w.cell? (a.add j) = some v) (hfit : cs.length = cur.size) (h1 : ∀ v ∈ cs, v.oneCell' = true) :
    (Builtin.copy_ #[dT, sT] ty #[.slice (some ⟨g, 0, none⟩) dLen dCap, .slice (some a) sLen sCap]).run P w =
      .ok (goInt (Nat.min sLen dLen)) (w.setRow g cs.toArray) := by
  have hl := run_loadCells_list (P := P) w a cs hsrc
  have hst := run_storeCells_at P g 0 t cs 0 cur w hg (by omega) h1
  have e : (cur.toList.take (0 + 0) ++ cs ++ cur.toList.drop (0 + 0 + cs.length)).toArray = cs.toArray := by
    rw [List.drop_eq_nil_of_le (by rw [Array.length_toList]; omega)]
    simp
  rw [e] at hst
  cases hq : P.info? elem with
  | none => simp [hq] at hs
  | some i =>
    have hi : i.size = k := by simpa [hq] using hs
    simp [Builtin.copy_, run_underlying hu, Builtin.lenOf, Builtin.firstCells, sizeOf, typeInfo, hq, hi, ← hn, hl, hst]

/-- Rows of k cells that lie in a row from an address on, as one list of cells. -/
theorem rows_src {w : World} {b off k : Nat} (hk : 0 < k) {rows : List (List Value)} (hr : ∀ r, r ∈ rows → r.length = k) (h : ∀ (i : Nat) (cs : List Value), rows[i]? = some cs → w.rangeAt b (off + i * k) cs) :
    ∀ j v, rows.flatten[j]? = some v → w.cell? ((⟨b, off, none⟩ : Addr).add j) = some v := fun j v hj => by
  rw [flat_bind k hk rows hr j] at hj
  obtain ⟨r, hri, hrj⟩ := Option.bind_eq_some_iff.1 hj
  have hc := h _ r hri _ v hrj
  rw [Addr.add_mid]
  rw [show off + j / k * k + j % k = off + j by have := Nat.div_add_mod j k; rw [Nat.mul_comm] at this; omega] at hc
  exact hc
end Go.Proofs.YtnfbiemmdaenpaaDoor

namespace Go.Proofs.YtnfbiemmdaenpaaDoor
open Go.RowKit

set_option maxRecDepth 100000 in
set_option maxHeartbeats 2000000 in
theorem handed_any (v : Value) (xs : List Int) (w : World) (hv : BytesAt w v xs) (hm : xs.length ≤ 140737488355328) :
    Calls Tryd.prog 13 #[v] w fun e w' => ∃ ao c, e = .returned (.slice ao xs.length c) ∧ BytesAt w' (.slice ao xs.length c) xs ∧ Kept [] w w' := by
  have hcopy := Copy_any v xs w hv hm
  have HV : Hid (BytesAt w v xs) := hv
  obtain ⟨ao, cap, rfl, h1, h0, _⟩ := hv
  cases ao with
  | none =>
    have e1 : cap = 0 := h0 rfl
    have e2 : xs = [] := List.eq_nil_of_length_eq_zero (by omega)
    subst e1 e2
    clear hcopy
    have hb : ∀ W, (binOp .eql 22 (.slice none 0 0) (.slice none 0 0)).run Tryd.prog W = .ok (.bool true) W := fun W => by kernel_rfl
    go_enter Tryd.func13, Tryd.ntmps13
    go_wp2
    go_ret
    exact ⟨none, 0, rfl, BytesAt.nil w, Kept.refl _ _⟩
  | some a =>
    have hb : ∀ W n c, (binOp .eql 22 (.slice (some a) n c) (.slice none 0 0)).run Tryd.prog W = .ok (.bool false) W := fun W n c => by kernel_rfl
    go_enter Tryd.func13, Tryd.ntmps13
    go_wp2_with fail
    go_at_call 23
    refine hcopy.mono ?_
    rintro e w1 ⟨rfl, row1, k1⟩
    have HB : Hid (BytesAt w1 (.slice (some ⟨w.heap.size, 0, none⟩) xs.length xs.length) xs) := row_bytes' row1
    have HK : Hid (Kept [] w w1) := k1
    clear hcopy row1 k1
    go_wp2
    go_ret
    exact ⟨_, _, rfl, HB.out, HK.out⟩

end Go.Proofs.YtnfbiemmdaenpaaDoor
