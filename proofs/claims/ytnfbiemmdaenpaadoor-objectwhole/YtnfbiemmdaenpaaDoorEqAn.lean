/-
  PLAIN MATHEMATICS: a decoder of UTF-8 and a reader of its signs, both as numbers.
  WALK: a Writer's Len.
  WALKS: satchelref0.Cmp and Eq over two slices of the same bytes; satchellaw1.into.
  WALKS: satchelref0.Cmp and Eq over any two slices of bytes.
-/
import Derived.Test.YtnfbiemmdaenpaaDoorPlain
import Derived.Test.YtnfbiemmdaenpaaDoorFixB
import Derived.Deep.QuietTactic
import Derived.BigQuiet
namespace Go.Proofs.YtnfbiemmdaenpaaDoor

/-- The decoder as numbers. -/
def decN (n b0 b1 b2 b3 : Nat) : Nat × Nat :=
  if b0 < 128 then (b0, 1)
  else if b0 / 32 = 6 ∧ 1 < n ∧ b1 / 64 = 2 then (if b0 % 32 * 64 + b1 % 64 ≥ 128 then (b0 % 32 * 64 + b1 % 64, 2) else (65533, 1))
  else if b0 / 16 = 14 ∧ (1 < n ∧ b1 / 64 = 2) ∧ 2 < n ∧ b2 / 64 = 2 then (if b0 % 16 * 4096 + b1 % 64 * 64 + b2 % 64 ≥ 2048 ∧ (b0 % 16 * 4096 + b1 % 64 * 64 + b2 % 64 < 55296 ∨ 57344 ≤ b0 % 16 * 4096 + b1 % 64 * 64 + b2 % 64) ∧ b0 % 16 * 4096 + b1 % 64 * 64 + b2 % 64 ≤ 1114111 then (b0 % 16 * 4096 + b1 % 64 * 64 + b2 % 64, 3) else (65533, 1))
  else if b0 / 8 = 30 ∧ (1 < n ∧ b1 / 64 = 2) ∧ (2 < n ∧ b2 / 64 = 2) ∧ 3 < n ∧ b3 / 64 = 2 then (if b0 % 8 * 262144 + b1 % 64 * 4096 + b2 % 64 * 64 + b3 % 64 ≥ 65536 ∧ (b0 % 8 * 262144 + b1 % 64 * 4096 + b2 % 64 * 64 + b3 % 64 < 55296 ∨ 57344 ≤ b0 % 8 * 262144 + b1 % 64 * 4096 + b2 % 64 * 64 + b3 % 64) ∧ b0 % 8 * 262144 + b1 % 64 * 4096 + b2 % 64 * 64 + b3 % 64 ≤ 1114111 then (b0 % 8 * 262144 + b1 % 64 * 4096 + b2 % 64 * 64 + b3 % 64, 4) else (65533, 1))
  else (65533, 1)
def sgN (n b0 b1 b2 b3 : Nat) : Nat :=
  if b0 < 128 then 1
  else if 194 ≤ b0 ∧ b0 ≤ 223 then (if 1 < n ∧ 128 ≤ b1 ∧ b1 ≤ 191 then 2 else 0)
  else if 224 ≤ b0 ∧ b0 ≤ 239 then (if (1 < n ∧ (if b0 = 224 then 160 else 128) ≤ b1 ∧ b1 ≤ (if b0 = 237 then 159 else 191)) ∧ 2 < n ∧ 128 ≤ b2 ∧ b2 ≤ 191 then 3 else 0)
  else if 240 ≤ b0 ∧ b0 ≤ 244 then (if (1 < n ∧ (if b0 = 240 then 144 else 128) ≤ b1 ∧ b1 ≤ (if b0 = 244 then 143 else 191)) ∧ (2 < n ∧ 128 ≤ b2 ∧ b2 ≤ 191) ∧ 3 < n ∧ 128 ≤ b3 ∧ b3 ≤ 191 then 4 else 0)
  else 0
theorem dec_sg (n b0 b1 b2 b3 : Nat) (h0 : b0 ≤ 255) (h1 : b1 ≤ 255) (h2 : b2 ≤ 255) (h3 : b3 ≤ 255) :
    (sgN n b0 b1 b2 b3 = 0 → decN n b0 b1 b2 b3 = (65533, 1)) ∧ (sgN n b0 b1 b2 b3 ≠ 0 → (decN n b0 b1 b2 b3).2 = sgN n b0 b1 b2 b3 ∧ ¬ ((decN n b0 b1 b2 b3).1 = 65533 ∧ (decN n b0 b1 b2 b3).2 = 1)) := by
  have done0 : ∀ s d, sgN n b0 b1 b2 b3 = s → decN n b0 b1 b2 b3 = d → ((s = 0 ∧ d = (65533, 1)) ∨ (s ≠ 0 ∧ d.2 = s ∧ ¬ (d.1 = 65533 ∧ d.2 = 1))) → (sgN n b0 b1 b2 b3 = 0 → decN n b0 b1 b2 b3 = (65533, 1)) ∧ (sgN n b0 b1 b2 b3 ≠ 0 → (decN n b0 b1 b2 b3).2 = sgN n b0 b1 b2 b3 ∧ ¬ ((decN n b0 b1 b2 b3).1 = 65533 ∧ (decN n b0 b1 b2 b3).2 = 1)) := by
    intro s d hs hd h
    rw [hs, hd]
    rcases h with ⟨h1, h2⟩ | ⟨h1, h2, h3⟩
    · exact ⟨fun _ => h2, fun h => absurd h1 h⟩
    · exact ⟨fun h => absurd h h1, fun _ => ⟨h2, h3⟩⟩
  by_cases c0 : b0 < 128
  · refine done0 1 (b0, 1) (by unfold sgN; rw [if_pos c0]) (by unfold decN; rw [if_pos c0]) (Or.inr ⟨by decide, rfl, fun h => ?_⟩)
    have := h.1
    dsimp only at this
    omega
  by_cases c1 : 194 ≤ b0 ∧ b0 ≤ 223
  · by_cases d1 : 1 < n ∧ 128 ≤ b1 ∧ b1 ≤ 191
    · exact done0 2 _ (by unfold sgN; rw [if_neg c0, if_pos c1, if_pos d1]) (by unfold decN; rw [if_neg c0, if_pos (by omega), if_pos (by omega)]) (Or.inr ⟨by decide, rfl, fun h => absurd h.2 (by simp)⟩)
    · exact done0 0 _ (by unfold sgN; rw [if_neg c0, if_pos c1, if_neg d1]) (by unfold decN; rw [if_neg c0, if_neg (by omega), if_neg (by omega), if_neg (by omega)]) (Or.inl ⟨rfl, rfl⟩)
  by_cases c2 : 224 ≤ b0 ∧ b0 ≤ 239
  · by_cases d2 : (1 < n ∧ (if b0 = 224 then 160 else 128) ≤ b1 ∧ b1 ≤ (if b0 = 237 then 159 else 191)) ∧ 2 < n ∧ 128 ≤ b2 ∧ b2 ≤ 191
    · have e1 : b0 = 224 → 160 ≤ b1 := fun e => by have := d2.1.2.1; rw [if_pos e] at this; exact this
      have e2 : b0 = 237 → b1 ≤ 159 := fun e => by have := d2.1.2.2; rw [if_pos e] at this; exact this
      have e3 : 128 ≤ b1 := by have := d2.1.2.1; split at this <;> omega
      have e4 : b1 ≤ 191 := by have := d2.1.2.2; split at this <;> omega
      have e6 := d2.2
      have e7 := d2.1.1
      have hs : sgN n b0 b1 b2 b3 = 3 := by unfold sgN; rw [if_neg c0, if_neg c1, if_pos c2, if_pos d2]
      clear d2
      exact done0 3 _ hs (by unfold decN; rw [if_neg c0, if_neg (by omega), if_pos (by omega), if_pos (by omega)]) (Or.inr ⟨by decide, rfl, fun h => absurd h.2 (by simp)⟩)
    · have hs : sgN n b0 b1 b2 b3 = 0 := by unfold sgN; rw [if_neg c0, if_neg c1, if_pos c2, if_neg d2]
      by_cases d3 : b0 / 16 = 14 ∧ (1 < n ∧ b1 / 64 = 2) ∧ 2 < n ∧ b2 / 64 = 2
      · have e5 : (b0 = 224 ∧ b1 < 160) ∨ (b0 = 237 ∧ 159 < b1) := by
          by_cases a : b0 = 224
          · rw [if_pos a, if_neg (by omega)] at d2; omega
          · by_cases b : b0 = 237
            · rw [if_neg a, if_pos b] at d2; omega
            · rw [if_neg a, if_neg b] at d2; omega
        clear d2
        exact done0 0 _ hs (by unfold decN; rw [if_neg c0, if_neg (by omega), if_pos d3, if_neg (by omega)]) (Or.inl ⟨rfl, rfl⟩)
      · exact done0 0 _ hs (by unfold decN; clear d2; rw [if_neg c0, if_neg (by omega), if_neg d3, if_neg (by omega)]) (Or.inl ⟨rfl, rfl⟩)
  by_cases c3 : 240 ≤ b0 ∧ b0 ≤ 244
  · by_cases d2 : (1 < n ∧ (if b0 = 240 then 144 else 128) ≤ b1 ∧ b1 ≤ (if b0 = 244 then 143 else 191)) ∧ (2 < n ∧ 128 ≤ b2 ∧ b2 ≤ 191) ∧ 3 < n ∧ 128 ≤ b3 ∧ b3 ≤ 191
    · have e1 : b0 = 240 → 144 ≤ b1 := fun e => by have := d2.1.2.1; rw [if_pos e] at this; exact this
      have e2 : b0 = 244 → b1 ≤ 143 := fun e => by have := d2.1.2.2; rw [if_pos e] at this; exact this
      have e3 : 128 ≤ b1 := by have := d2.1.2.1; split at this <;> omega
      have e4 : b1 ≤ 191 := by have := d2.1.2.2; split at this <;> omega
      have e6 := d2.2
      have e7 := d2.1.1
      have hs : sgN n b0 b1 b2 b3 = 4 := by unfold sgN; rw [if_neg c0, if_neg c1, if_neg c2, if_pos c3, if_pos d2]
      clear d2
      exact done0 4 _ hs (by unfold decN; rw [if_neg c0, if_neg (by omega), if_neg (by omega), if_pos (by omega), if_pos (by omega)]) (Or.inr ⟨by decide, rfl, fun h => absurd h.2 (by simp)⟩)
    · have hs : sgN n b0 b1 b2 b3 = 0 := by unfold sgN; rw [if_neg c0, if_neg c1, if_neg c2, if_pos c3, if_neg d2]
      by_cases d3 : b0 / 8 = 30 ∧ (1 < n ∧ b1 / 64 = 2) ∧ (2 < n ∧ b2 / 64 = 2) ∧ 3 < n ∧ b3 / 64 = 2
      · have e5 : (b0 = 240 ∧ b1 < 144) ∨ (b0 = 244 ∧ 143 < b1) := by
          by_cases a : b0 = 240
          · rw [if_pos a, if_neg (by omega)] at d2; omega
          · by_cases b : b0 = 244
            · rw [if_neg a, if_pos b] at d2; omega
            · rw [if_neg a, if_neg b] at d2; omega
        clear d2
        exact done0 0 _ hs (by unfold decN; rw [if_neg c0, if_neg (by omega), if_neg (by omega), if_pos d3, if_neg (by omega)]) (Or.inl ⟨rfl, rfl⟩)
      · exact done0 0 _ hs (by unfold decN; clear d2; rw [if_neg c0, if_neg (by omega), if_neg (by omega), if_neg d3]) (Or.inl ⟨rfl, rfl⟩)
  have hs : sgN n b0 b1 b2 b3 = 0 := by unfold sgN; rw [if_neg c0, if_neg c1, if_neg c2, if_neg c3]
  by_cases d1 : b0 / 32 = 6 ∧ 1 < n ∧ b1 / 64 = 2
  · exact done0 0 _ hs (by unfold decN; rw [if_neg c0, if_pos d1, if_neg (by omega)]) (Or.inl ⟨rfl, rfl⟩)
  by_cases d3 : b0 / 8 = 30 ∧ (1 < n ∧ b1 / 64 = 2) ∧ (2 < n ∧ b2 / 64 = 2) ∧ 3 < n ∧ b3 / 64 = 2
  · exact done0 0 _ hs (by unfold decN; rw [if_neg c0, if_neg d1, if_neg (by omega), if_pos d3, if_neg (by omega)]) (Or.inl ⟨rfl, rfl⟩)
  · exact done0 0 _ hs (by unfold decN; rw [if_neg c0, if_neg d1, if_neg (by omega), if_neg d3]) (Or.inl ⟨rfl, rfl⟩)
theorem decN_irrel {n b0 b1 b2 b3 g1 g2 g3 : Nat} (h1 : 1 < n → g1 = b1) (h2 : 2 < n → g2 = b2) (h3 : 3 < n → g3 = b3) : decN n b0 g1 g2 g3 = decN n b0 b1 b2 b3 := by
  by_cases c1 : 1 < n
  · obtain rfl := h1 c1
    by_cases c2 : 2 < n
    · obtain rfl := h2 c2
      by_cases c3 : 3 < n
      · obtain rfl := h3 c3; rfl
      · unfold decN; simp [c3]
    · have c3 : ¬ 3 < n := by omega
      unfold decN; simp [c2, c3]
  · have c2 : ¬ 2 < n := by omega
    have c3 : ¬ 3 < n := by omega
    unfold decN; simp [c1]
end Go.Proofs.YtnfbiemmdaenpaaDoor

namespace Go.Proofs.YtnfbiemmdaenpaaDoor
open Go.RowKit

theorem WLen_any {w : World} {wb B : Nat} {zs : List Int} {S : List Nat} (h : WAt w wb B zs S) : Calls Tryd.prog 21 #[.pointer (some ⟨wb, 0, none⟩)] w fun e w' => e = .returned (.int .i64 zs.length) ∧ w' = w := by
  obtain ⟨ao, cap, hc, _⟩ := h.bytes
  clear h
  go_enter Tryd.func21, Tryd.ntmps21
  go_wp2
  go_ret
  exact ⟨rfl, rfl⟩

end Go.Proofs.YtnfbiemmdaenpaaDoor

namespace Go.Proofs.YtnfbiemmdaenpaaDoor
open Go.RowKit

theorem cmp_empty (ao bo : Option Addr) (ca cb : Nat) (w : World) : Calls Tryd.prog 28 #[.slice ao 0 ca, .slice bo 0 cb] w fun e w' => e = .returned (.int .i64 0) ∧ ∃ n, w' = w.drewN n := by
  go_enter Tryd.func28, Tryd.ntmps28
  go_wp2
  refine wp_loop_rounds 1 ?_
  rw [rounds_succ]
  go_wp2
  go_ret
  exact ⟨rfl, 0, rfl⟩

set_option maxHeartbeats 1000000 in
theorem cmp_some (b1 o1 c1 b2 o2 c2 : Nat) (ys : List Int) (w : World) (hm : ys.length ≤ 140737488355328)
    (h1 : ∀ i, i < ys.length → w.cell? ⟨b1, o1 + i, none⟩ = some (.int .u8 (ys[i]?.getD 0))) (h2 : ∀ i, i < ys.length → w.cell? ⟨b2, o2 + i, none⟩ = some (.int .u8 (ys[i]?.getD 0))) :
    Calls Tryd.prog 28 #[.slice (some ⟨b1, o1, none⟩) ys.length c1, .slice (some ⟨b2, o2, none⟩) ys.length c2] w fun e w' => e = .returned (.int .i64 0) ∧ ∃ n, w' = w.drewN n := by
  go_enter Tryd.func28, Tryd.ntmps28
  go_wp2
  go_loopw [5] (fun i wr => ∃ k : Nat, k ≤ ys.length ∧ i = .int .i64 k ∧ ∃ n, wr = w.drewN n) (fun i _ => ys.length - (intOf i).toNat)
  case atStart => exact ⟨0, Nat.zero_le _, rfl, 0, rfl⟩
  case round =>
    obtain ⟨k, hk, rfl, n, rfl⟩ := hrel
    by_cases hlt : k < ys.length
    · have g1 := h1 k hlt
      have g2 := h2 k hlt
      obtain ⟨z, hz⟩ : ∃ z, z = ys[k]?.getD 0 := ⟨_, rfl⟩
      rw [← hz] at g1 g2
      clear hz h1 h2
      have i0 : (0 : Int) ≤ (k : Int) := by omega
      have i1 : (k : Int) < (ys.length : Int) := by omega
      go_wp2
      go_quiet (fail)
      go_wp2
      go_quiet (fail)
      go_wp2
      go_roundw
      case rel => exact ⟨k + 1, by omega, by go_num, _, rfl⟩
      case measure => simp [intOf]; omega
    · clear h1 h2
      go_wp2
      go_ret
      exact ⟨rfl, _, rfl⟩

theorem Cmp_same {w : World} {u v : Value} {ys : List Int} (hu : BytesAt w u ys) (hv : BytesAt w v ys) (hm : ys.length ≤ 140737488355328) : Calls Tryd.prog 28 #[u, v] w fun e w' => e = .returned (.int .i64 0) ∧ ∃ n, w' = w.drewN n := by
  rcases hu.parts with ⟨rfl, ao, ca, rfl⟩ | ⟨b1, o1, c1, rfl, _, h0, h1⟩
  · obtain ⟨bo, cb, rfl, _⟩ := hv
    exact cmp_empty ao bo ca cb w
  · rcases hv.parts with ⟨rfl, bo, cb, rfl⟩ | ⟨b2, o2, c2, rfl, _, _, h2⟩
    · simp at h0
    · exact cmp_some b1 o1 c1 b2 o2 c2 ys w hm h1 h2

theorem Eq_same {w : World} {u v : Value} {ys : List Int} (hu : BytesAt w u ys) (hv : BytesAt w v ys) (hm : ys.length ≤ 140737488355328) : Calls Tryd.prog 12 #[u, v] w fun e w' => e = .returned (.bool true) ∧ ∃ n, w' = w.drewN n := by
  have hcall := Cmp_same hu hv hm
  obtain ⟨ao, ca, rfl, _⟩ := hu
  obtain ⟨bo, cb, rfl, _⟩ := hv
  go_enter Tryd.func12, Tryd.ntmps12
  go_wp2_with (go_at_call 28; refine hcall.mono ?_; rintro e w1 ⟨rfl, n, rfl⟩)
  go_ret
  exact ⟨rfl, _, rfl⟩
end Go.Proofs.YtnfbiemmdaenpaaDoor

namespace Go.Proofs.YtnfbiemmdaenpaaDoor
open Go.RowKit

theorem drew_two (w : World) (a b : Nat) : ∃ k, (w.drewN a).drewN b = w.drewN k := ⟨a + b, by simp [World.drewN, Nat.add_assoc]⟩
theorem drew_three (w : World) (a b c : Nat) : ∃ k, ((w.drewN a).drewN b).drewN c = w.drewN k := ⟨a + b + c, by simp [World.drewN, Nat.add_assoc]⟩

/-- One of the two is empty. -/
theorem cmp_edge (ao bo : Option Addr) (la lb ca cb : Nat) (w : World) (h : la = 0 ∨ lb = 0) (ha : la ≤ 140737488355328) (hb : lb ≤ 140737488355328) : Calls Tryd.prog 28 #[.slice ao la ca, .slice bo lb cb] w fun e w' => ∃ c, e = .returned (.int .i64 c) ∧ (c = 0 ↔ la = lb) ∧ ∃ n, w' = w.drewN n := by
  rcases h with rfl | rfl
  · by_cases h0 : lb = 0
    · subst h0
      refine (cmp_empty ao bo ca cb w).mono ?_
      rintro e w' ⟨rfl, n, rfl⟩
      exact ⟨0, rfl, by simp, n, rfl⟩
    · have h1 : 1 ≤ lb := by omega
      go_enter Tryd.func28, Tryd.ntmps28
      go_wp2
      refine wp_loop_rounds 1 ?_
      rw [rounds_succ]
      go_wp2
      go_ret
      exact ⟨-1, rfl, by constructor <;> intro h <;> omega, 0, rfl⟩
  · by_cases h0 : la = 0
    · subst h0
      refine (cmp_empty ao bo ca cb w).mono ?_
      rintro e w' ⟨rfl, n, rfl⟩
      exact ⟨0, rfl, by simp, n, rfl⟩
    · have h1 : 1 ≤ la := by omega
      go_enter Tryd.func28, Tryd.ntmps28
      go_wp2
      refine wp_loop_rounds 1 ?_
      rw [rounds_succ]
      go_wp2
      go_ret
      exact ⟨1, rfl, by constructor <;> intro h <;> omega, 0, rfl⟩

theorem take_ne {us vs : List Int} {k : Nat} (h : us[k]?.getD 0 ≠ vs[k]?.getD 0) : us ≠ vs := by
  rintro rfl; exact h rfl
theorem take_eq_succ {us vs : List Int} {k : Nat} (ha : k < us.length) (hb : k < vs.length) (h : us.take k = vs.take k) (he : us[k]?.getD 0 = vs[k]?.getD 0) : us.take (k + 1) = vs.take (k + 1) := by
  rw [take_snoc us k ha, take_snoc vs k hb, h]
  congr 2
theorem list_of_take {us vs : List Int} {k : Nat} (h : us.take k = vs.take k) (hk : us.length ≤ k ∨ vs.length ≤ k) : us = vs ↔ us.length = vs.length := by
  refine ⟨fun e => by rw [e], fun e => ?_⟩
  rw [List.take_of_length_le (by omega), List.take_of_length_le (by omega)] at h
  exact h

set_option maxHeartbeats 2000000 in
theorem cmp_both (b1 o1 c1 b2 o2 c2 : Nat) (us vs : List Int) (w : World) (ha : us.length ≤ 140737488355328) (_hb : vs.length ≤ 140737488355328)
    (h1 : ∀ i, i < us.length → w.cell? ⟨b1, o1 + i, none⟩ = some (.int .u8 (us[i]?.getD 0))) (h2 : ∀ i, i < vs.length → w.cell? ⟨b2, o2 + i, none⟩ = some (.int .u8 (vs[i]?.getD 0))) :
    Calls Tryd.prog 28 #[.slice (some ⟨b1, o1, none⟩) us.length c1, .slice (some ⟨b2, o2, none⟩) vs.length c2] w fun e w' => ∃ c, e = .returned (.int .i64 c) ∧ (c = 0 ↔ us = vs) ∧ ∃ n, w' = w.drewN n := by
  go_enter Tryd.func28, Tryd.ntmps28
  go_wp2
  go_loopw [5] (fun i wr => ∃ k : Nat, k ≤ us.length ∧ k ≤ vs.length ∧ i = .int .i64 k ∧ Hid (us.take k = vs.take k) ∧ ∃ n, wr = w.drewN n) (fun i _ => us.length - (intOf i).toNat)
  case atStart => exact ⟨0, Nat.zero_le _, Nat.zero_le _, rfl, rfl, 0, rfl⟩
  case round =>
    obtain ⟨k, hka, hkb, rfl, HT, n, rfl⟩ := hrel
    by_cases hlt : k < us.length
    · by_cases hlt2 : k < vs.length
      · have g1 := h1 k hlt
        have g2 := h2 k hlt2
        have hne := take_ne (us := us) (vs := vs) (k := k)
        have heq := take_eq_succ hlt hlt2 HT.out
        obtain ⟨x, hx⟩ : ∃ x, x = us[k]?.getD 0 := ⟨_, rfl⟩
        obtain ⟨y, hy⟩ : ∃ y, y = vs[k]?.getD 0 := ⟨_, rfl⟩
        rw [← hx] at g1 hne heq
        rw [← hy] at g2 hne heq
        have HNE : Hid (x ≠ y → us ≠ vs) := hne
        have HEQ : Hid (x = y → us.take (k + 1) = vs.take (k + 1)) := heq
        clear hx hy h1 h2 hne heq
        have i0 : (0 : Int) ≤ (k : Int) := by omega
        have i1 : (k : Int) < (us.length : Int) := by omega
        have i2 : (k : Int) < (vs.length : Int) := by omega
        rcases Int.lt_trichotomy x y with hxy | hxy | hxy
        · go_wp2
          go_quiet (fail)
          go_wp2
          go_ret
          exact ⟨-1, rfl, ⟨fun h => absurd h (by decide), fun h => absurd h (HNE.out (by omega))⟩, (by first | exact ⟨_, rfl⟩ | exact drew_two _ _ _ | exact drew_three _ _ _ _)⟩
        · subst hxy
          have HE : Hid (us.take (k + 1) = vs.take (k + 1)) := HEQ.out rfl
          clear HEQ HNE
          go_wp2
          go_quiet (fail)
          go_wp2
          go_quiet (fail)
          go_wp2
          go_roundw
          case rel => exact ⟨k + 1, by omega, by omega, by go_num, HE, (by first | exact ⟨_, rfl⟩ | exact drew_two _ _ _ | exact drew_three _ _ _ _)⟩
          case measure => simp [intOf]; omega
        · have hyx : ¬ x < y := by omega
          go_wp2
          go_quiet (fail)
          go_wp2
          go_quiet (fail)
          go_wp2
          go_ret
          exact ⟨1, rfl, ⟨fun h => absurd h (by decide), fun h => absurd h (HNE.out (by omega))⟩, (by first | exact ⟨_, rfl⟩ | exact drew_two _ _ _ | exact drew_three _ _ _ _)⟩
      · have hl := list_of_take HT.out (Or.inr (by omega))
        have HL : Hid _ := hl
        clear h1 h2 hl
        go_wp2
        go_ret
        exact ⟨1, rfl, ⟨fun h => absurd h (by decide), fun h => by have := HL.out.1 h; omega⟩, _, rfl⟩
    · have hl := list_of_take HT.out (Or.inl (by omega))
      have HL : Hid (us = vs ↔ us.length = vs.length) := hl
      clear h1 h2 hl
      by_cases hlt2 : us.length < vs.length
      · go_wp2
        go_ret
        exact ⟨-1, rfl, ⟨fun h => absurd h (by decide), fun h => by have := HL.out.1 h; omega⟩, _, rfl⟩
      · go_wp2
        go_ret
        exact ⟨0, rfl, ⟨fun _ => HL.out.2 (by omega), fun _ => rfl⟩, _, rfl⟩

theorem Cmp_any {w : World} {u v : Value} {us vs : List Int} (hu : BytesAt w u us) (hv : BytesAt w v vs) (ha : us.length ≤ 140737488355328) (hb : vs.length ≤ 140737488355328) : Calls Tryd.prog 28 #[u, v] w fun e w' => ∃ c, e = .returned (.int .i64 c) ∧ (c = 0 ↔ us = vs) ∧ ∃ n, w' = w.drewN n := by
  rcases hu.parts with ⟨rfl, ao, ca, rfl⟩ | ⟨b1, o1, c1, rfl, _, h0, h1⟩
  · obtain ⟨bo, cb, rfl, _⟩ := hv
    refine (cmp_edge ao bo 0 vs.length ca cb w (Or.inl rfl) (by decide) hb).mono ?_
    rintro e w' ⟨c, he, hc, hn⟩
    exact ⟨c, he, hc.trans ⟨fun h => (List.eq_nil_of_length_eq_zero h.symm).symm, fun h => by rw [← h]; rfl⟩, hn⟩
  · rcases hv.parts with ⟨rfl, bo, cb, rfl⟩ | ⟨b2, o2, c2, rfl, _, _, h2⟩
    · refine (cmp_edge (some ⟨b1, o1, none⟩) bo us.length 0 c1 cb w (Or.inr rfl) ha (by decide)).mono ?_
      rintro e w' ⟨c, he, hc, hn⟩
      exact ⟨c, he, hc.trans ⟨fun h => List.eq_nil_of_length_eq_zero h, fun h => by rw [h]; rfl⟩, hn⟩
    · exact cmp_both b1 o1 c1 b2 o2 c2 us vs w ha hb h1 h2

theorem Eq_any {w : World} {u v : Value} {us vs : List Int} (hu : BytesAt w u us) (hv : BytesAt w v vs) (ha : us.length ≤ 140737488355328) (hb : vs.length ≤ 140737488355328) : Calls Tryd.prog 12 #[u, v] w fun e w' => e = .returned (.bool (decide (us = vs))) ∧ ∃ n, w' = w.drewN n := by
  have hcall := Cmp_any hu hv ha hb
  obtain ⟨ao, ca, rfl, _⟩ := hu
  obtain ⟨bo, cb, rfl, _⟩ := hv
  by_cases he : us = vs
  · have hd : decide (us = vs) = true := decide_eq_true he
    have hz : Hid (∀ c : Int, (c = 0 ↔ us = vs) → c = 0) := fun c h => h.2 he
    rw [hd]
    clear hd he
    go_enter Tryd.func12, Tryd.ntmps12
    go_wp2_with (go_at_call 28; refine hcall.mono ?_; rintro e w1 ⟨c, rfl, hc, n, rfl⟩; have hc0 := hz.out c hc; subst hc0; clear hc)
    go_ret
    exact ⟨rfl, _, rfl⟩
  · have hd : decide (us = vs) = false := decide_eq_false he
    have hz : Hid (∀ c : Int, (c = 0 ↔ us = vs) → (c == 0) = false) := fun c h => beq_eq_false_iff_ne.2 (fun h0 => he (h.1 h0))
    rw [hd]
    clear hd he
    go_enter Tryd.func12, Tryd.ntmps12
    go_wp2_with (go_at_call 28; refine hcall.mono ?_; rintro e w1 ⟨c, rfl, hc, n, rfl⟩; have hc0 := hz.out c hc; clear hc)
    go_ret
    exact ⟨rfl, _, rfl⟩

end Go.Proofs.YtnfbiemmdaenpaaDoor
