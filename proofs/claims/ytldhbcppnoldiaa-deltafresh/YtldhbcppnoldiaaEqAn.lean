/-
  WALKS: satchelref0.Cmp and Eq over two slices of the same bytes; satchellaw1.into.
  WALKS: satchelref0.Cmp and Eq over any two slices of bytes.
-/
import Derived.Test.YtldhbcppnoldiaaPlain2
import Derived.Deep.QuietTactic
import Derived.BigQuiet
namespace Go.Proofs.Ytldhbcppnoldiaa
open Go.RowKit

theorem cmp_empty (ao bo : Option Addr) (ca cb : Nat) (w : World) : Calls Try.prog 50 #[.slice ao 0 ca, .slice bo 0 cb] w fun e w' => e = .returned (.int .i64 0) ∧ ∃ n, w' = w.drewN n := by
  go_enter Try.func50, Try.ntmps50
  go_wp2
  refine wp_loop_rounds 1 ?_
  rw [rounds_succ]
  go_wp2
  go_ret
  exact ⟨rfl, 0, rfl⟩

set_option maxHeartbeats 1000000 in
theorem cmp_some (b1 o1 c1 b2 o2 c2 : Nat) (ys : List Int) (w : World) (hm : ys.length ≤ 140737488355328)
    (h1 : ∀ i, i < ys.length → w.cell? ⟨b1, o1 + i, none⟩ = some (.int .u8 (ys[i]?.getD 0))) (h2 : ∀ i, i < ys.length → w.cell? ⟨b2, o2 + i, none⟩ = some (.int .u8 (ys[i]?.getD 0))) :
    Calls Try.prog 50 #[.slice (some ⟨b1, o1, none⟩) ys.length c1, .slice (some ⟨b2, o2, none⟩) ys.length c2] w fun e w' => e = .returned (.int .i64 0) ∧ ∃ n, w' = w.drewN n := by
  go_enter Try.func50, Try.ntmps50
  go_wp2
  go_loopw [5] (fun i wr => ∃ k : Nat, k ≤ ys.length ∧ i = .int .i64 k ∧ ∃ n, wr = w.drewN n) (fun i _ => ys.length - (intOf i).toNat)
  case atStart => exact ⟨0, Nat.zero_le _, rfl, 0, rfl⟩
  case round =>
    obtain ⟨k, hk, rfl, n, rfl⟩ := hrel
    by_cases hlt : k < ys.length
    · have g1 := h1 k hlt
      have g2 := h2 k hlt
      obtain ⟨z, hz⟩ : ∃ z, z = ys[k]?.getD 0 := ⟨_, rfl⟩
      rw [← hz] at g1 g2
      clear hz h1 h2
      have i0 : (0 : Int) ≤ (k : Int) := by omega
      have i1 : (k : Int) < (ys.length : Int) := by omega
      go_wp2
      go_quiet (fail)
      go_wp2
      go_quiet (fail)
      go_wp2
      go_roundw
      case rel => exact ⟨k + 1, by omega, by go_num, _, rfl⟩
      case measure => simp [intOf]; omega
    · clear h1 h2
      go_wp2
      go_ret
      exact ⟨rfl, _, rfl⟩

theorem Cmp_same {w : World} {u v : Value} {ys : List Int} (hu : BytesAt w u ys) (hv : BytesAt w v ys) (hm : ys.length ≤ 140737488355328) : Calls Try.prog 50 #[u, v] w fun e w' => e = .returned (.int .i64 0) ∧ ∃ n, w' = w.drewN n := by
  rcases hu.parts with ⟨rfl, ao, ca, rfl⟩ | ⟨b1, o1, c1, rfl, _, h0, h1⟩
  · obtain ⟨bo, cb, rfl, _⟩ := hv
    exact cmp_empty ao bo ca cb w
  · rcases hv.parts with ⟨rfl, bo, cb, rfl⟩ | ⟨b2, o2, c2, rfl, _, _, h2⟩
    · simp at h0
    · exact cmp_some b1 o1 c1 b2 o2 c2 ys w hm h1 h2

theorem Eq_same {w : World} {u v : Value} {ys : List Int} (hu : BytesAt w u ys) (hv : BytesAt w v ys) (hm : ys.length ≤ 140737488355328) : Calls Try.prog 19 #[u, v] w fun e w' => e = .returned (.bool true) ∧ ∃ n, w' = w.drewN n := by
  have hcall := Cmp_same hu hv hm
  obtain ⟨ao, ca, rfl, _⟩ := hu
  obtain ⟨bo, cb, rfl, _⟩ := hv
  go_enter Try.func19, Try.ntmps19
  go_wp2_with (go_at_call 50; refine hcall.mono ?_; rintro e w1 ⟨rfl, n, rfl⟩)
  go_ret
  exact ⟨rfl, _, rfl⟩
end Go.Proofs.Ytldhbcppnoldiaa

namespace Go.Proofs.Ytldhbcppnoldiaa
open Go.RowKit

theorem drew_two (w : World) (a b : Nat) : ∃ k, (w.drewN a).drewN b = w.drewN k := ⟨a + b, by simp [World.drewN, Nat.add_assoc]⟩
theorem drew_three (w : World) (a b c : Nat) : ∃ k, ((w.drewN a).drewN b).drewN c = w.drewN k := ⟨a + b + c, by simp [World.drewN, Nat.add_assoc]⟩

/-- One of the two is empty. -/
theorem cmp_edge (ao bo : Option Addr) (la lb ca cb : Nat) (w : World) (h : la = 0 ∨ lb = 0) (ha : la ≤ 140737488355328) (hb : lb ≤ 140737488355328) : Calls Try.prog 50 #[.slice ao la ca, .slice bo lb cb] w fun e w' => ∃ c, e = .returned (.int .i64 c) ∧ (c = 0 ↔ la = lb) ∧ ∃ n, w' = w.drewN n := by
  rcases h with rfl | rfl
  · by_cases h0 : lb = 0
    · subst h0
      refine (cmp_empty ao bo ca cb w).mono ?_
      rintro e w' ⟨rfl, n, rfl⟩
      exact ⟨0, rfl, by simp, n, rfl⟩
    · have h1 : 1 ≤ lb := by omega
      go_enter Try.func50, Try.ntmps50
      go_wp2
      refine wp_loop_rounds 1 ?_
      rw [rounds_succ]
      go_wp2
      go_ret
      exact ⟨-1, rfl, by constructor <;> intro h <;> omega, 0, rfl⟩
  · by_cases h0 : la = 0
    · subst h0
      refine (cmp_empty ao bo ca cb w).mono ?_
      rintro e w' ⟨rfl, n, rfl⟩
      exact ⟨0, rfl, by simp, n, rfl⟩
    · have h1 : 1 ≤ la := by omega
      go_enter Try.func50, Try.ntmps50
      go_wp2
      refine wp_loop_rounds 1 ?_
      rw [rounds_succ]
      go_wp2
      go_ret
      exact ⟨1, rfl, by constructor <;> intro h <;> omega, 0, rfl⟩

theorem take_ne {us vs : List Int} {k : Nat} (h : us[k]?.getD 0 ≠ vs[k]?.getD 0) : us ≠ vs := by
  rintro rfl; exact h rfl
theorem take_eq_succ {us vs : List Int} {k : Nat} (ha : k < us.length) (hb : k < vs.length) (h : us.take k = vs.take k) (he : us[k]?.getD 0 = vs[k]?.getD 0) : us.take (k + 1) = vs.take (k + 1) := by
  rw [take_snoc us k ha, take_snoc vs k hb, h]
  congr 2
theorem list_of_take {us vs : List Int} {k : Nat} (h : us.take k = vs.take k) (hk : us.length ≤ k ∨ vs.length ≤ k) : us = vs ↔ us.length = vs.length := by
  refine ⟨fun e => by rw [e], fun e => ?_⟩
  rw [List.take_of_length_le (by omega), List.take_of_length_le (by omega)] at h
  exact h

set_option maxHeartbeats 2000000 in
theorem cmp_both (b1 o1 c1 b2 o2 c2 : Nat) (us vs : List Int) (w : World) (ha : us.length ≤ 140737488355328) (_hb : vs.length ≤ 140737488355328)
    (h1 : ∀ i, i < us.length → w.cell? ⟨b1, o1 + i, none⟩ = some (.int .u8 (us[i]?.getD 0))) (h2 : ∀ i, i < vs.length → w.cell? ⟨b2, o2 + i, none⟩ = some (.int .u8 (vs[i]?.getD 0))) :
    Calls Try.prog 50 #[.slice (some ⟨b1, o1, none⟩) us.length c1, .slice (some ⟨b2, o2, none⟩) vs.length c2] w fun e w' => ∃ c, e = .returned (.int .i64 c) ∧ (c = 0 ↔ us = vs) ∧ ∃ n, w' = w.drewN n := by
  go_enter Try.func50, Try.ntmps50
  go_wp2
  go_loopw [5] (fun i wr => ∃ k : Nat, k ≤ us.length ∧ k ≤ vs.length ∧ i = .int .i64 k ∧ Hid (us.take k = vs.take k) ∧ ∃ n, wr = w.drewN n) (fun i _ => us.length - (intOf i).toNat)
  case atStart => exact ⟨0, Nat.zero_le _, Nat.zero_le _, rfl, rfl, 0, rfl⟩
  case round =>
    obtain ⟨k, hka, hkb, rfl, HT, n, rfl⟩ := hrel
    by_cases hlt : k < us.length
    · by_cases hlt2 : k < vs.length
      · have g1 := h1 k hlt
        have g2 := h2 k hlt2
        have hne := take_ne (us := us) (vs := vs) (k := k)
        have heq := take_eq_succ hlt hlt2 HT.out
        obtain ⟨x, hx⟩ : ∃ x, x = us[k]?.getD 0 := ⟨_, rfl⟩
        obtain ⟨y, hy⟩ : ∃ y, y = vs[k]?.getD 0 := ⟨_, rfl⟩
        rw [← hx] at g1 hne heq
        rw [← hy] at g2 hne heq
        have HNE : Hid (x ≠ y → us ≠ vs) := hne
        have HEQ : Hid (x = y → us.take (k + 1) = vs.take (k + 1)) := heq
        clear hx hy h1 h2 hne heq
        have i0 : (0 : Int) ≤ (k : Int) := by omega
        have i1 : (k : Int) < (us.length : Int) := by omega
        have i2 : (k : Int) < (vs.length : Int) := by omega
        rcases Int.lt_trichotomy x y with hxy | hxy | hxy
        · go_wp2
          go_quiet (fail)
          go_wp2
          go_ret
          exact ⟨-1, rfl, ⟨fun h => absurd h (by decide), fun h => absurd h (HNE.out (by omega))⟩, (by first | exact ⟨_, rfl⟩ | exact drew_two _ _ _ | exact drew_three _ _ _ _)⟩
        · subst hxy
          have HE : Hid (us.take (k + 1) = vs.take (k + 1)) := HEQ.out rfl
          clear HEQ HNE
          go_wp2
          go_quiet (fail)
          go_wp2
          go_quiet (fail)
          go_wp2
          go_roundw
          case rel => exact ⟨k + 1, by omega, by omega, by go_num, HE, (by first | exact ⟨_, rfl⟩ | exact drew_two _ _ _ | exact drew_three _ _ _ _)⟩
          case measure => simp [intOf]; omega
        · have hyx : ¬ x < y := by omega
          go_wp2
          go_quiet (fail)
          go_wp2
          go_quiet (fail)
          go_wp2
          go_ret
          exact ⟨1, rfl, ⟨fun h => absurd h (by decide), fun h => absurd h (HNE.out (by omega))⟩, (by first | exact ⟨_, rfl⟩ | exact drew_two _ _ _ | exact drew_three _ _ _ _)⟩
      · have hl := list_of_take HT.out (Or.inr (by omega))
        have HL : Hid _ := hl
        clear h1 h2 hl
        go_wp2
        go_ret
        exact ⟨1, rfl, ⟨fun h => absurd h (by decide), fun h => by have := HL.out.1 h; omega⟩, _, rfl⟩
    · have hl := list_of_take HT.out (Or.inl (by omega))
      have HL : Hid (us = vs ↔ us.length = vs.length) := hl
      clear h1 h2 hl
      by_cases hlt2 : us.length < vs.length
      · go_wp2
        go_ret
        exact ⟨-1, rfl, ⟨fun h => absurd h (by decide), fun h => by have := HL.out.1 h; omega⟩, _, rfl⟩
      · go_wp2
        go_ret
        exact ⟨0, rfl, ⟨fun _ => HL.out.2 (by omega), fun _ => rfl⟩, _, rfl⟩

theorem Cmp_any {w : World} {u v : Value} {us vs : List Int} (hu : BytesAt w u us) (hv : BytesAt w v vs) (ha : us.length ≤ 140737488355328) (hb : vs.length ≤ 140737488355328) : Calls Try.prog 50 #[u, v] w fun e w' => ∃ c, e = .returned (.int .i64 c) ∧ (c = 0 ↔ us = vs) ∧ ∃ n, w' = w.drewN n := by
  rcases hu.parts with ⟨rfl, ao, ca, rfl⟩ | ⟨b1, o1, c1, rfl, _, h0, h1⟩
  · obtain ⟨bo, cb, rfl, _⟩ := hv
    refine (cmp_edge ao bo 0 vs.length ca cb w (Or.inl rfl) (by decide) hb).mono ?_
    rintro e w' ⟨c, he, hc, hn⟩
    exact ⟨c, he, hc.trans ⟨fun h => (List.eq_nil_of_length_eq_zero h.symm).symm, fun h => by rw [← h]; rfl⟩, hn⟩
  · rcases hv.parts with ⟨rfl, bo, cb, rfl⟩ | ⟨b2, o2, c2, rfl, _, _, h2⟩
    · refine (cmp_edge (some ⟨b1, o1, none⟩) bo us.length 0 c1 cb w (Or.inr rfl) ha (by decide)).mono ?_
      rintro e w' ⟨c, he, hc, hn⟩
      exact ⟨c, he, hc.trans ⟨fun h => List.eq_nil_of_length_eq_zero h, fun h => by rw [h]; rfl⟩, hn⟩
    · exact cmp_both b1 o1 c1 b2 o2 c2 us vs w ha hb h1 h2

theorem Eq_any {w : World} {u v : Value} {us vs : List Int} (hu : BytesAt w u us) (hv : BytesAt w v vs) (ha : us.length ≤ 140737488355328) (hb : vs.length ≤ 140737488355328) : Calls Try.prog 19 #[u, v] w fun e w' => e = .returned (.bool (decide (us = vs))) ∧ ∃ n, w' = w.drewN n := by
  have hcall := Cmp_any hu hv ha hb
  obtain ⟨ao, ca, rfl, _⟩ := hu
  obtain ⟨bo, cb, rfl, _⟩ := hv
  by_cases he : us = vs
  · have hd : decide (us = vs) = true := decide_eq_true he
    have hz : Hid (∀ c : Int, (c = 0 ↔ us = vs) → c = 0) := fun c h => h.2 he
    rw [hd]
    clear hd he
    go_enter Try.func19, Try.ntmps19
    go_wp2_with (go_at_call 50; refine hcall.mono ?_; rintro e w1 ⟨c, rfl, hc, n, rfl⟩; have hc0 := hz.out c hc; subst hc0; clear hc)
    go_ret
    exact ⟨rfl, _, rfl⟩
  · have hd : decide (us = vs) = false := decide_eq_false he
    have hz : Hid (∀ c : Int, (c = 0 ↔ us = vs) → (c == 0) = false) := fun c h => beq_eq_false_iff_ne.2 (fun h0 => he (h.1 h0))
    rw [hd]
    clear hd he
    go_enter Try.func19, Try.ntmps19
    go_wp2_with (go_at_call 50; refine hcall.mono ?_; rintro e w1 ⟨c, rfl, hc, n, rfl⟩; have hc0 := hz.out c hc; clear hc)
    go_ret
    exact ⟨rfl, _, rfl⟩

end Go.Proofs.Ytldhbcppnoldiaa
