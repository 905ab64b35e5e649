/-
  WALK: satchelref0.Cmp over any two slices of bytes: which is first.
-/
import Derived.Test.YtlljiipmkjjhhaaDoorEqAn
namespace Go.Proofs.YtlljiipmkjjhhaaDoor
open Go.RowKit

/-- Which of two lists is first: -1, 0, 1. -/
def cmpZ : List Int → List Int → Int
  | [], [] => 0
  | [], _ :: _ => -1
  | _ :: _, [] => 1
  | a :: x, b :: y => if a < b then -1 else if b < a then 1 else cmpZ x y
theorem cmpZ_cons (a : Int) (x y : List Int) : cmpZ (a :: x) (a :: y) = cmpZ x y := by simp [cmpZ]
theorem cmpZ_drop : ∀ (k : Nat) (us vs : List Int), us.take k = vs.take k → k ≤ us.length → k ≤ vs.length → cmpZ us vs = cmpZ (us.drop k) (vs.drop k)
  | 0, us, vs, _, _, _ => by simp
  | k + 1, [], vs, _, h, _ => by simp at h
  | k + 1, a :: us, [], _, _, h => by simp at h
  | k + 1, a :: us, b :: vs, h, h1, h2 => by
    simp only [List.take_succ_cons, List.cons.injEq] at h
    obtain ⟨rfl, h⟩ := h
    rw [cmpZ_cons, cmpZ_drop k us vs h (by simpa using h1) (by simpa using h2)]
    rfl
theorem cmpZ_nil (vs : List Int) : cmpZ [] vs = if 0 < vs.length then -1 else if vs.length < 0 then 1 else 0 := by cases vs <;> simp [cmpZ]
theorem cmpZ_none (us : List Int) : cmpZ us [] = if us.length < 0 then -1 else if 0 < us.length then 1 else 0 := by cases us <;> simp [cmpZ]
theorem cmpZ_at {us vs : List Int} {k : Nat} (ha : k < us.length) (hb : k < vs.length) (h : us.take k = vs.take k) : (us[k]?.getD 0 < vs[k]?.getD 0 → cmpZ us vs = -1) ∧ (vs[k]?.getD 0 < us[k]?.getD 0 → cmpZ us vs = 1) := by
  rw [cmpZ_drop k us vs h (by omega) (by omega), List.drop_eq_getElem_cons ha, List.drop_eq_getElem_cons hb, List.getElem?_eq_getElem ha, List.getElem?_eq_getElem hb]
  simp only [Option.getD_some, cmpZ]
  refine ⟨fun h => if_pos h, fun h => ?_⟩
  rw [if_neg (by omega), if_pos h]
theorem cmpZ_end {us vs : List Int} {k : Nat} (h : us.take k = vs.take k) (ha : k ≤ us.length) (hb : k ≤ vs.length) (hk : us.length ≤ k ∨ vs.length ≤ k) : cmpZ us vs = if us.length < vs.length then -1 else if vs.length < us.length then 1 else 0 := by
  rw [cmpZ_drop k us vs h ha hb]
  rcases hk with hk | hk
  · obtain rfl : k = us.length := by omega
    rw [List.drop_eq_nil_of_le (Nat.le_refl _), cmpZ_nil, List.length_drop]
    by_cases h1 : us.length < vs.length
    · rw [if_pos (by omega), if_pos h1]
    · rw [if_neg (by omega), if_neg (by omega), if_neg h1, if_neg (by omega)]
  · obtain rfl : k = vs.length := by omega
    rw [List.drop_eq_nil_of_le (Nat.le_refl vs.length), cmpZ_none, List.length_drop]
    by_cases h1 : vs.length < us.length
    · rw [if_neg (by omega), if_pos (by omega), if_neg (by omega), if_pos h1]
    · rw [if_neg (by omega), if_neg (by omega), if_neg (by omega), if_neg h1]

/-- One of the two is empty. -/
theorem cmpZ_edge (ao bo : Option Addr) (la lb ca cb : Nat) (w : World) (h : la = 0 ∨ lb = 0) (ha : la ≤ 140737488355328) (hb : lb ≤ 140737488355328) : Calls Tryd.prog 26 #[.slice ao la ca, .slice bo lb cb] w fun e w' => ∃ c, e = .returned (.int .i64 c) ∧ c = (if la < lb then -1 else if lb < la then 1 else 0) ∧ ∃ n, w' = w.drewN n := by
  rcases h with rfl | rfl
  · by_cases h0 : lb = 0
    · subst h0
      refine (cmp_empty ao bo ca cb w).mono ?_
      rintro e w' ⟨rfl, n, rfl⟩
      exact ⟨0, rfl, by simp, n, rfl⟩
    · have h1 : 1 ≤ lb := by omega
      go_enter Tryd.func26, Tryd.ntmps26
      go_wp2
      refine wp_loop_rounds 1 ?_
      rw [rounds_succ]
      go_wp2
      go_ret
      exact ⟨-1, rfl, by first | rfl | rw [if_pos (by omega)], 0, rfl⟩
  · by_cases h0 : la = 0
    · subst h0
      refine (cmp_empty ao bo ca cb w).mono ?_
      rintro e w' ⟨rfl, n, rfl⟩
      exact ⟨0, rfl, by simp, n, rfl⟩
    · have h1 : 1 ≤ la := by omega
      go_enter Tryd.func26, Tryd.ntmps26
      go_wp2
      refine wp_loop_rounds 1 ?_
      rw [rounds_succ]
      go_wp2
      go_ret
      exact ⟨1, rfl, by first | rfl | rw [if_neg (by omega), if_pos (by omega)], 0, rfl⟩

set_option maxHeartbeats 2000000 in
theorem cmpZ_both (b1 o1 c1 b2 o2 c2 : Nat) (us vs : List Int) (w : World) (ha : us.length ≤ 140737488355328) (_hb : vs.length ≤ 140737488355328)
    (h1 : ∀ i, i < us.length → w.cell? ⟨b1, o1 + i, none⟩ = some (.int .u8 (us[i]?.getD 0))) (h2 : ∀ i, i < vs.length → w.cell? ⟨b2, o2 + i, none⟩ = some (.int .u8 (vs[i]?.getD 0))) :
    Calls Tryd.prog 26 #[.slice (some ⟨b1, o1, none⟩) us.length c1, .slice (some ⟨b2, o2, none⟩) vs.length c2] w fun e w' => ∃ c, e = .returned (.int .i64 c) ∧ c = cmpZ us vs ∧ ∃ n, w' = w.drewN n := by
  go_enter Tryd.func26, Tryd.ntmps26
  go_wp2
  go_loopw [5] (fun i wr => ∃ k : Nat, k ≤ us.length ∧ k ≤ vs.length ∧ i = .int .i64 k ∧ Hid (us.take k = vs.take k) ∧ ∃ n, wr = w.drewN n) (fun i _ => us.length - (intOf i).toNat)
  case atStart => exact ⟨0, Nat.zero_le _, Nat.zero_le _, rfl, rfl, 0, rfl⟩
  case round =>
    obtain ⟨k, hka, hkb, rfl, HT, n, rfl⟩ := hrel
    by_cases hlt : k < us.length
    · by_cases hlt2 : k < vs.length
      · have g1 := h1 k hlt
        have g2 := h2 k hlt2
        have hne := cmpZ_at hlt hlt2 HT.out
        have heq := take_eq_succ hlt hlt2 HT.out
        obtain ⟨x, hx⟩ : ∃ x, x = us[k]?.getD 0 := ⟨_, rfl⟩
        obtain ⟨y, hy⟩ : ∃ y, y = vs[k]?.getD 0 := ⟨_, rfl⟩
        rw [← hx] at g1 hne heq
        rw [← hy] at g2 hne heq
        have HNE : Hid ((x < y → cmpZ us vs = -1) ∧ (y < x → cmpZ us vs = 1)) := hne
        have HEQ : Hid (x = y → us.take (k + 1) = vs.take (k + 1)) := heq
        clear hx hy h1 h2 hne heq
        have i0 : (0 : Int) ≤ (k : Int) := by omega
        have i1 : (k : Int) < (us.length : Int) := by omega
        have i2 : (k : Int) < (vs.length : Int) := by omega
        rcases Int.lt_trichotomy x y with hxy | hxy | hxy
        · go_wp2
          go_quiet (fail)
          go_wp2
          go_ret
          exact ⟨-1, rfl, (HNE.out.1 hxy).symm, (by first | exact ⟨_, rfl⟩ | exact drew_two _ _ _ | exact drew_three _ _ _ _)⟩
        · subst hxy
          have HE : Hid (us.take (k + 1) = vs.take (k + 1)) := HEQ.out rfl
          clear HEQ HNE
          go_wp2
          go_quiet (fail)
          go_wp2
          go_quiet (fail)
          go_wp2
          go_roundw
          case rel => exact ⟨k + 1, by omega, by omega, by go_num, HE, (by first | exact ⟨_, rfl⟩ | exact drew_two _ _ _ | exact drew_three _ _ _ _)⟩
          case measure => simp [intOf]; omega
        · have hyx : ¬ x < y := by omega
          go_wp2
          go_quiet (fail)
          go_wp2
          go_quiet (fail)
          go_wp2
          go_ret
          exact ⟨1, rfl, (HNE.out.2 hxy).symm, (by first | exact ⟨_, rfl⟩ | exact drew_two _ _ _ | exact drew_three _ _ _ _)⟩
      · have hl := cmpZ_end HT.out hka hkb (Or.inr (by omega))
        have HL : Hid (cmpZ us vs = if us.length < vs.length then -1 else if vs.length < us.length then 1 else 0) := hl
        clear h1 h2 hl
        go_wp2
        go_ret
        exact ⟨1, rfl, by rw [HL.out, if_neg (by omega), if_pos (by omega)], _, rfl⟩
    · have hl := cmpZ_end HT.out hka hkb (Or.inl (by omega))
      have HL : Hid (cmpZ us vs = if us.length < vs.length then -1 else if vs.length < us.length then 1 else 0) := hl
      clear h1 h2 hl
      by_cases hlt2 : us.length < vs.length
      · go_wp2
        go_ret
        exact ⟨-1, rfl, by rw [HL.out, if_pos (by omega)], _, rfl⟩
      · go_wp2
        go_ret
        exact ⟨0, rfl, by rw [HL.out, if_neg (by omega), if_neg (by omega)], _, rfl⟩

theorem CmpZ_any {w : World} {u v : Value} {us vs : List Int} (hu : BytesAt w u us) (hv : BytesAt w v vs) (ha : us.length ≤ 140737488355328) (hb : vs.length ≤ 140737488355328) : Calls Tryd.prog 26 #[u, v] w fun e w' => e = .returned (.int .i64 (cmpZ us vs)) ∧ ∃ n, w' = w.drewN n := by
  rcases hu.parts with ⟨rfl, ao, ca, rfl⟩ | ⟨b1, o1, c1, rfl, _, h0, h1⟩
  · obtain ⟨bo, cb, rfl, _⟩ := hv
    refine (cmpZ_edge ao bo 0 vs.length ca cb w (Or.inl rfl) (by decide) hb).mono ?_
    rintro e w' ⟨c, he, hc, hn⟩
    exact ⟨by rw [he, hc, cmpZ_nil], hn⟩
  · rcases hv.parts with ⟨rfl, bo, cb, rfl⟩ | ⟨b2, o2, c2, rfl, _, _, h2⟩
    · refine (cmpZ_edge (some ⟨b1, o1, none⟩) bo us.length 0 c1 cb w (Or.inr rfl) ha (by decide)).mono ?_
      rintro e w' ⟨c, he, hc, hn⟩
      exact ⟨by rw [he, hc, cmpZ_none], hn⟩
    · refine (cmpZ_both b1 o1 c1 b2 o2 c2 us vs w ha hb h1 h2).mono ?_
      rintro e w' ⟨c, he, hc, hn⟩
      exact ⟨by rw [he, hc], hn⟩
end Go.Proofs.YtlljiipmkjjhhaaDoor
