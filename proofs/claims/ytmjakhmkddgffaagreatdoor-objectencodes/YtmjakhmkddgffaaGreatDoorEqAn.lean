/-
  WALK: satchelref3.Encode, over what Wrong and lay come to.
  WALKS: satchelref0.Cmp and Eq over two slices of the same bytes; satchellaw1.into.
  WALKS: satchelref0.Cmp and Eq over any two slices of bytes.
-/
import Derived.Test.YtmjakhmkddgffaaGreatDoorRe6
import Derived.Test.YtmjakhmkddgffaaGreatDoorOe0
import Derived.Test.YtmjakhmkddgffaaGreatDoorLookFixed
import Derived.Test.YtmjakhmkddgffaaGreatDoorPlain2
import Derived.Deep.QuietTactic
import Derived.BigQuiet
namespace Go.Proofs.YtmjakhmkddgffaaGreatDoor
open Go.RowKit

set_option maxRecDepth 100000 in
set_option maxHeartbeats 2000000 in
theorem R3Encode_any (row : Array Value) (w : World) (f : Int) (E : List Int) (hsz : (Tryz.prog.info? 37).map (·.size) = some row.size)
    (HW : ∀ W, Kept [] w W → Calls Tryz.prog 36 #[.agg row] W fun e w' => e = .returned (.int .i64 f) ∧ Kept [] W w')
    (HL : f = 0 → ∀ W, Kept [] w W → Calls Tryz.prog 37 #[.agg row] W fun e w' => ∃ v, e = .returned v ∧ OwnB w' W.heap.size v E ∧ Kept [] W w') :
    Calls Tryz.prog 17 #[.agg row] w fun e w' => ∃ v, e = .returned (.tuple #[v, .int .i64 (encErr f E)]) ∧ BytesAt w' v (if encErr f E = 0 then E else []) ∧ Kept [] w w' := by
  have HB : Hid ((w.alloc (.cells row 37)).heap[w.heap.size]? = some (.cells row 37 (0, 0))) := heap_alloc_new w _
  have HK0 : Hid (Kept [] w (w.alloc (.cells row 37))) := (Kept.refl _ _).alloc _
  have hun := Tryz.underlying37
  have hwr := HW _ HK0.out
  clear HW
  by_cases hf : f = 0
  · have hlay := HL hf
    clear HL
    subst hf
    by_cases hl : 65536 < E.length
    · have t1 : decide ((65536 : Int) < E.length) = true := decide_eq_true (by omega)
      have hE : encErr 0 E = 31 := by unfold encErr; rw [if_neg (by simp), if_pos hl]
      rw [hE, if_neg (by decide)]
      go_enter Tryz.func17, Tryz.ntmps17
      go_wp2_with (refine wpList_load_row (by rfl) 37 (.tmp 1) (by rfl) w.heap.size (by rfl) 37 row (0, 0) _ HB.out hun rfl hsz ?_)
      go_at_call 36
      refine hwr.mono ?_
      rintro e w1 ⟨rfl, k1⟩
      have HB1 : Hid (w1.heap[w.heap.size]? = some (.cells row 37 (0, 0))) := k1.heap HB.out (by simp)
      have HK1 : Hid (Kept [] w w1) := HK0.out.then k1
      have hly := hlay w1 HK1.out
      clear hwr k1 hlay
      go_wp2_with (refine wpList_load_row (by rfl) 37 (.tmp 1) (by rfl) w.heap.size (by rfl) 37 row (0, 0) _ HB1.out hun rfl hsz ?_)
      go_at_call 37
      refine hly.mono ?_
      rintro e w2 ⟨v, rfl, o2, k2⟩
      obtain ⟨ao, cp, rfl⟩ := own_shape o2
      have HK2 : Hid (Kept [] w w2) := HK1.out.then k2
      clear hly o2 k2
      go_wp2
      go_ret2
      exact ⟨_, rfl, BytesAt.nil _, HK2.out⟩
    · have t1 : decide ((65536 : Int) < E.length) = false := decide_eq_false (by omega)
      have hE : encErr 0 E = 0 := by unfold encErr; rw [if_neg (by simp), if_neg hl]
      rw [hE, if_pos rfl]
      go_enter Tryz.func17, Tryz.ntmps17
      go_wp2_with (refine wpList_load_row (by rfl) 37 (.tmp 1) (by rfl) w.heap.size (by rfl) 37 row (0, 0) _ HB.out hun rfl hsz ?_)
      go_at_call 36
      refine hwr.mono ?_
      rintro e w1 ⟨rfl, k1⟩
      have HB1 : Hid (w1.heap[w.heap.size]? = some (.cells row 37 (0, 0))) := k1.heap HB.out (by simp)
      have HK1 : Hid (Kept [] w w1) := HK0.out.then k1
      have hly := hlay w1 HK1.out
      clear hwr k1 hlay
      go_wp2_with (refine wpList_load_row (by rfl) 37 (.tmp 1) (by rfl) w.heap.size (by rfl) 37 row (0, 0) _ HB1.out hun rfl hsz ?_)
      go_at_call 37
      refine hly.mono ?_
      rintro e w2 ⟨v, rfl, o2, k2⟩
      obtain ⟨ao, cp, rfl⟩ := own_shape o2
      have HK2 : Hid (Kept [] w w2) := HK1.out.then k2
      have HO2 : Hid (BytesAt w2 (.slice ao E.length cp) E) := OwnB.bytes o2
      clear hly o2 k2
      go_wp2
      go_ret2
      exact ⟨_, rfl, HO2.out, HK2.out⟩
  · have hE : encErr f E = f := by unfold encErr; rw [if_pos hf]
    rw [hE, if_neg hf]
    clear HL
    have t1 : (f != 0) = true := by simpa using hf
    go_enter Tryz.func17, Tryz.ntmps17
    go_wp2_with (refine wpList_load_row (by rfl) 37 (.tmp 1) (by rfl) w.heap.size (by rfl) 37 row (0, 0) _ HB.out hun rfl hsz ?_)
    go_at_call 36
    refine hwr.mono ?_
    rintro e w1 ⟨rfl, k1⟩
    have HK1 : Hid (Kept [] w w1) := HK0.out.then k1
    clear hwr k1
    go_wp2
    go_ret2
    exact ⟨_, rfl, BytesAt.nil _, HK1.out⟩
end Go.Proofs.YtmjakhmkddgffaaGreatDoor

namespace Go.Proofs.YtmjakhmkddgffaaGreatDoor
open Go.RowKit

theorem cmp_empty (ao bo : Option Addr) (ca cb : Nat) (w : World) : Calls Tryz.prog 38 #[.slice ao 0 ca, .slice bo 0 cb] w fun e w' => e = .returned (.int .i64 0) ∧ ∃ n, w' = w.drewN n := by
  go_enter Tryz.func38, Tryz.ntmps38
  go_wp2
  refine wp_loop_rounds 1 ?_
  rw [rounds_succ]
  go_wp2
  go_ret
  exact ⟨rfl, 0, rfl⟩

set_option maxHeartbeats 1000000 in
theorem cmp_some (b1 o1 c1 b2 o2 c2 : Nat) (ys : List Int) (w : World) (hm : ys.length ≤ 140737488355328)
    (h1 : ∀ i, i < ys.length → w.cell? ⟨b1, o1 + i, none⟩ = some (.int .u8 (ys[i]?.getD 0))) (h2 : ∀ i, i < ys.length → w.cell? ⟨b2, o2 + i, none⟩ = some (.int .u8 (ys[i]?.getD 0))) :
    Calls Tryz.prog 38 #[.slice (some ⟨b1, o1, none⟩) ys.length c1, .slice (some ⟨b2, o2, none⟩) ys.length c2] w fun e w' => e = .returned (.int .i64 0) ∧ ∃ n, w' = w.drewN n := by
  go_enter Tryz.func38, Tryz.ntmps38
  go_wp2
  go_loopw [5] (fun i wr => ∃ k : Nat, k ≤ ys.length ∧ i = .int .i64 k ∧ ∃ n, wr = w.drewN n) (fun i _ => ys.length - (intOf i).toNat)
  case atStart => exact ⟨0, Nat.zero_le _, rfl, 0, rfl⟩
  case round =>
    obtain ⟨k, hk, rfl, n, rfl⟩ := hrel
    by_cases hlt : k < ys.length
    · have g1 := h1 k hlt
      have g2 := h2 k hlt
      obtain ⟨z, hz⟩ : ∃ z, z = ys[k]?.getD 0 := ⟨_, rfl⟩
      rw [← hz] at g1 g2
      clear hz h1 h2
      have i0 : (0 : Int) ≤ (k : Int) := by omega
      have i1 : (k : Int) < (ys.length : Int) := by omega
      go_wp2
      go_quiet (fail)
      go_wp2
      go_quiet (fail)
      go_wp2
      go_roundw
      case rel => exact ⟨k + 1, by omega, by go_num, _, rfl⟩
      case measure => simp [intOf]; omega
    · clear h1 h2
      go_wp2
      go_ret
      exact ⟨rfl, _, rfl⟩

theorem Cmp_same {w : World} {u v : Value} {ys : List Int} (hu : BytesAt w u ys) (hv : BytesAt w v ys) (hm : ys.length ≤ 140737488355328) : Calls Tryz.prog 38 #[u, v] w fun e w' => e = .returned (.int .i64 0) ∧ ∃ n, w' = w.drewN n := by
  rcases hu.parts with ⟨rfl, ao, ca, rfl⟩ | ⟨b1, o1, c1, rfl, _, h0, h1⟩
  · obtain ⟨bo, cb, rfl, _⟩ := hv
    exact cmp_empty ao bo ca cb w
  · rcases hv.parts with ⟨rfl, bo, cb, rfl⟩ | ⟨b2, o2, c2, rfl, _, _, h2⟩
    · simp at h0
    · exact cmp_some b1 o1 c1 b2 o2 c2 ys w hm h1 h2

theorem Eq_same {w : World} {u v : Value} {ys : List Int} (hu : BytesAt w u ys) (hv : BytesAt w v ys) (hm : ys.length ≤ 140737488355328) : Calls Tryz.prog 18 #[u, v] w fun e w' => e = .returned (.bool true) ∧ ∃ n, w' = w.drewN n := by
  have hcall := Cmp_same hu hv hm
  obtain ⟨ao, ca, rfl, _⟩ := hu
  obtain ⟨bo, cb, rfl, _⟩ := hv
  go_enter Tryz.func18, Tryz.ntmps18
  go_wp2_with (go_at_call 38; refine hcall.mono ?_; rintro e w1 ⟨rfl, n, rfl⟩)
  go_ret
  exact ⟨rfl, _, rfl⟩
end Go.Proofs.YtmjakhmkddgffaaGreatDoor

namespace Go.Proofs.YtmjakhmkddgffaaGreatDoor
open Go.RowKit

theorem drew_two (w : World) (a b : Nat) : ∃ k, (w.drewN a).drewN b = w.drewN k := ⟨a + b, by simp [World.drewN, Nat.add_assoc]⟩
theorem drew_three (w : World) (a b c : Nat) : ∃ k, ((w.drewN a).drewN b).drewN c = w.drewN k := ⟨a + b + c, by simp [World.drewN, Nat.add_assoc]⟩

/-- One of the two is empty. -/
theorem cmp_edge (ao bo : Option Addr) (la lb ca cb : Nat) (w : World) (h : la = 0 ∨ lb = 0) (ha : la ≤ 140737488355328) (hb : lb ≤ 140737488355328) : Calls Tryz.prog 38 #[.slice ao la ca, .slice bo lb cb] w fun e w' => ∃ c, e = .returned (.int .i64 c) ∧ (c = 0 ↔ la = lb) ∧ ∃ n, w' = w.drewN n := by
  rcases h with rfl | rfl
  · by_cases h0 : lb = 0
    · subst h0
      refine (cmp_empty ao bo ca cb w).mono ?_
      rintro e w' ⟨rfl, n, rfl⟩
      exact ⟨0, rfl, by simp, n, rfl⟩
    · have h1 : 1 ≤ lb := by omega
      go_enter Tryz.func38, Tryz.ntmps38
      go_wp2
      refine wp_loop_rounds 1 ?_
      rw [rounds_succ]
      go_wp2
      go_ret
      exact ⟨-1, rfl, by constructor <;> intro h <;> omega, 0, rfl⟩
  · by_cases h0 : la = 0
    · subst h0
      refine (cmp_empty ao bo ca cb w).mono ?_
      rintro e w' ⟨rfl, n, rfl⟩
      exact ⟨0, rfl, by simp, n, rfl⟩
    · have h1 : 1 ≤ la := by omega
      go_enter Tryz.func38, Tryz.ntmps38
      go_wp2
      refine wp_loop_rounds 1 ?_
      rw [rounds_succ]
      go_wp2
      go_ret
      exact ⟨1, rfl, by constructor <;> intro h <;> omega, 0, rfl⟩

theorem take_ne {us vs : List Int} {k : Nat} (h : us[k]?.getD 0 ≠ vs[k]?.getD 0) : us ≠ vs := by
  rintro rfl; exact h rfl
theorem take_eq_succ {us vs : List Int} {k : Nat} (ha : k < us.length) (hb : k < vs.length) (h : us.take k = vs.take k) (he : us[k]?.getD 0 = vs[k]?.getD 0) : us.take (k + 1) = vs.take (k + 1) := by
  rw [take_snoc us k ha, take_snoc vs k hb, h]
  congr 2
theorem list_of_take {us vs : List Int} {k : Nat} (h : us.take k = vs.take k) (hk : us.length ≤ k ∨ vs.length ≤ k) : us = vs ↔ us.length = vs.length := by
  refine ⟨fun e => by rw [e], fun e => ?_⟩
  rw [List.take_of_length_le (by omega), List.take_of_length_le (by omega)] at h
  exact h

set_option maxHeartbeats 2000000 in
theorem cmp_both (b1 o1 c1 b2 o2 c2 : Nat) (us vs : List Int) (w : World) (ha : us.length ≤ 140737488355328) (_hb : vs.length ≤ 140737488355328)
    (h1 : ∀ i, i < us.length → w.cell? ⟨b1, o1 + i, none⟩ = some (.int .u8 (us[i]?.getD 0))) (h2 : ∀ i, i < vs.length → w.cell? ⟨b2, o2 + i, none⟩ = some (.int .u8 (vs[i]?.getD 0))) :
    Calls Tryz.prog 38 #[.slice (some ⟨b1, o1, none⟩) us.length c1, .slice (some ⟨b2, o2, none⟩) vs.length c2] w fun e w' => ∃ c, e = .returned (.int .i64 c) ∧ (c = 0 ↔ us = vs) ∧ ∃ n, w' = w.drewN n := by
  go_enter Tryz.func38, Tryz.ntmps38
  go_wp2
  go_loopw [5] (fun i wr => ∃ k : Nat, k ≤ us.length ∧ k ≤ vs.length ∧ i = .int .i64 k ∧ Hid (us.take k = vs.take k) ∧ ∃ n, wr = w.drewN n) (fun i _ => us.length - (intOf i).toNat)
  case atStart => exact ⟨0, Nat.zero_le _, Nat.zero_le _, rfl, rfl, 0, rfl⟩
  case round =>
    obtain ⟨k, hka, hkb, rfl, HT, n, rfl⟩ := hrel
    by_cases hlt : k < us.length
    · by_cases hlt2 : k < vs.length
      · have g1 := h1 k hlt
        have g2 := h2 k hlt2
        have hne := take_ne (us := us) (vs := vs) (k := k)
        have heq := take_eq_succ hlt hlt2 HT.out
        obtain ⟨x, hx⟩ : ∃ x, x = us[k]?.getD 0 := ⟨_, rfl⟩
        obtain ⟨y, hy⟩ : ∃ y, y = vs[k]?.getD 0 := ⟨_, rfl⟩
        rw [← hx] at g1 hne heq
        rw [← hy] at g2 hne heq
        have HNE : Hid (x ≠ y → us ≠ vs) := hne
        have HEQ : Hid (x = y → us.take (k + 1) = vs.take (k + 1)) := heq
        clear hx hy h1 h2 hne heq
        have i0 : (0 : Int) ≤ (k : Int) := by omega
        have i1 : (k : Int) < (us.length : Int) := by omega
        have i2 : (k : Int) < (vs.length : Int) := by omega
        rcases Int.lt_trichotomy x y with hxy | hxy | hxy
        · go_wp2
          go_quiet (fail)
          go_wp2
          go_ret
          exact ⟨-1, rfl, ⟨fun h => absurd h (by decide), fun h => absurd h (HNE.out (by omega))⟩, (by first | exact ⟨_, rfl⟩ | exact drew_two _ _ _ | exact drew_three _ _ _ _)⟩
        · subst hxy
          have HE : Hid (us.take (k + 1) = vs.take (k + 1)) := HEQ.out rfl
          clear HEQ HNE
          go_wp2
          go_quiet (fail)
          go_wp2
          go_quiet (fail)
          go_wp2
          go_roundw
          case rel => exact ⟨k + 1, by omega, by omega, by go_num, HE, (by first | exact ⟨_, rfl⟩ | exact drew_two _ _ _ | exact drew_three _ _ _ _)⟩
          case measure => simp [intOf]; omega
        · have hyx : ¬ x < y := by omega
          go_wp2
          go_quiet (fail)
          go_wp2
          go_quiet (fail)
          go_wp2
          go_ret
          exact ⟨1, rfl, ⟨fun h => absurd h (by decide), fun h => absurd h (HNE.out (by omega))⟩, (by first | exact ⟨_, rfl⟩ | exact drew_two _ _ _ | exact drew_three _ _ _ _)⟩
      · have hl := list_of_take HT.out (Or.inr (by omega))
        have HL : Hid _ := hl
        clear h1 h2 hl
        go_wp2
        go_ret
        exact ⟨1, rfl, ⟨fun h => absurd h (by decide), fun h => by have := HL.out.1 h; omega⟩, _, rfl⟩
    · have hl := list_of_take HT.out (Or.inl (by omega))
      have HL : Hid (us = vs ↔ us.length = vs.length) := hl
      clear h1 h2 hl
      by_cases hlt2 : us.length < vs.length
      · go_wp2
        go_ret
        exact ⟨-1, rfl, ⟨fun h => absurd h (by decide), fun h => by have := HL.out.1 h; omega⟩, _, rfl⟩
      · go_wp2
        go_ret
        exact ⟨0, rfl, ⟨fun _ => HL.out.2 (by omega), fun _ => rfl⟩, _, rfl⟩

theorem Cmp_any {w : World} {u v : Value} {us vs : List Int} (hu : BytesAt w u us) (hv : BytesAt w v vs) (ha : us.length ≤ 140737488355328) (hb : vs.length ≤ 140737488355328) : Calls Tryz.prog 38 #[u, v] w fun e w' => ∃ c, e = .returned (.int .i64 c) ∧ (c = 0 ↔ us = vs) ∧ ∃ n, w' = w.drewN n := by
  rcases hu.parts with ⟨rfl, ao, ca, rfl⟩ | ⟨b1, o1, c1, rfl, _, h0, h1⟩
  · obtain ⟨bo, cb, rfl, _⟩ := hv
    refine (cmp_edge ao bo 0 vs.length ca cb w (Or.inl rfl) (by decide) hb).mono ?_
    rintro e w' ⟨c, he, hc, hn⟩
    exact ⟨c, he, hc.trans ⟨fun h => (List.eq_nil_of_length_eq_zero h.symm).symm, fun h => by rw [← h]; rfl⟩, hn⟩
  · rcases hv.parts with ⟨rfl, bo, cb, rfl⟩ | ⟨b2, o2, c2, rfl, _, _, h2⟩
    · refine (cmp_edge (some ⟨b1, o1, none⟩) bo us.length 0 c1 cb w (Or.inr rfl) ha (by decide)).mono ?_
      rintro e w' ⟨c, he, hc, hn⟩
      exact ⟨c, he, hc.trans ⟨fun h => List.eq_nil_of_length_eq_zero h, fun h => by rw [h]; rfl⟩, hn⟩
    · exact cmp_both b1 o1 c1 b2 o2 c2 us vs w ha hb h1 h2

theorem Eq_any {w : World} {u v : Value} {us vs : List Int} (hu : BytesAt w u us) (hv : BytesAt w v vs) (ha : us.length ≤ 140737488355328) (hb : vs.length ≤ 140737488355328) : Calls Tryz.prog 18 #[u, v] w fun e w' => e = .returned (.bool (decide (us = vs))) ∧ ∃ n, w' = w.drewN n := by
  have hcall := Cmp_any hu hv ha hb
  obtain ⟨ao, ca, rfl, _⟩ := hu
  obtain ⟨bo, cb, rfl, _⟩ := hv
  by_cases he : us = vs
  · have hd : decide (us = vs) = true := decide_eq_true he
    have hz : Hid (∀ c : Int, (c = 0 ↔ us = vs) → c = 0) := fun c h => h.2 he
    rw [hd]
    clear hd he
    go_enter Tryz.func18, Tryz.ntmps18
    go_wp2_with (go_at_call 38; refine hcall.mono ?_; rintro e w1 ⟨c, rfl, hc, n, rfl⟩; have hc0 := hz.out c hc; subst hc0; clear hc)
    go_ret
    exact ⟨rfl, _, rfl⟩
  · have hd : decide (us = vs) = false := decide_eq_false he
    have hz : Hid (∀ c : Int, (c = 0 ↔ us = vs) → (c == 0) = false) := fun c h => beq_eq_false_iff_ne.2 (fun h0 => he (h.1 h0))
    rw [hd]
    clear hd he
    go_enter Tryz.func18, Tryz.ntmps18
    go_wp2_with (go_at_call 38; refine hcall.mono ?_; rintro e w1 ⟨c, rfl, hc, n, rfl⟩; have hc0 := hz.out c hc; clear hc)
    go_ret
    exact ⟨rfl, _, rfl⟩

end Go.Proofs.YtmjakhmkddgffaaGreatDoor
