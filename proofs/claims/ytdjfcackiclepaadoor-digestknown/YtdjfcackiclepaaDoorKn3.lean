/-
  WALK: satchellaw2.DigestKnown answers true.
-/
import Derived.Test.YtdjfcackiclepaaDoorKn2
namespace Go.Proofs.YtdjfcackiclepaaDoor
open Go.RowKit

theorem octs_of (l : List Int) (h : l.all (fun u => decide (0 ≤ u ∧ u ≤ 255)) = true) : Octs l := fun u hu => of_decide_eq_true (List.all_eq_true.1 h u hu)
theorem octs_rep (n : Nat) (c : Int) (h : 0 ≤ c ∧ c ≤ 255) : Octs (List.replicate n c) := fun u hu => by rw [(List.mem_replicate.1 hu).2]; exact h

set_option maxRecDepth 100000 in
set_option maxHeartbeats 4000000 in
theorem digestKnown_any (w : World) (hV : Vars w) : Calls Tryd.prog 3 #[] w fun e w' => e = .returned (.bool true) ∧ Kept [] w w' := by
  have hmk := fun (n : Nat) (h : n ≤ 1000) => run_make_row' (P := Tryd.prog) 24 5 (.int .u8 0) 1 Tryd.underlying24 Tryd.info_u8 rfl .i64 .i64 n (by omega) (by omega)
  have mk1 := hmk 1000 (by omega)
  have mk2 := hmk 20 (by omega)
  have mk3 := hmk 131 (by omega)
  clear hmk
  have e0 : ∀ n : Nat, ((n : Nat) : Int) = n := fun _ => rfl
  rw [show ((1000 : Nat) : Int) = 1000 from rfl] at mk1
  rw [show ((20 : Nat) : Int) = 20 from rfl] at mk2
  rw [show ((131 : Nat) : Int) = 131 from rfl] at mk3
  have HN := NewX_any w hV
  have HV : Hid (∀ W, Kept [] w W → Vars W) := fun W hk => hV.kept hk (by simp) (by simp)
  go_enter Tryd.func3, Tryd.ntmps3
  go_wp2_with (first
    | (go_at_call 5; refine HN.mono ?_; rintro e w1 ⟨rfl, hH1, hk1⟩))
  clear HN
  have hlt1 := hH1.lt
  go_loopw [2] (fun c wr => ∃ i : Nat, i ≤ 1000 ∧ c = .int .i64 i ∧ Hid (HashX wr w.heap.size (List.replicate (1000 * i) 97)) ∧ Hid (Kept [] w wr)) (fun c _ => 1000 - (intOf c).toNat)
  case atStart => exact ⟨0, Nat.zero_le _, rfl, hH1, hk1⟩
  case round =>
    obtain ⟨i, hi, rfl, hH, hk⟩ := hrel
    clear hH1 hk1
    obtain ⟨wa, hwe⟩ : ∃ wa, wa = wr := ⟨_, rfl⟩; subst wr
    by_cases hlt : i < 1000
    · have hd : decide ((i : Int) < 1000) = true := decide_eq_true (by omega)
      have hwr := hH.out.lt
      go_wp2
      go_loopw [4] (fun c wq => ∃ k : Nat, k ≤ 1000 ∧ c = .int .i64 k ∧ Hid (wq.heap[wa.heap.size]? = some (.cells ((fillL 1000 97 k).map (Value.int .u8)).toArray 5 (0, 0))) ∧ Hid (Kept [] wa wq)) (fun c _ => 1000 - (intOf c).toNat)
      case atStart => exact ⟨0, Nat.zero_le _, rfl, made_fill 1000 97 wa, (Kept.refl [] wa).alloc _⟩
      case round =>
        obtain ⟨k, hkk, rfl, h1, hk2⟩ := hrel
        by_cases hltk : k < 1000
        · have c1 : ∃ u, wr.cell? ⟨wa.heap.size, k, none⟩ = some u := by
            rw [cell_of_row _ _ _ _ _ _ h1.out]
            exact ⟨_, Array.getElem?_eq_getElem (by rw [List.size_toArray, List.length_map, fillL_len _ _ _ (by omega)]; omega)⟩
          obtain ⟨u, c1⟩ := c1
          have f1 := frozen_of_row wr wa.heap.size k _ _ h1.out
          go_wp2
          go_roundw
          case rel =>
            refine ⟨k + 1, by omega, by go_num, ?_, hk2.out.setCell (Or.inr (Nat.le_refl _)) _⟩
            rw [← fillL_succ _ _ _ hltk]
            exact row_put h1.out k 97
          case measure => simp [intOf]; omega
        · obtain rfl : k = 1000 := by omega
          rw [show ((1000 : Nat) : Int) = 1000 from rfl]
          have hbt := row_bytes' h1.out
          rw [fillL_full, List.length_replicate] at hbt
          have HWr := WriteX_any wr w.heap.size _ _ _ (HV.out _ (hk.out.then hk2.out)) (hH.out.kept hk2.out (by simp)) hbt (octs_rep 1000 97 (by decide)) (fun q hq _ => apart_new hwr q hq) (by rw [List.length_replicate]; omega) (by rw [List.length_replicate]; omega)
          go_wp2_with (go_at_call 6; refine HWr.mono ?_; rintro e w2 ⟨rfl, hH2, hk3⟩; have HH2 : Hid _ := hH2; clear hH2)
          go_roundw
          case rel =>
            refine ⟨i + 1, by omega, by go_num, ?_, (hk.out.then hk2.out).trans hk3 (fun x hx => Or.inr (by simp at hx; omega))⟩
            have h := HH2.out
            rw [List.replicate_append_replicate] at h
            rw [show 1000 * (i + 1) = 1000 * i + 1000 by omega]
            exact h
          case measure => simp [intOf]; omega
    · obtain rfl : i = 1000 := by omega
      rw [show ((1000 : Nat) : Int) = 1000 from rfl]
      have HH : Hid (HashX wa w.heap.size (List.replicate 1000000 97)) := hH
      clear hH hi hlt
      have hwa := HH.out.lt
      go_wp2
      go_loopw [6] (fun c wq => ∃ k : Nat, k ≤ 20 ∧ c = .int .i64 k ∧ Hid (wq.heap[wa.heap.size]? = some (.cells ((fillL 20 11 k).map (Value.int .u8)).toArray 5 (0, 0))) ∧ Hid (Kept [] wa wq)) (fun c _ => 20 - (intOf c).toNat)
      case atStart => exact ⟨0, Nat.zero_le _, rfl, made_fill 20 11 wa, (Kept.refl [] wa).alloc _⟩
      case round =>
        obtain ⟨k, hkk, rfl, h1, hk2⟩ := hrel
        by_cases hltk : k < 20
        · have c1 : ∃ u, wr.cell? ⟨wa.heap.size, k, none⟩ = some u := by
            rw [cell_of_row _ _ _ _ _ _ h1.out]
            exact ⟨_, Array.getElem?_eq_getElem (by rw [List.size_toArray, List.length_map, fillL_len _ _ _ (by omega)]; omega)⟩
          obtain ⟨u, c1⟩ := c1
          have f1 := frozen_of_row wr wa.heap.size k _ _ h1.out
          go_wp2
          go_roundw
          case rel =>
            refine ⟨k + 1, by omega, by go_num, ?_, hk2.out.setCell (Or.inr (Nat.le_refl _)) _⟩
            rw [← fillL_succ _ _ _ hltk]
            exact row_put h1.out k 11
          case measure => simp [intOf]; omega
        · obtain rfl : k = 20 := by omega
          rw [show ((20 : Nat) : Int) = 20 from rfl]
          obtain ⟨wb, hwe⟩ : ∃ wb, wb = wr := ⟨_, rfl⟩; subst wr
          have hKey : Hid (wb.heap[wa.heap.size]? = some (.cells (key_one.map (Value.int .u8)).toArray 5 (0, 0))) := by
            have h := h1.out
            rw [fillL_full] at h
            exact h
          clear h1 hkk hltk
          have hwb := lt_of_block hKey.out
          go_wp2
          go_loopw [8] (fun c wq => ∃ k : Nat, k ≤ 131 ∧ c = .int .i64 k ∧ Hid (wq.heap[wb.heap.size]? = some (.cells ((fillL 131 170 k).map (Value.int .u8)).toArray 5 (0, 0))) ∧ Hid (Kept [] wb wq)) (fun c _ => 131 - (intOf c).toNat)
          case atStart => exact ⟨0, Nat.zero_le _, rfl, made_fill 131 170 wb, (Kept.refl [] wb).alloc _⟩
          case round =>
            obtain ⟨k, hkk, rfl, h1, hk3⟩ := hrel
            by_cases hltk : k < 131
            · have c1 : ∃ u, wr.cell? ⟨wb.heap.size, k, none⟩ = some u := by
                rw [cell_of_row _ _ _ _ _ _ h1.out]
                exact ⟨_, Array.getElem?_eq_getElem (by rw [List.size_toArray, List.length_map, fillL_len _ _ _ (by omega)]; omega)⟩
              obtain ⟨u, c1⟩ := c1
              have f1 := frozen_of_row wr wb.heap.size k _ _ h1.out
              go_wp2
              go_roundw
              case rel =>
                refine ⟨k + 1, by omega, by go_num, ?_, hk3.out.setCell (Or.inr (Nat.le_refl _)) _⟩
                rw [← fillL_succ _ _ _ hltk]
                exact row_put h1.out k 170
              case measure => simp [intOf]; omega
            · obtain rfl : k = 131 := by omega
              rw [show ((131 : Nat) : Int) = 131 from rfl]
              obtain ⟨wc, hwe⟩ : ∃ wc, wc = wr := ⟨_, rfl⟩; subst wr
              have hLong : Hid (wc.heap[wb.heap.size]? = some (.cells (key_three.map (Value.int .u8)).toArray 5 (0, 0))) := by
                have h := h1.out
                rw [fillL_full] at h
                exact h
              clear h1 hkk hltk
              have hK0 : Hid (Kept [] w wc) := (hk.out.then hk2.out).then hk3.out
              have HH0 : Hid (HashX wc w.heap.size (List.replicate 1000000 97)) := (HH.out.kept hk2.out (by simp)).kept hk3.out (by simp)
              have hKey0 : Hid (wc.heap[wa.heap.size]? = some (.cells (key_one.map (Value.int .u8)).toArray 5 (0, 0))) := hk3.out.heap hKey.out (by simp)
              clear HH hKey hk hk2 hk3
              obtain ⟨ic0, hic0⟩ : ∃ ic, ic = idC (digL []) := ⟨_, rfl⟩
              obtain ⟨ic1, hic1⟩ : ∃ ic, ic = idC (digL textT) := ⟨_, rfl⟩
              obtain ⟨ic2, hic2⟩ : ∃ ic, ic = idC (digL (List.replicate 1000000 97)) := ⟨_, rfl⟩
              obtain ⟨ic3, hic3⟩ : ∃ ic, ic = idC (keyL key_one text_one) := ⟨_, rfl⟩
              obtain ⟨ic4, hic4⟩ : ∃ ic, ic = idC (keyL key_two text_two) := ⟨_, rfl⟩
              obtain ⟨ic5, hic5⟩ : ∃ ic, ic = idC (keyL key_three text_three) := ⟨_, rfl⟩
              have X0 := fun W => Hex_any (digL []) W (digL_len _) (digL_octs _)
              rw [nil_hex, ← hic0] at X0
              have X1 := fun W => Hex_any (digL textT) W (digL_len _) (digL_octs _)
              rw [long_hex, ← hic1] at X1
              have X2 := fun W => Hex_any (digL (List.replicate 1000000 97)) W (digL_len _) (digL_octs _)
              rw [million_hex, ← hic2] at X2
              have X3 := fun W => Hex_any (keyL key_one text_one) W (digL_len _) (digL_octs _)
              rw [one_hex, ← hic3] at X3
              have X4 := fun W => Hex_any (keyL key_two text_two) W (digL_len _) (digL_octs _)
              rw [two_hex, ← hic4] at X4
              have X5 := fun W => Hex_any (keyL key_three text_three) W (digL_len _) (digL_octs _)
              rw [three_hex, ← hic5] at X5
              have HVc : Hid (∀ W, Kept [] wc W → Vars W) := fun W h => HV.out W (hK0.out.then h)
              have HR : Hid (∀ W, Kept [] wc W → Calls Tryd.prog 7 #[] W fun e w' => e = .returned (.bool true) ∧ Kept [] W w') := fun W h => right2_any W (HVc.out W h)
              have S0 : Hid (∀ W, Kept [] wc W → Calls Tryd.prog 9 #[.slice none 0 0] W fun e w' => e = .returned (.agg ic0) ∧ Kept [] W w') := by
                rw [hic0]; exact fun W h => Sum_any W _ [] (HVc.out W h) (BytesAt.nil W) (by simp [Octs]) (by simp)
              have S1 : Hid (∀ W v, Kept [] wc W → BytesAt W v textT → Calls Tryd.prog 9 #[v] W fun e w' => e = .returned (.agg ic1) ∧ Kept [] W w') := by
                rw [hic1]; exact fun W v h hb => Sum_any W _ textT (HVc.out W h) hb (octs_of _ (by kernel_rfl)) (Nat.le_of_ble_eq_true (by kernel_rfl))
              have M : Hid (∀ W, Kept [] wc W → Calls Tryd.prog 10 #[.pointer (some ⟨w.heap.size, 0, none⟩)] W fun e w' => e = .returned (.agg ic2) ∧ Kept [] W w') := by
                rw [hic2]; exact fun W h => SumX_any W _ _ (HVc.out W h) (HH0.out.kept h (by simp))
              have K1 : Hid (∀ W v, Kept [] wc W → BytesAt W v text_one → Calls Tryd.prog 11 #[.slice (some ⟨wa.heap.size, 0, none⟩) 20 20, v] W fun e w' => e = .returned (.agg ic3) ∧ Kept [] W w') := by
                rw [hic3]; exact fun W v h hb => Keyed_any W (HVc.out W h) _ _ key_one text_one (row_bytes' (h.heap hKey0.out (by simp))) (octs_of _ (by kernel_rfl)) (Nat.le_of_ble_eq_true (by kernel_rfl)) hb (octs_of _ (by kernel_rfl)) (Nat.le_of_ble_eq_true (by kernel_rfl))
              have K2 : Hid (∀ W kv v, Kept [] wc W → BytesAt W kv key_two → BytesAt W v text_two → Calls Tryd.prog 11 #[kv, v] W fun e w' => e = .returned (.agg ic4) ∧ Kept [] W w') := by
                rw [hic4]; exact fun W kv v h hkb hb => Keyed_any W (HVc.out W h) _ _ key_two text_two hkb (octs_of _ (by kernel_rfl)) (Nat.le_of_ble_eq_true (by kernel_rfl)) hb (octs_of _ (by kernel_rfl)) (Nat.le_of_ble_eq_true (by kernel_rfl))
              have K3 : Hid (∀ W v, Kept [] wc W → BytesAt W v text_three → Calls Tryd.prog 11 #[.slice (some ⟨wb.heap.size, 0, none⟩) 131 131, v] W fun e w' => e = .returned (.agg ic5) ∧ Kept [] W w') := by
                rw [hic5]; exact fun W v h hb => Keyed_any W (HVc.out W h) _ _ key_three text_three (row_bytes' (h.heap hLong.out (by simp))) (octs_of _ (by kernel_rfl)) (Nat.le_of_ble_eq_true (by kernel_rfl)) hb (octs_of _ (by kernel_rfl)) (Nat.le_of_ble_eq_true (by kernel_rfl))
              have HKc : Hid (Kept [] wc wc) := Kept.refl [] wc
              clear hic0 hic1 hic2 hic3 hic4 hic5 HH0 hKey0 hLong HV HVc hV e0 mk1 mk2 mk3
              have kc := fun (w : World) (C : Array Value) (n c : Nat) => Lib.run_convert_bytes_const (P := Tryd.prog) w 24 5 C n c Tryd.underlying24 Tryd.underlying5
              have kc2 : ∀ (w : World) (A : Obj) (C : Array Value) (n c : Nat), (convert 24 24 (.slice (some ⟨w.heap.size + 1, 0, none⟩) n c)).run Tryd.prog ((w.alloc A).alloc (.cells C 5)) = .ok (.slice (some ⟨w.heap.size + 1, 0, none⟩) n c) ((w.alloc A).alloc (.cells C 5 (C.size, C.size + 1))) := fun w A C n c => by
                have h := kc (w.alloc A) C n c
                rw [show (w.alloc A).heap.size = w.heap.size + 1 by simp] at h
                exact h
              go_wp2_with (first
                | (go_at_call 7; (with_reducible refine (HR.out _ HKc.out).mono ?_); rintro e w2 ⟨rfl, hk2⟩; have HK2 : Hid (Kept [] wc w2) := HKc.out.then hk2; clear hk2)
                | (go_at_call 9; (with_reducible refine (S0.out _ HK2.out).mono ?_); rintro e w3 ⟨rfl, hk3⟩; have HK3 : Hid (Kept [] wc w3) := HK2.out.then hk3; clear hk3)
                | (go_at_call 8; (with_reducible refine (X0 _).mono ?_); rintro e w4 ⟨rfl, hk4⟩; have HK4 : Hid (Kept [] wc w4) := HK3.out.then hk4; clear hk4)
                | (go_at_call_of 9 (Value.slice (some ⟨w4.heap.size, 0, none⟩) 56 56); refine (S1.out _ _ (HK4.out.alloc _) (row_bytes_any (ys := textT) (heap_alloc_new w4 _))).mono ?_; rintro e w5 ⟨rfl, hk5⟩; have HK5 : Hid (Kept [] wc w5) := (HK4.out.alloc _).then hk5; clear hk5)
                | (go_at_call 8; (with_reducible refine (X1 _).mono ?_); rintro e w6 ⟨rfl, hk6⟩; have HK6 : Hid (Kept [] wc w6) := HK5.out.then hk6; clear hk6)
                | (go_at_call 10; (with_reducible refine (M.out _ HK6.out).mono ?_); rintro e w7 ⟨rfl, hk7⟩; have HK7 : Hid (Kept [] wc w7) := HK6.out.then hk7; clear hk7)
                | (go_at_call 8; (with_reducible refine (X2 _).mono ?_); rintro e w8 ⟨rfl, hk8⟩; have HK8 : Hid (Kept [] wc w8) := HK7.out.then hk8; clear hk8)
                | (go_at_call_of 11 (Value.slice (some ⟨wa.heap.size, 0, none⟩) 20 20); refine (K1.out _ _ (HK8.out.alloc _) (row_bytes_any (ys := text_one) (heap_alloc_new w8 _))).mono ?_; rintro e w9 ⟨rfl, hk9⟩; have HK9 : Hid (Kept [] wc w9) := (HK8.out.alloc _).then hk9; clear hk9)
                | (go_at_call 8; (with_reducible refine (X3 _).mono ?_); rintro e w10 ⟨rfl, hk10⟩; have HK10 : Hid (Kept [] wc w10) := HK9.out.then hk10; clear hk10)
                | (go_at_call_of 11 (Value.slice (some ⟨w10.heap.size, 0, none⟩) 4 4); refine (K2.out _ _ _ ((HK10.out.alloc _).alloc _) (row_bytes_any (ys := key_two) ((Below.heap_alloc _ _ _ (by simp)).trans (heap_alloc_new w10 _))) (row_bytes_any (ys := text_two) (heap_alloc2_new w10 _ _))).mono ?_; rintro e w11 ⟨rfl, hk11⟩; have HK11 : Hid (Kept [] wc w11) := ((HK10.out.alloc _).alloc _).then hk11; clear hk11)
                | (go_at_call 8; (with_reducible refine (X4 _).mono ?_); rintro e w12 ⟨rfl, hk12⟩; have HK12 : Hid (Kept [] wc w12) := HK11.out.then hk12; clear hk12)
                | (go_at_call_of 11 (Value.slice (some ⟨wb.heap.size, 0, none⟩) 131 131); refine (K3.out _ _ (HK12.out.alloc _) (row_bytes_any (ys := text_three) (heap_alloc_new w12 _))).mono ?_; rintro e w13 ⟨rfl, hk13⟩; have HK13 : Hid (Kept [] wc w13) := (HK12.out.alloc _).then hk13; clear hk13)
                | (go_at_call 8; (with_reducible refine (X5 _).mono ?_); rintro e w14 ⟨rfl, hk14⟩; have HK14 : Hid (Kept [] wc w14) := HK13.out.then hk14; clear hk14))
              go_ret
              exact ⟨rfl, hK0.out.then HK14.out⟩
end Go.Proofs.YtdjfcackiclepaaDoor
