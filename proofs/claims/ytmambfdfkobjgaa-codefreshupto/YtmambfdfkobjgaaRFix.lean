/-
  WALKS: satchelref1.fixed, U8, U32, U64: a number's bytes in new memory, the highest first.
-/
import Derived.Test.YtmambfdfkobjgaaOwn
import Derived.Deep.OwnRows
namespace Go.Proofs.Ytmambfdfkobjgaa
open Go.RowKit

theorem fixedB_get (n : Int) (size k : Nat) (h : k < size) : (fixedB n size)[k]? = some (n / 256 ^ (size - 1 - k) % 256) := by
  simp [fixedB, h]

theorem fill_down (F : List Int) (size k : Nat) (x : Int) (hF : F.length = size) (h : k < size) (hx : F[k]? = some x) :
    (List.replicate (k + 1) 0 ++ F.drop (k + 1)).set k x = List.replicate k 0 ++ F.drop k := by
  rw [List.set_append_left _ _ (by simp), List.replicate_succ', List.set_append_right _ _ (by simp), List.length_replicate, Nat.sub_self, List.set_cons_zero, List.append_assoc]
  congr 1
  rw [List.drop_eq_getElem_cons (show k < F.length by omega)]
  rw [List.getElem?_eq_getElem (show k < F.length by omega)] at hx
  injection hx with hx
  rw [hx]
  rfl

set_option maxRecDepth 100000 in
set_option maxHeartbeats 1000000 in
theorem RFixed_any (n : Int) (w : World) (h0 : 0 ≤ n) (h1 : n ≤ 18446744073709551615) (size : Nat) (hs : 1 ≤ size ∧ size ≤ 8) :
    Calls Try.prog 56 #[.int .u64 n, .int .i64 size] w fun e w' => ∃ v, e = .returned v ∧ OwnB w' w.heap.size v (fixedB n size) ∧ Kept [] w w' := by
  have hmk : ∀ W : World, (Instr.makeSlice 22 (.int .i64 size) (.int .i64 size)).run Try.prog W = .ok (.slice (some ⟨W.heap.size, 0, none⟩) size size) (W.alloc (.cells (madeCells #[.int .u8 0] size) 5)) := fun W => run_make_row' (P := Try.prog) 22 5 (.int .u8 0) 1 Try.underlying22 Try.info_u8 rfl .i64 .i64 size (by omega) (by omega) W
  have HF : Hid (∀ k, k < size → (fixedB n size)[k]? = some (n / 256 ^ (size - 1 - k) % 256)) := fun k hk => fixedB_get n size k hk
  have hlen := fixedB_len n size
  have HN : Hid (∀ k : Nat, 0 ≤ n / 256 ^ k ∧ n / 256 ^ k ≤ 18446744073709551615 ∧ (n / 256 ^ k) / 256 = n / 256 ^ (k + 1)) := by
    intro k
    have hp : (0 : Int) < 256 ^ k := Int.pow_pos (by decide)
    refine ⟨Int.ediv_nonneg h0 (by omega), ?_, ?_⟩
    · exact Int.le_trans (Int.ediv_le_self _ h0) h1
    · rw [Int.ediv_ediv_of_nonneg (by omega), Int.pow_succ]
  generalize fixedB n size = F at *
  go_enter Try.func56, Try.ntmps56
  go_wp2
  go_loopw [0, 6] (fun s0 s6 wr => ∃ k : Nat, k ≤ size ∧ s6 = .int .i64 ((k : Int) - 1) ∧ s0 = .int .u64 (n / 256 ^ (size - k)) ∧ Hid (wr.ownsRow w.heap.size 5 1 (.slice (some ⟨w.heap.size, 0, none⟩) size size) size ((List.replicate k 0 ++ F.drop k).map (Value.int .u8))) ∧ Kept [] w wr) (fun _ s6 _ => (intOf s6 + 1).toNat)
  case atStart =>
    refine ⟨size, Nat.le_refl _, by go_num, by rw [Nat.sub_self, Int.pow_zero, Int.ediv_one], ?_, (Kept.refl _ _).alloc _⟩
    have h := World.ownsRow_lit (base := w.heap.size) (e := 5) (size := 1) w (madeCells #[.int .u8 0] size) size (Nat.le_refl _) (by unfold maxLen; omega) (by rw [size_madeCells]; omega)
    rw [toList_madeCells_one] at h
    rw [List.drop_eq_nil_of_le (by omega), List.append_nil, List.map_replicate]
    exact h
  case round =>
    obtain ⟨k, hk, rfl, rfl, HO, hkw⟩ := hrel
    cases k with
    | zero =>
      have e0 : ((0 : Nat) : Int) - 1 = -1 := rfl
      rw [e0]
      go_wp2
      go_ret
      refine ⟨_, rfl, ?_, hkw⟩
      have h := HO.out
      rw [List.replicate_zero, List.nil_append, List.drop_zero] at h
      unfold OwnB
      rw [hlen]
      exact h
    | succ j =>
      have e0 : ((j + 1 : Nat) : Int) - 1 = (j : Int) := by omega
      rw [e0]
      have hn := HN.out (size - (j + 1))
      have hF := HF.out j (by omega)
      rw [show size - 1 - j = size - (j + 1) by omega] at hF
      rw [show size - (j + 1) + 1 = size - j by omega] at hn
      have HQ : Hid _ := hn.2.2
      generalize n / 256 ^ (size - (j + 1)) = m at *
      have hn0 := hn.1
      have hn1 := hn.2.1
      clear hn
      have r1 : Int.tmod m 256 = m % 256 := Int.tmod_eq_emod_of_nonneg hn0
      have r2 : IntKind.u8.wrap (m % 256) = m % 256 := by rw [IntKind.wrap_u8']; omega
      have r3 : Int.tdiv m 256 = m / 256 := Int.tdiv_eq_ediv_of_nonneg hn0
      have HS : Hid (World.ownsRow (wr.setCell ⟨w.heap.size, j, none⟩ (.int .u8 (m % 256))) w.heap.size 5 1 (.slice (some ⟨w.heap.size, 0, none⟩) size size) size ((List.replicate j 0 ++ F.drop j).map (Value.int .u8))) := by
        have h := (World.ownsRow.stored HO.out j (.int .u8 (m % 256))).1
        rw [← List.map_set, fill_down F size j _ hlen (by omega) hF] at h
        exact h
      have c1 : ∃ u, wr.cell? ⟨w.heap.size, j, none⟩ = some u := by
        rw [World.ownsRow.cellAt HO.out j (by omega)]
        exact ⟨_, List.getElem?_eq_getElem (by simp; omega)⟩
      obtain ⟨u1, c1⟩ := c1
      have f1 := World.ownsRow.frozenAt HO.out j
      clear HO
      go_wp2
      go_roundw
      case rel => exact ⟨j, by omega, by go_num, by rw [← HQ.out], HS, hkw.setCell (Or.inr (Nat.le_refl _)) _⟩
      case measure => simp [intOf]

theorem RU8_any (n : Int) (w : World) (h0 : 0 ≤ n) (h1 : n ≤ 255) :
    Calls Try.prog 27 #[.int .u8 n] w fun e w' => ∃ v, e = .returned v ∧ OwnB w' w.heap.size v (fixedB n 1) ∧ Kept [] w w' := by
  have hcall := RFixed_any n w h0 (by omega) 1 (by decide)
  have hw : IntKind.u64.wrap n = n := by rw [IntKind.wrap_u64]; omega
  go_enter Try.func27, Try.ntmps27
  go_wp2_with (go_at_call 56; refine hcall.mono ?_; rintro e w1 ⟨v, rfl, hv, hk⟩)
  go_ret
  exact ⟨v, rfl, hv, hk⟩

theorem RU32_any (n : Int) (w : World) (h0 : 0 ≤ n) (h1 : n ≤ 4294967295) :
    Calls Try.prog 29 #[.int .u32 n] w fun e w' => ∃ v, e = .returned v ∧ OwnB w' w.heap.size v (fixedB n 4) ∧ Kept [] w w' := by
  have hcall := RFixed_any n w h0 (by omega) 4 (by decide)
  have hw : IntKind.u64.wrap n = n := by rw [IntKind.wrap_u64]; omega
  go_enter Try.func29, Try.ntmps29
  go_wp2_with (go_at_call 56; refine hcall.mono ?_; rintro e w1 ⟨v, rfl, hv, hk⟩)
  go_ret
  exact ⟨v, rfl, hv, hk⟩

theorem RU64_any (n : Int) (w : World) (h0 : 0 ≤ n) (h1 : n ≤ 18446744073709551615) :
    Calls Try.prog 31 #[.int .u64 n] w fun e w' => ∃ v, e = .returned v ∧ OwnB w' w.heap.size v (fixedB n 8) ∧ Kept [] w w' := by
  have hcall := RFixed_any n w h0 (by omega) 8 (by decide)
  go_enter Try.func31, Try.ntmps31
  go_wp2_with (go_at_call 56; refine hcall.mono ?_; rintro e w1 ⟨v, rfl, hv, hk⟩)
  go_ret
  exact ⟨v, rfl, hv, hk⟩
end Go.Proofs.Ytmambfdfkobjgaa
