/-
  WALKS: (*code.Writer).fixed, U8, U32, U64, for every Writer.
-/
import Derived.Test.YtmambfdfkobjgaaGreatDoorFixB
import Derived.Deep.RegionLaw
import Derived.Deep.AppendLies
import Derived.Deep.DrawnRows
namespace Go.Proofs.YtmambfdfkobjgaaGreatDoor
open Go.RowKit
attribute [local go_sem ↓] Go.wp_at_zero Go.wp_at_succ

set_option maxRecDepth 100000 in
set_option maxHeartbeats 2000000 in
theorem WFixed_any {w : World} {wb B : Nat} {zs : List Int} {S : List Nat} (h : WAt w wb B zs S) (hBw : B ≤ w.heap.size) (n : Int) (size : Nat) (hs : size ≤ 8) (hm : zs.length + 8 ≤ 140737488355328) :
    Calls Tryz.prog 118 #[.pointer (some ⟨wb, 0, none⟩), .int .u64 n, .int .i64 size] w fun e w' => e = .returned (.tuple #[]) ∧ Wrote w w' wb B (zs ++ fixedB n size) S := by
  obtain ⟨i0, hi, hz0, hz1, hz2⟩ := info_parts Tryz.info_u8
  have hS0 := h.lt
  go_enter Tryz.func118, Tryz.ntmps118
  go_wp2
  go_loopw [8] (fun i wr => ∃ k : Nat, k ≤ size ∧ i = .int .i64 k ∧ Hid (Wrote w wr wb B (zs ++ (fixedB n size).take k) S)) (fun i _ => size - (intOf i).toNat)
  case atStart => exact ⟨0, Nat.zero_le _, rfl, by simpa using ⟨S, h, Kept.refl _ _, fun x hx => Or.inl hx⟩⟩
  case round =>
    obtain ⟨k, hk, rfl, HW⟩ := hrel
    by_cases hlt : k < size
    · obtain ⟨S1, hW1, hK1, hS1⟩ := HW.out
      obtain ⟨ao, cap, hb, ho, hSe, hne, hoc, hB⟩ := hW1
      have hzl : (zs ++ (fixedB n size).take k).length = zs.length + k := by simp [fixedB_len]; omega
      have HL : Hid ((zs ++ (fixedB n size).take k).length = zs.length + k) := hzl
      clear hzl
      generalize hus0 : (zs ++ (fixedB n size).take k) = us at *
      have HU0 : Hid (zs ++ (fixedB n size).take k = us) := hus0
      clear hus0 HW
      have hc := cell_of_one hb
      have hfr := free_of_one hb
      have hwlt := lt_of_block hb
      obtain ⟨j, hj⟩ : ∃ j, j = size - 1 - k := ⟨_, rfl⟩
      have e1 : IntKind.i64.wrap ((size : Int) - 1) = (size : Int) - 1 := IntWalk.i64_in _ ⟨by omega, by omega⟩
      have e2 : IntKind.i64.wrap ((size : Int) - 1 - (k : Int)) = (j : Int) := by rw [IntWalk.i64_in _ ⟨by omega, by omega⟩]; omega
      have e3 : IntKind.i64.wrap (8 * (j : Int)) = 8 * (j : Int) := IntWalk.i64_in _ ⟨by omega, by omega⟩
      have p1 : 0 ≤ 8 * (j : Int) := by omega
      have p2 : 8 * (j : Int) ≤ 64 := by omega
      have HJ : Hid (j = size - 1 - k) := hj
      clear hj
      obtain ⟨x, hx⟩ : ∃ x, IntKind.u8.wrap (n / 2 ^ (8 * (j : Int)).toNat) = x := ⟨_, rfl⟩
      have HX : Hid (IntKind.u8.wrap (n / 2 ^ (8 * (j : Int)).toNat) = x) := hx
      have hown : ((wr.alloc (.cells #[.int .u8 x] 5)).drew).ownsRow B 5 1 (.slice ao us.length cap) us.length (us.map (Value.int .u8)) := (ho.alloc _).drew
      have hbase : B ≤ ((wr.alloc (.cells #[.int .u8 x] 5)).drew).heap.size := by have := hK1.size; show B ≤ (wr.alloc _).heap.size; rw [World.size_alloc]; omega
      obtain ⟨us', hus⟩ : ∃ us', us' = us.map (Value.int .u8) := ⟨_, rfl⟩
      rw [← hus] at hown
      have HU : Hid (us' = us.map (Value.int .u8)) := hus
      clear hus
      go_wp2_with fail
      go_region_law
        ((refine step_append_lies _ (by rfl) (.tmp 15) (.tmp 24) 28 (by rfl) B 5 i0 (.int .u8 0) 1 1 Tryz.underlying28 hi hz0 hz1 hz2 rfl (by decide) (.slice ao us.length cap) us.length us' (by rfl) hown ⟨wr.heap.size, 0, none⟩ 1 1 [.int .u8 x] (by rfl) rfl (cell_one_new _ _ _) (map_oneCell [x]) (by decide) (by unfold maxLen; have := HL.out; omega) (by have := HL.out; omega) hbase (wr.heap.size + 1) (by simp) ?_; intro g1 cap1 w1 ho1 hgr1 hat1 hlt1; have hb1 : w1.heap[wb]? = some (.cells #[.slice ao us.length cap] 93 (0, 0)) := (hgr1.block wb (by show wb < (wr.alloc _).heap.size; rw [World.size_alloc]; omega) (Ne.symm hne)).trans ((Below.heap_alloc wr _ wb hwlt).trans hb); have c1 := cell_of_one hb1; have f1 := free_of_one hb1; clear hb1))
      all_goals go_wp2
      all_goals go_roundw
      case rel | rel =>
        have ex : x = n / 256 ^ (size - 1 - k) % 256 := by rw [← HX.out, byte_of, HJ.out]
        rw [HU.out] at ho1
        have hw := wrote_of (ys := [x]) (((Kept.refl [] wr).alloc (.cells #[.int .u8 x] 5)).drew) (by show _ ≤ (wr.alloc _).heap.size; rw [World.size_alloc]; omega) hb hne hoc (by rw [ex]; intro u hu; simp at hu; subst hu; omega) hB ho1 hgr1 (by
          rcases hat1 with h1 | h1
          · exact Or.inl h1.symm
          · right; show some g1 = some (wr.alloc _).heap.size; rw [World.size_alloc, h1])
        rw [← hSe] at hw
        have hw2 := Wrote.trans hK1 hS1 hw
        refine ⟨k + 1, by omega, by go_num, ?_⟩
        show Wrote _ _ _ _ _ _
        rw [fixedB_take n size k hlt, ← List.append_assoc, HU0.out, ← ex]
        exact hw2
      all_goals simp [intOf]; omega
    · obtain rfl : k = size := by omega
      go_wp2
      go_end0
      have e : (fixedB n k).take k = fixedB n k := List.take_of_length_le (by rw [fixedB_len]; exact Nat.le_refl _)
      have := HW.out
      rw [e] at this
      exact ⟨rfl, this⟩

end Go.Proofs.YtmambfdfkobjgaaGreatDoor
