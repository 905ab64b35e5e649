/-
  WALKS: (*code.Writer).fixed, U8, U32, U64, for every Writer.
  WALK: (*code.Writer).Var and Bytes, U8, U32, U64, for every Writer.
  WALKS: (*code.Writer).U8, U64 and Bytes, for every Writer.
-/
import Derived.Test.YtnfbiemmdaenpaaDoorLen64
import Derived.Deep.RegionLaw
import Derived.Deep.AppendLies
import Derived.Deep.DrawnRows
namespace Go.Proofs.YtnfbiemmdaenpaaDoor
open Go.RowKit
attribute [local go_sem ↓] Go.wp_at_zero Go.wp_at_succ

set_option maxRecDepth 100000 in
set_option maxHeartbeats 2000000 in
theorem WFixed_any {w : World} {wb B : Nat} {zs : List Int} {S : List Nat} (h : WAt w wb B zs S) (hBw : B ≤ w.heap.size) (n : Int) (size : Nat) (hs : size ≤ 8) (hm : zs.length + 8 ≤ 140737488355328) :
    Calls Tryd.prog 100 #[.pointer (some ⟨wb, 0, none⟩), .int .u64 n, .int .i64 size] w fun e w' => e = .returned (.tuple #[]) ∧ Wrote w w' wb B (zs ++ fixedB n size) S := by
  obtain ⟨i0, hi, hz0, hz1, hz2⟩ := info_parts Tryd.info_u8
  have hS0 := h.lt
  go_enter Tryd.func100, Tryd.ntmps100
  go_wp2
  go_loopw [8] (fun i wr => ∃ k : Nat, k ≤ size ∧ i = .int .i64 k ∧ Hid (Wrote w wr wb B (zs ++ (fixedB n size).take k) S)) (fun i _ => size - (intOf i).toNat)
  case atStart => exact ⟨0, Nat.zero_le _, rfl, by simpa using ⟨S, h, Kept.refl _ _, fun x hx => Or.inl hx⟩⟩
  case round =>
    obtain ⟨k, hk, rfl, HW⟩ := hrel
    by_cases hlt : k < size
    · obtain ⟨S1, hW1, hK1, hS1⟩ := HW.out
      obtain ⟨ao, cap, hb, ho, hSe, hne, hoc, hB⟩ := hW1
      have hzl : (zs ++ (fixedB n size).take k).length = zs.length + k := by simp [fixedB_len]; omega
      have HL : Hid ((zs ++ (fixedB n size).take k).length = zs.length + k) := hzl
      clear hzl
      generalize hus0 : (zs ++ (fixedB n size).take k) = us at *
      have HU0 : Hid (zs ++ (fixedB n size).take k = us) := hus0
      clear hus0 HW
      have hc := cell_of_one hb
      have hfr := free_of_one hb
      have hwlt := lt_of_block hb
      obtain ⟨j, hj⟩ : ∃ j, j = size - 1 - k := ⟨_, rfl⟩
      have e1 : IntKind.i64.wrap ((size : Int) - 1) = (size : Int) - 1 := IntWalk.i64_in _ ⟨by omega, by omega⟩
      have e2 : IntKind.i64.wrap ((size : Int) - 1 - (k : Int)) = (j : Int) := by rw [IntWalk.i64_in _ ⟨by omega, by omega⟩]; omega
      have e3 : IntKind.i64.wrap (8 * (j : Int)) = 8 * (j : Int) := IntWalk.i64_in _ ⟨by omega, by omega⟩
      have p1 : 0 ≤ 8 * (j : Int) := by omega
      have p2 : 8 * (j : Int) ≤ 64 := by omega
      have HJ : Hid (j = size - 1 - k) := hj
      clear hj
      obtain ⟨x, hx⟩ : ∃ x, IntKind.u8.wrap (n / 2 ^ (8 * (j : Int)).toNat) = x := ⟨_, rfl⟩
      have HX : Hid (IntKind.u8.wrap (n / 2 ^ (8 * (j : Int)).toNat) = x) := hx
      have hown : ((wr.alloc (.cells #[.int .u8 x] 5)).drew).ownsRow B 5 1 (.slice ao us.length cap) us.length (us.map (Value.int .u8)) := (ho.alloc _).drew
      have hbase : B ≤ ((wr.alloc (.cells #[.int .u8 x] 5)).drew).heap.size := by have := hK1.size; show B ≤ (wr.alloc _).heap.size; rw [World.size_alloc]; omega
      obtain ⟨us', hus⟩ : ∃ us', us' = us.map (Value.int .u8) := ⟨_, rfl⟩
      rw [← hus] at hown
      have HU : Hid (us' = us.map (Value.int .u8)) := hus
      clear hus
      go_wp2_with fail
      go_region_law
        ((refine step_append_lies _ (by rfl) (.tmp 15) (.tmp 24) 22 (by rfl) B 5 i0 (.int .u8 0) 1 1 Tryd.underlying22 hi hz0 hz1 hz2 rfl (by decide) (.slice ao us.length cap) us.length us' (by rfl) hown ⟨wr.heap.size, 0, none⟩ 1 1 [.int .u8 x] (by rfl) rfl (cell_one_new _ _ _) (map_oneCell [x]) (by decide) (by unfold maxLen; have := HL.out; omega) (by have := HL.out; omega) hbase (wr.heap.size + 1) (by simp) ?_; intro g1 cap1 w1 ho1 hgr1 hat1 hlt1; have hb1 : w1.heap[wb]? = some (.cells #[.slice ao us.length cap] 85 (0, 0)) := (hgr1.block wb (by show wb < (wr.alloc _).heap.size; rw [World.size_alloc]; omega) (Ne.symm hne)).trans ((Below.heap_alloc wr _ wb hwlt).trans hb); have c1 := cell_of_one hb1; have f1 := free_of_one hb1; clear hb1))
      all_goals go_wp2
      all_goals go_roundw
      case rel | rel =>
        have ex : x = n / 256 ^ (size - 1 - k) % 256 := by rw [← HX.out, byte_of, HJ.out]
        rw [HU.out] at ho1
        have hw := wrote_of (ys := [x]) (((Kept.refl [] wr).alloc (.cells #[.int .u8 x] 5)).drew) (by show _ ≤ (wr.alloc _).heap.size; rw [World.size_alloc]; omega) hb hne hoc (by rw [ex]; intro u hu; simp at hu; subst hu; omega) hB ho1 hgr1 (by
          rcases hat1 with h1 | h1
          · exact Or.inl h1.symm
          · right; show some g1 = some (wr.alloc _).heap.size; rw [World.size_alloc, h1])
        rw [← hSe] at hw
        have hw2 := Wrote.trans hK1 hS1 hw
        refine ⟨k + 1, by omega, by go_num, ?_⟩
        show Wrote _ _ _ _ _ _
        rw [fixedB_take n size k hlt, ← List.append_assoc, HU0.out, ← ex]
        exact hw2
      all_goals simp [intOf]; omega
    · obtain rfl : k = size := by omega
      go_wp2
      go_end0
      have e : (fixedB n k).take k = fixedB n k := List.take_of_length_le (by rw [fixedB_len]; exact Nat.le_refl _)
      have := HW.out
      rw [e] at this
      exact ⟨rfl, this⟩

end Go.Proofs.YtnfbiemmdaenpaaDoor

namespace Go.Proofs.YtnfbiemmdaenpaaDoor
open Go.RowKit

/-- Of how many groups of seven bits, but one, a number consists. -/
def lastOf (n : Int) : Nat := (Lib.bitLen (n.toNat ||| 1) - 1) / 7
/-- A number in groups of seven bits, the lowest first; k groups ahead of the last. -/
def varHead (n : Int) (k : Nat) : List Int := (List.range k).map fun i => n / 128 ^ i % 128 + 128
def varB (n : Int) : List Int := varHead n (lastOf n) ++ [n / 128 ^ lastOf n]

theorem or_one (n : Nat) : n ||| 1 = n + 1 - n % 2 := by
  rcases Nat.mod_two_eq_zero_or_one n with h | h
  · rw [nat_join 1 n 1 (by simpa using h) (by decide), h, Nat.sub_zero]
  · have e : n = (n - 1) ||| 1 := by rw [nat_join 1 (n - 1) 1 (by simp; omega) (by decide)]; omega
    rw [e, Nat.or_assoc, Nat.or_self, ← e]
    omega
theorem lastOf_spec (n : Int) (h0 : 0 ≤ n) (h1 : n ≤ 18446744073709551615) : n < 128 ^ (lastOf n + 1) ∧ (1 ≤ lastOf n → 128 ^ lastOf n ≤ n) ∧ lastOf n ≤ 9 := by
  obtain ⟨n, rfl⟩ := Int.eq_ofNat_of_zero_le h0
  have ho := or_one n
  have hs := bitLen_spec (n ||| 1) (by omega) (by omega)
  obtain ⟨L, hL⟩ : ∃ L, L = Lib.bitLen (n ||| 1) := ⟨_, rfl⟩
  have hk : lastOf (n : Int) = (L - 1) / 7 := by unfold lastOf; rw [Int.toNat_natCast, hL]
  rw [← hL] at hs
  obtain ⟨hs1, hs2, hs3, hs4⟩ := hs
  rw [hk, pow128, pow128]
  have p1 : 2 ^ L ≤ 2 ^ (7 * ((L - 1) / 7 + 1)) := Nat.pow_le_pow_right (by decide) (by omega)
  have p2 : 2 ^ (7 * ((L - 1) / 7)) ≤ 2 ^ (L - 1) := Nat.pow_le_pow_right (by decide) (by omega)
  refine ⟨?_, fun hk1 => ?_, by omega⟩
  · generalize 2 ^ (7 * ((L - 1) / 7 + 1)) = P at *
    generalize 2 ^ L = Q at *
    omega
  · have p3 : 2 ^ (7 * ((L - 1) / 7)) % 2 = 0 := by
      obtain ⟨m, hm⟩ : ∃ m, 7 * ((L - 1) / 7) = m + 1 := ⟨7 * ((L - 1) / 7) - 1, by omega⟩
      rw [hm, Nat.pow_succ]; omega
    generalize 2 ^ (7 * ((L - 1) / 7)) = P at *
    generalize 2 ^ (L - 1) = Q at *
    omega
theorem or_one_u64 (n : Int) (h0 : 0 ≤ n) (h1 : n ≤ 18446744073709551615) : bits .or .u64 n 1 = ((n.toNat ||| 1 : Nat) : Int) := u64_or n 1 h0 (by omega) (by decide) (by decide)
theorem or128 (m : Int) (h0 : 0 ≤ m) (h1 : m ≤ 255) : bits .or .u8 m 128 = m % 128 + 128 := by
  obtain ⟨n, rfl⟩ := Int.eq_ofNat_of_zero_le h0
  have : ∀ n : Nat, n < 256 → bits .or .u8 (n : Int) 128 = (n : Int) % 128 + 128 := by decide +kernel
  exact this n (by omega)
theorem or128_byte (m : Int) : bits .or .u8 (m % 256) 128 = m % 128 + 128 := by
  rw [or128 _ (by omega) (by omega)]; omega
theorem varHead_succ (n : Int) (k : Nat) : varHead n (k + 1) = varHead n k ++ [n / 128 ^ k % 128 + 128] := by simp [varHead, List.range_succ]
theorem varHead_len (n : Int) (k : Nat) : (varHead n k).length = k := by simp [varHead]
theorem varHead_octs (n : Int) (k : Nat) : Octs (varHead n k) := by
  intro u hu
  simp only [varHead, List.mem_map] at hu
  obtain ⟨i, _, rfl⟩ := hu
  omega
theorem div_succ (n : Int) (k : Nat) : n / 128 ^ k / 128 = n / 128 ^ (k + 1) := by
  rw [Int.pow_succ, Int.ediv_ediv_of_nonneg (Int.pow_nonneg (by decide))]
theorem last_small (n : Int) (h0 : 0 ≤ n) (h1 : n ≤ 18446744073709551615) : 0 ≤ n / 128 ^ lastOf n ∧ n / 128 ^ lastOf n ≤ 127 := by
  have hs := (lastOf_spec n h0 h1).1
  have hp : (0 : Int) < 128 ^ lastOf n := Int.pow_pos (by decide)
  refine ⟨Int.ediv_nonneg h0 (Int.le_of_lt hp), ?_⟩
  have : n / 128 ^ lastOf n < 128 := Int.ediv_lt_of_lt_mul hp (by rw [Int.pow_succ, Int.mul_comm] at hs; exact hs)
  omega
theorem varB_len (n : Int) (h0 : 0 ≤ n) (h1 : n ≤ 18446744073709551615) : (varB n).length ≤ 10 := by
  have := (lastOf_spec n h0 h1).2.2
  simp [varB, varHead_len]; omega
theorem varB_octs (n : Int) (h0 : 0 ≤ n) (h1 : n ≤ 18446744073709551615) : Octs (varB n) := by
  intro u hu
  rcases List.mem_append.1 hu with h | h
  · exact varHead_octs n _ u h
  · have := last_small n h0 h1
    simp at h; subst h; omega

set_option maxRecDepth 100000 in
set_option maxHeartbeats 1000000 in
theorem WVar_any {w : World} {wb B : Nat} {zs : List Int} {S : List Nat} (h : WAt w wb B zs S) (hBw : B ≤ w.heap.size) (n : Int) (hn0 : 0 ≤ n) (hn1 : n ≤ 18446744073709551615) (hm : zs.length + 10 ≤ 140737488355328) :
    Calls Tryd.prog 104 #[.pointer (some ⟨wb, 0, none⟩), .int .u64 n] w fun e w' => e = .returned (.tuple #[]) ∧ Wrote w w' wb B (zs ++ varB n) S := by
  obtain ⟨i0, hi, hz0, hz1, hz2⟩ := info_parts Tryd.info_u8
  have hor := or_one_u64 n hn0 hn1
  have hx0 : 1 ≤ ((n.toNat ||| 1 : Nat) : Int) := by have := or_one n.toNat; omega
  have hx1 : ((n.toNat ||| 1 : Nat) : Int) ≤ 18446744073709551615 := by have := or_one n.toNat; omega
  have hlen := Len64_any ((n.toNat ||| 1 : Nat) : Int) w (by omega) hx1
  rw [Int.toNat_natCast] at hlen
  have hsp := lastOf_spec n hn0 hn1
  have hbl := bitLen_spec (n.toNat ||| 1) (by omega) (by omega)
  obtain ⟨x, hx⟩ : ∃ x : Nat, (n.toNat ||| 1) = x := ⟨_, rfl⟩
  rw [hx] at hor hlen hbl
  obtain ⟨L, hL⟩ : ∃ L, Lib.bitLen x = L := ⟨_, rfl⟩
  rw [hL] at hlen hbl
  have hlast : lastOf n = (L - 1) / 7 := by unfold lastOf; rw [hx, hL]
  obtain ⟨q, hq⟩ : ∃ q, q = lastOf n := ⟨_, rfl⟩
  have hqL1 : ((L : Int) - 1) / 7 ≤ (q : Int) := by omega
  have hqL2 : (q : Int) ≤ ((L : Int) - 1) / 7 := by omega
  have hL1 := hbl.1
  have hL2 := hbl.2.2.2
  have HQ : Hid (q = lastOf n) := hq
  have hq9 : q ≤ 9 := by omega
  have HS : Hid (WAt w wb B zs S) := h
  clear hsp hbl hlast hq hx hL hx0 hx1 h
  go_enter Tryd.func104, Tryd.ntmps104
  go_wp2_with (go_at_call 106; refine hlen.mono ?_; rintro e w1 ⟨rfl, hw1⟩; subst w1)
  clear hlen hor
  go_loopw [1, 11] (fun nv i wr => ∃ k : Nat, ∃ m : Int, k ≤ q ∧ i = .int .i64 k ∧ nv = .int .u64 m ∧ Hid (m = n / 128 ^ k) ∧ 0 ≤ m ∧ m ≤ 18446744073709551615 ∧ Hid (Wrote w wr wb B (zs ++ varHead n k) S)) (fun _ i _ => q - (intOf i).toNat)
  case atStart => exact ⟨0, n, Nat.zero_le _, rfl, rfl, by show n = _; simp, hn0, hn1, by show Wrote _ _ _ _ _ _; simpa [varHead] using Wrote.refl HS.out⟩
  case round =>
    obtain ⟨k, m, hk, rfl, rfl, HM, hm0, hm1, HW⟩ := hrel
    obtain ⟨S1, hW1, hK1, hS1⟩ := HW.out
    obtain ⟨us, hus0⟩ : ∃ us, us = zs ++ varHead n k := ⟨_, rfl⟩
    rw [← hus0] at hW1
    have HU0 : Hid (us = zs ++ varHead n k) := hus0
    clear hus0 HW
    by_cases hlt : k < q
    · obtain ⟨y, hy⟩ : ∃ y, bits .or .u8 (m % 256) 128 = y := ⟨_, rfl⟩
      have HY : Hid (bits .or .u8 (m % 256) 128 = y) := hy
      obtain ⟨ao, cap, hb, ho, hSe, hne, hoc, hB⟩ := hW1
      have hul : us.length = zs.length + k := by rw [HU0.out]; simp [varHead_len]
      have hul1 : us.length ≤ zs.length + 9 := by omega
      have hc := cell_of_one hb
      have hfr := free_of_one hb
      have hwlt := lt_of_block hb
      have hown : (wr.alloc (.cells #[.int .u8 y] 5)).ownsRow B 5 1 (.slice ao us.length cap) us.length (us.map (Value.int .u8)) := ho.alloc _
      have hbase : B ≤ (wr.alloc (.cells #[.int .u8 y] 5)).heap.size := by have := hK1.size; rw [World.size_alloc]; omega
      obtain ⟨us', hus⟩ : ∃ us', us' = us.map (Value.int .u8) := ⟨_, rfl⟩
      rw [← hus] at hown
      have HU : Hid (us' = us.map (Value.int .u8)) := hus
      clear hus hul
      go_wp2_with (at_builtin; refine wpList_append_own_at _ rfl (.tmp 17) (.tmp 21) 22 rfl B 5 i0 (.int .u8 0) 1 1 Tryd.underlying22 hi hz0 hz1 hz2 rfl (by decide) (.slice ao us.length cap) us.length us' rfl hown ⟨wr.heap.size, 0, none⟩ 1 1 [.int .u8 y] rfl rfl (cell_one_new _ _ _) (map_oneCell [y]) (by unfold maxLen; omega) (by omega) hbase ?_; intro v' w2 ho2 hgr2 hnil2 hat2; obtain ⟨ao', cap', hv'⟩ := own_shape ho2; subst hv'; have hb2 : w2.heap[wb]? = some (.cells #[.slice ao us.length cap] 85 (0, 0)) := (hgr2.block wb (by rw [World.size_alloc]; omega) (Ne.symm hne)).trans ((Below.heap_alloc wr _ wb hwlt).trans hb); have d2 := cell_of_one hb2; have f2 := free_of_one hb2; clear hb2 hnil2)
      go_roundw
      case rel =>
        have ey : y = n / 128 ^ k % 128 + 128 := by rw [← HY.out, or128_byte, HM.out]
        rw [HU.out] at ho2
        have hw := wrote_of (ys := [y]) ((Kept.refl [] wr).alloc (.cells #[.int .u8 y] 5)) (by rw [World.size_alloc]; omega) hb hne hoc (by rw [ey]; intro u hu; simp at hu; subst hu; omega) hB ho2 hgr2 hat2
        rw [← hSe] at hw
        have hw2 := Wrote.trans hK1 hS1 hw
        refine ⟨k + 1, m / 128, by omega, by go_num, rfl, by show _ = _; rw [HM.out]; exact div_succ n k, by omega, by omega, ?_⟩
        show Wrote _ _ _ _ _ _
        rw [varHead_succ, ← List.append_assoc, ← HU0.out, ← ey]
        exact hw2
      case measure => simp [intOf]; omega
    · obtain rfl : k = q := by omega
      have hsm : 0 ≤ m ∧ m ≤ 127 := by rw [HM.out, HQ.out]; exact last_small n hn0 hn1
      obtain ⟨y, hy⟩ : ∃ y, y = m := ⟨_, rfl⟩
      subst hy
      obtain ⟨ao, cap, hb, ho, hSe, hne, hoc, hB⟩ := hW1
      have hul : us.length = zs.length + k := by rw [HU0.out]; simp [varHead_len]
      have hul1 : us.length ≤ zs.length + 9 := by omega
      have hc := cell_of_one hb
      have hfr := free_of_one hb
      have hwlt := lt_of_block hb
      have hown : (wr.alloc (.cells #[.int .u8 y] 5)).ownsRow B 5 1 (.slice ao us.length cap) us.length (us.map (Value.int .u8)) := ho.alloc _
      have hbase : B ≤ (wr.alloc (.cells #[.int .u8 y] 5)).heap.size := by have := hK1.size; rw [World.size_alloc]; omega
      obtain ⟨us', hus⟩ : ∃ us', us' = us.map (Value.int .u8) := ⟨_, rfl⟩
      rw [← hus] at hown
      have HU : Hid (us' = us.map (Value.int .u8)) := hus
      clear hus hul
      go_wp2_with (at_builtin; refine wpList_append_own_at _ rfl (.tmp 32) (.tmp 35) 22 rfl B 5 i0 (.int .u8 0) 1 1 Tryd.underlying22 hi hz0 hz1 hz2 rfl (by decide) (.slice ao us.length cap) us.length us' rfl hown ⟨wr.heap.size, 0, none⟩ 1 1 [.int .u8 y] rfl rfl (cell_one_new _ _ _) (map_oneCell [y]) (by unfold maxLen; omega) (by omega) hbase ?_; intro v' w2 ho2 hgr2 hnil2 hat2; obtain ⟨ao', cap', hv'⟩ := own_shape ho2; subst hv'; have hb2 : w2.heap[wb]? = some (.cells #[.slice ao us.length cap] 85 (0, 0)) := (hgr2.block wb (by rw [World.size_alloc]; omega) (Ne.symm hne)).trans ((Below.heap_alloc wr _ wb hwlt).trans hb); have d2 := cell_of_one hb2; have f2 := free_of_one hb2; clear hb2 hnil2)
      go_end0
      rw [HU.out] at ho2
      have hw := wrote_of (ys := [y]) ((Kept.refl [] wr).alloc (.cells #[.int .u8 y] 5)) (by rw [World.size_alloc]; omega) hb hne hoc (by intro u hu; simp at hu; subst hu; omega) hB ho2 hgr2 hat2
      rw [← hSe] at hw
      have hw2 := Wrote.trans hK1 hS1 hw
      refine ⟨rfl, ?_⟩
      show Wrote _ _ _ _ _ _
      have ev : zs ++ varB n = us ++ [y] := by rw [HU0.out, HM.out, HQ.out]; simp [varB]
      rw [ev]
      exact hw2

end Go.Proofs.YtnfbiemmdaenpaaDoor

namespace Go.Proofs.YtnfbiemmdaenpaaDoor
open Go.RowKit

/-- As 'BytesAt.kept': of an empty slice nothing is asked. -/
theorem BytesAt.keep {S : List Nat} {w w' : World} {v : Value} {ys : List Int} (h : BytesAt w v ys) (hk : Kept S w w') (hn : ys ≠ [] → ∀ b, blkOf v = some b → b ∉ S) : BytesAt w' v ys := by
  obtain ⟨ao, cap, rfl, hc, hnil, hcell⟩ := h
  refine ⟨ao, cap, rfl, hc, hnil, fun hne => ?_⟩
  obtain ⟨b, off, rfl, hh⟩ := hcell hne
  exact ⟨b, off, rfl, fun i u hu => hk.cell (hh i u hu) (hn hne b rfl)⟩

set_option maxHeartbeats 400000 in
theorem WU8_any {w : World} {wb B : Nat} {zs : List Int} {S : List Nat} (h : WAt w wb B zs S) (hBw : B ≤ w.heap.size) (n : Int) (hn0 : 0 ≤ n) (hn1 : n ≤ 255) (hm : zs.length + 8 ≤ 140737488355328) :
    Calls Tryd.prog 98 #[.pointer (some ⟨wb, 0, none⟩), .int .u8 n] w fun e w' => e = .returned (.tuple #[]) ∧ Wrote w w' wb B (zs ++ fixedB n 1) S := by
  have hcall := WFixed_any h hBw n 1 (by decide) hm
  clear h
  go_enter Tryd.func98, Tryd.ntmps98
  go_wp2_with (go_at_call 100; refine hcall.mono ?_; rintro e w1 ⟨rfl, hw⟩)
  go_end0
  exact ⟨rfl, hw⟩

set_option maxHeartbeats 400000 in
theorem WU64_any {w : World} {wb B : Nat} {zs : List Int} {S : List Nat} (h : WAt w wb B zs S) (hBw : B ≤ w.heap.size) (n : Int) (hm : zs.length + 8 ≤ 140737488355328) :
    Calls Tryd.prog 113 #[.pointer (some ⟨wb, 0, none⟩), .int .u64 n] w fun e w' => e = .returned (.tuple #[]) ∧ Wrote w w' wb B (zs ++ fixedB n 8) S := by
  have hcall := WFixed_any h hBw n 8 (by decide) hm
  clear h
  go_enter Tryd.func113, Tryd.ntmps113
  go_wp2_with (go_at_call 100; refine hcall.mono ?_; rintro e w1 ⟨rfl, hw⟩)
  go_end0
  exact ⟨rfl, hw⟩

set_option maxHeartbeats 400000 in
theorem WBytes_any {w : World} {wb B : Nat} {zs : List Int} {S : List Nat} (h : WAt w wb B zs S) (hBw : B ≤ w.heap.size) (v : Value) (ys : List Int) (hv : BytesAt w v ys) (hd : ys ≠ [] → ∀ b, blkOf v = some b → b ∉ S) (hoy : Octs ys)
    (hm : zs.length + 10 + ys.length ≤ 140737488355328) :
    Calls Tryd.prog 107 #[.pointer (some ⟨wb, 0, none⟩), v] w fun e w' => e = .returned (.tuple #[]) ∧ Wrote w w' wb B (zs ++ varB ys.length ++ ys) S := by
  have hvl := varB_len (ys.length : Int) (by omega) (by omega)
  have hcall := WVar_any h hBw (ys.length : Int) (by omega) (by omega) (by omega)
  have hraw : ∀ w1, Wrote w w1 wb B (zs ++ varB ys.length) S → Calls Tryd.prog 99 #[.pointer (some ⟨wb, 0, none⟩), v] w1 fun e w' => e = .returned (.tuple #[]) ∧ Wrote w w' wb B (zs ++ varB ys.length ++ ys) S := by
    rintro w1 ⟨S1, hw1, hk1, hs1⟩
    refine (WRaw_any hw1 (Nat.le_trans hBw hk1.size) v ys (hv.keep hk1 hd) hoy (by simp; omega)).mono ?_
    rintro e w2 ⟨he, hw2⟩
    exact ⟨he, Wrote.trans hk1 hs1 hw2⟩
  obtain ⟨ao, cap, rfl, _⟩ := hv
  have HW : Hid _ := hraw
  clear h hd hraw
  go_enter Tryd.func107, Tryd.ntmps107
  go_wp2_with (first | (go_at_call 104; refine hcall.mono ?_; rintro e w1 ⟨rfl, hw⟩) | (go_at_call 99; refine (HW.out _ hw).mono ?_; rintro e w2 ⟨rfl, hw2⟩))
  go_end0
  exact ⟨rfl, hw2⟩

end Go.Proofs.YtnfbiemmdaenpaaDoor
