/-
  PLAIN: a number in so many bytes, the highest first, as it is written.
  WALKS: (*code.Writer).fixed, U8, U32, U64, for every Writer.
  WALK: math/bits.Len64: the number of binary digits, for every number of 64 bits.
-/
import Derived.Test.YtmjakhmkddgffaaGreatDoorPlain
import Derived.Test.YtmjakhmkddgffaaGreatDoorWriter
import Derived.Deep.RegionLaw
import Derived.Deep.AppendLies
import Derived.Deep.DrawnRows
import Derived.Test.YtmjakhmkddgffaaGreatDoorChecked
import Derived.WalkKit
import Derived.WalkSpells
import Derived.Lib.Walk
import Derived.Lib.BitFns
import Derived.Deep.Light
namespace Go.Proofs.YtmjakhmkddgffaaGreatDoor
open Go.RowKit

/-- A number in so many bytes, the highest first. -/
def fixedB (n : Int) (size : Nat) : List Int := (List.range size).map fun i => n / 256 ^ (size - 1 - i) % 256
theorem fixedB_len (n : Int) (size : Nat) : (fixedB n size).length = size := by simp [fixedB]
theorem fixedB_take (n : Int) (size k : Nat) (h : k < size) : (fixedB n size).take (k + 1) = (fixedB n size).take k ++ [n / 256 ^ (size - 1 - k) % 256] := by
  rw [List.take_succ_eq_append_getElem (by rw [fixedB_len]; exact h)]
  simp [fixedB]
theorem fixedB_octs (n : Int) (size : Nat) : Octs (fixedB n size) := by
  intro u hu
  simp only [fixedB, List.mem_map] at hu
  obtain ⟨i, _, rfl⟩ := hu
  omega

theorem byte_of (n : Int) (j : Nat) : IntKind.u8.wrap (n / 2 ^ (8 * (j : Int)).toNat) = n / 256 ^ j % 256 := by
  rw [show (8 * (j : Int)).toNat = 8 * j by omega, IntKind.wrap_u8', show (256 : Int) = 2 ^ 8 by decide, ← Int.pow_mul]

end Go.Proofs.YtmjakhmkddgffaaGreatDoor

namespace Go.Proofs.YtmjakhmkddgffaaGreatDoor
open Go.RowKit
attribute [local go_sem ↓] Go.wp_at_zero Go.wp_at_succ

set_option maxRecDepth 100000 in
set_option maxHeartbeats 2000000 in
theorem WFixed_any {w : World} {wb B : Nat} {zs : List Int} {S : List Nat} (h : WAt w wb B zs S) (hBw : B ≤ w.heap.size) (n : Int) (size : Nat) (hs : size ≤ 8) (hm : zs.length + 8 ≤ 140737488355328) :
    Calls Tryz.prog 121 #[.pointer (some ⟨wb, 0, none⟩), .int .u64 n, .int .i64 size] w fun e w' => e = .returned (.tuple #[]) ∧ Wrote w w' wb B (zs ++ fixedB n size) S := by
  obtain ⟨i0, hi, hz0, hz1, hz2⟩ := info_parts Tryz.info_u8
  have hS0 := h.lt
  go_enter Tryz.func121, Tryz.ntmps121
  go_wp2
  go_loopw [8] (fun i wr => ∃ k : Nat, k ≤ size ∧ i = .int .i64 k ∧ Hid (Wrote w wr wb B (zs ++ (fixedB n size).take k) S)) (fun i _ => size - (intOf i).toNat)
  case atStart => exact ⟨0, Nat.zero_le _, rfl, by simpa using ⟨S, h, Kept.refl _ _, fun x hx => Or.inl hx⟩⟩
  case round =>
    obtain ⟨k, hk, rfl, HW⟩ := hrel
    by_cases hlt : k < size
    · obtain ⟨S1, hW1, hK1, hS1⟩ := HW.out
      obtain ⟨ao, cap, hb, ho, hSe, hne, hoc, hB⟩ := hW1
      have hzl : (zs ++ (fixedB n size).take k).length = zs.length + k := by simp [fixedB_len]; omega
      have HL : Hid ((zs ++ (fixedB n size).take k).length = zs.length + k) := hzl
      clear hzl
      generalize hus0 : (zs ++ (fixedB n size).take k) = us at *
      have HU0 : Hid (zs ++ (fixedB n size).take k = us) := hus0
      clear hus0 HW
      have hc := cell_of_one hb
      have hfr := free_of_one hb
      have hwlt := lt_of_block hb
      obtain ⟨j, hj⟩ : ∃ j, j = size - 1 - k := ⟨_, rfl⟩
      have e1 : IntKind.i64.wrap ((size : Int) - 1) = (size : Int) - 1 := IntWalk.i64_in _ ⟨by omega, by omega⟩
      have e2 : IntKind.i64.wrap ((size : Int) - 1 - (k : Int)) = (j : Int) := by rw [IntWalk.i64_in _ ⟨by omega, by omega⟩]; omega
      have e3 : IntKind.i64.wrap (8 * (j : Int)) = 8 * (j : Int) := IntWalk.i64_in _ ⟨by omega, by omega⟩
      have p1 : 0 ≤ 8 * (j : Int) := by omega
      have p2 : 8 * (j : Int) ≤ 64 := by omega
      have HJ : Hid (j = size - 1 - k) := hj
      clear hj
      obtain ⟨x, hx⟩ : ∃ x, IntKind.u8.wrap (n / 2 ^ (8 * (j : Int)).toNat) = x := ⟨_, rfl⟩
      have HX : Hid (IntKind.u8.wrap (n / 2 ^ (8 * (j : Int)).toNat) = x) := hx
      have hown : ((wr.alloc (.cells #[.int .u8 x] 5)).drew).ownsRow B 5 1 (.slice ao us.length cap) us.length (us.map (Value.int .u8)) := (ho.alloc _).drew
      have hbase : B ≤ ((wr.alloc (.cells #[.int .u8 x] 5)).drew).heap.size := by have := hK1.size; show B ≤ (wr.alloc _).heap.size; rw [World.size_alloc]; omega
      obtain ⟨us', hus⟩ : ∃ us', us' = us.map (Value.int .u8) := ⟨_, rfl⟩
      rw [← hus] at hown
      have HU : Hid (us' = us.map (Value.int .u8)) := hus
      clear hus
      go_wp2_with fail
      go_region_law
        ((refine step_append_lies _ (by rfl) (.tmp 15) (.tmp 24) 26 (by rfl) B 5 i0 (.int .u8 0) 1 1 Tryz.underlying26 hi hz0 hz1 hz2 rfl (by decide) (.slice ao us.length cap) us.length us' (by rfl) hown ⟨wr.heap.size, 0, none⟩ 1 1 [.int .u8 x] (by rfl) rfl (cell_one_new _ _ _) (map_oneCell [x]) (by decide) (by unfold maxLen; have := HL.out; omega) (by have := HL.out; omega) hbase (wr.heap.size + 1) (by simp) ?_; intro g1 cap1 w1 ho1 hgr1 hat1 hlt1; have hb1 : w1.heap[wb]? = some (.cells #[.slice ao us.length cap] 93 (0, 0)) := (hgr1.block wb (by show wb < (wr.alloc _).heap.size; rw [World.size_alloc]; omega) (Ne.symm hne)).trans ((Below.heap_alloc wr _ wb hwlt).trans hb); have c1 := cell_of_one hb1; have f1 := free_of_one hb1; clear hb1))
      all_goals go_wp2
      all_goals go_roundw
      case rel | rel =>
        have ex : x = n / 256 ^ (size - 1 - k) % 256 := by rw [← HX.out, byte_of, HJ.out]
        rw [HU.out] at ho1
        have hw := wrote_of (ys := [x]) (((Kept.refl [] wr).alloc (.cells #[.int .u8 x] 5)).drew) (by show _ ≤ (wr.alloc _).heap.size; rw [World.size_alloc]; omega) hb hne hoc (by rw [ex]; intro u hu; simp at hu; subst hu; omega) hB ho1 hgr1 (by
          rcases hat1 with h1 | h1
          · exact Or.inl h1.symm
          · right; show some g1 = some (wr.alloc _).heap.size; rw [World.size_alloc, h1])
        rw [← hSe] at hw
        have hw2 := Wrote.trans hK1 hS1 hw
        refine ⟨k + 1, by omega, by go_num, ?_⟩
        show Wrote _ _ _ _ _ _
        rw [fixedB_take n size k hlt, ← List.append_assoc, HU0.out, ← ex]
        exact hw2
      all_goals simp [intOf]; omega
    · obtain rfl : k = size := by omega
      go_wp2
      go_end0
      have e : (fixedB n k).take k = fixedB n k := List.take_of_length_le (by rw [fixedB_len]; exact Nat.le_refl _)
      have := HW.out
      rw [e] at this
      exact ⟨rfl, this⟩

end Go.Proofs.YtmjakhmkddgffaaGreatDoor

namespace Go.Proofs.YtmjakhmkddgffaaGreatDoor
open Go.RowKit

theorem bitLen_way (x y : Int) (s D : Nat) (hD : D = 2 ^ s) (hy : y = x / D) (h0 : 0 ≤ x) (h1 : x ≤ 18446744073709551615) (hlo : (D : Int) ≤ x) (hup : y ≤ 255) : (s : Int) + Lib.len8 y = (Lib.bitLen x.toNat : Int) := by
  have hy0 : 0 ≤ y := by rw [hy]; exact Int.ediv_nonneg h0 (by omega)
  have hp : (2 : Nat) ^ 64 = 18446744073709551616 := by decide
  rw [Lib.len8_of y hy0 hup, Lib.bitLen_shift s x.toNat (by rw [← hD]; omega) (by omega)]
  rw [hy, ← hD]
  have : (x / (D : Int)).toNat = x.toNat / D := by
    obtain ⟨n, rfl⟩ := Int.eq_ofNat_of_zero_le h0
    rw [← Int.natCast_ediv]
    rfl
  rw [this]
  omega

theorem bitLenAux_spec : ∀ (f x : Nat), 1 ≤ x → x < 2 ^ f → 1 ≤ Lib.bitLenAux f x ∧ 2 ^ (Lib.bitLenAux f x - 1) ≤ x ∧ x < 2 ^ Lib.bitLenAux f x := by
  intro f
  induction f with
  | zero => intro x h1 h2; simp at h2; omega
  | succ f ih =>
    intro x h1 h2
    by_cases hx : x / 2 = 0
    · have : x = 1 := by omega
      subst this
      have e : Lib.bitLenAux (f + 1) 1 = 1 := by
        unfold Lib.bitLenAux
        cases f <;> simp [Lib.bitLenAux]
      rw [e]
      simp
    · have h3 := ih (x / 2) (by omega) (by rw [Nat.pow_succ] at h2; omega)
      have e : Lib.bitLenAux (f + 1) x = 1 + Lib.bitLenAux f (x / 2) := by
        conv => lhs; unfold Lib.bitLenAux
        rw [if_neg (by omega)]
      obtain ⟨t, ht⟩ : ∃ t, Lib.bitLenAux f (x / 2) = t + 1 := ⟨Lib.bitLenAux f (x / 2) - 1, by omega⟩
      rw [e, ht]
      rw [ht] at h3
      simp only [Nat.add_sub_cancel] at h3
      rw [show 1 + (t + 1) - 1 = t + 1 by omega, show 1 + (t + 1) = t + 1 + 1 by omega, Nat.pow_succ, Nat.pow_succ 2 (t + 1)]
      rw [Nat.pow_succ] at h3 ⊢
      omega
theorem bitLen_spec (x : Nat) (h1 : 1 ≤ x) (h2 : x ≤ 18446744073709551615) : 1 ≤ Lib.bitLen x ∧ 2 ^ (Lib.bitLen x - 1) ≤ x ∧ x < 2 ^ Lib.bitLen x ∧ Lib.bitLen x ≤ 64 := by
  have hp : (2 : Nat) ^ 64 = 18446744073709551616 := by decide
  have h := bitLenAux_spec 64 x h1 (by omega)
  exact ⟨h.1, h.2.1, h.2.2, Lib.bitLen_le x 64 (by decide) (by omega)⟩

set_option maxHeartbeats 400000 in
set_option maxRecDepth 100000 in
theorem Len64_0 (x : Int) (w : World) (h0 : 0 ≤ x) (h1 : x ≤ 255) : Calls Tryz.prog 127 #[.int .u64 x] w fun e w' => e = .returned (.int .i64 (Lib.bitLen x.toNat)) ∧ w' = w := by
  have l0 := Lib.len8_of x (by omega) (by omega)
  have l1 := Lib.bitLen_le8' x (by omega) (by omega)
  have hix := fun w => Lib.run_index_len8tab (P := Tryz.prog) w 9 .u8 x Tryz.underlying9 (by omega) (by omega)
  rw [l0] at hix
  clear l0
  go_enter Tryz.func127, Tryz.ntmps127
  go_wp2
  go_ret
  exact ⟨rfl, rfl⟩

set_option maxHeartbeats 400000 in
set_option maxRecDepth 100000 in
theorem Len64_8 (x : Int) (w : World) (h0 : 256 ≤ x) (h1 : x ≤ 65535) : Calls Tryz.prog 127 #[.int .u64 x] w fun e w' => e = .returned (.int .i64 (Lib.bitLen x.toNat)) ∧ w' = w := by
  obtain ⟨y, hy⟩ : ∃ y, y = x / 256 := ⟨_, rfl⟩
  have hb := bitLen_way x y 8 256 (by decide) hy (by omega) (by omega) h0 (by omega)
  have y0 : 0 ≤ y := by omega
  have y1 : y ≤ 255 := by omega
  have q : x / 256 = y := by omega
  have l0 := Lib.len8_of y y0 y1
  have l1 := Lib.bitLen_le8' y y0 y1
  have hix := fun w => Lib.run_index_len8tab (P := Tryz.prog) w 9 .u8 y Tryz.underlying9 y0 y1
  rw [l0] at hix hb
  have HB : Hid ((8 : Int) + (Lib.bitLen y.toNat : Int) = (Lib.bitLen x.toNat : Int)) := hb
  clear l0 hb hy
  go_enter Tryz.func127, Tryz.ntmps127
  go_wp2
  go_ret
  exact ⟨congrArg Ending.returned (congrArg (Value.int IntKind.i64) HB.out), rfl⟩

set_option maxHeartbeats 400000 in
set_option maxRecDepth 100000 in
theorem Len64_16 (x : Int) (w : World) (h0 : 65536 ≤ x) (h1 : x ≤ 16777215) : Calls Tryz.prog 127 #[.int .u64 x] w fun e w' => e = .returned (.int .i64 (Lib.bitLen x.toNat)) ∧ w' = w := by
  obtain ⟨y, hy⟩ : ∃ y, y = x / 65536 := ⟨_, rfl⟩
  have hb := bitLen_way x y 16 65536 (by decide) hy (by omega) (by omega) h0 (by omega)
  have y0 : 0 ≤ y := by omega
  have y1 : y ≤ 255 := by omega
  have q : x / 65536 = y := by omega
  have l0 := Lib.len8_of y y0 y1
  have l1 := Lib.bitLen_le8' y y0 y1
  have hix := fun w => Lib.run_index_len8tab (P := Tryz.prog) w 9 .u8 y Tryz.underlying9 y0 y1
  rw [l0] at hix hb
  have HB : Hid ((16 : Int) + (Lib.bitLen y.toNat : Int) = (Lib.bitLen x.toNat : Int)) := hb
  clear l0 hb hy
  go_enter Tryz.func127, Tryz.ntmps127
  go_wp2
  go_ret
  exact ⟨congrArg Ending.returned (congrArg (Value.int IntKind.i64) HB.out), rfl⟩

set_option maxHeartbeats 400000 in
set_option maxRecDepth 100000 in
theorem Len64_24 (x : Int) (w : World) (h0 : 16777216 ≤ x) (h1 : x ≤ 4294967295) : Calls Tryz.prog 127 #[.int .u64 x] w fun e w' => e = .returned (.int .i64 (Lib.bitLen x.toNat)) ∧ w' = w := by
  obtain ⟨y, hy⟩ : ∃ y, y = x / 16777216 := ⟨_, rfl⟩
  have hb := bitLen_way x y 24 16777216 (by decide) hy (by omega) (by omega) h0 (by omega)
  have y0 : 0 ≤ y := by omega
  have y1 : y ≤ 255 := by omega
  have q : x / 65536 / 256 = y := by omega
  have l0 := Lib.len8_of y y0 y1
  have l1 := Lib.bitLen_le8' y y0 y1
  have hix := fun w => Lib.run_index_len8tab (P := Tryz.prog) w 9 .u8 y Tryz.underlying9 y0 y1
  rw [l0] at hix hb
  have HB : Hid ((24 : Int) + (Lib.bitLen y.toNat : Int) = (Lib.bitLen x.toNat : Int)) := hb
  clear l0 hb hy
  go_enter Tryz.func127, Tryz.ntmps127
  go_wp2
  go_ret
  exact ⟨congrArg Ending.returned (congrArg (Value.int IntKind.i64) HB.out), rfl⟩

set_option maxHeartbeats 400000 in
set_option maxRecDepth 100000 in
theorem Len64_32 (x : Int) (w : World) (h0 : 4294967296 ≤ x) (h1 : x ≤ 1099511627775) : Calls Tryz.prog 127 #[.int .u64 x] w fun e w' => e = .returned (.int .i64 (Lib.bitLen x.toNat)) ∧ w' = w := by
  obtain ⟨y, hy⟩ : ∃ y, y = x / 4294967296 := ⟨_, rfl⟩
  have hb := bitLen_way x y 32 4294967296 (by decide) hy (by omega) (by omega) h0 (by omega)
  have y0 : 0 ≤ y := by omega
  have y1 : y ≤ 255 := by omega
  have q : x / 4294967296 = y := by omega
  have l0 := Lib.len8_of y y0 y1
  have l1 := Lib.bitLen_le8' y y0 y1
  have hix := fun w => Lib.run_index_len8tab (P := Tryz.prog) w 9 .u8 y Tryz.underlying9 y0 y1
  rw [l0] at hix hb
  have HB : Hid ((32 : Int) + (Lib.bitLen y.toNat : Int) = (Lib.bitLen x.toNat : Int)) := hb
  clear l0 hb hy
  go_enter Tryz.func127, Tryz.ntmps127
  go_wp2
  go_ret
  exact ⟨congrArg Ending.returned (congrArg (Value.int IntKind.i64) HB.out), rfl⟩

set_option maxHeartbeats 400000 in
set_option maxRecDepth 100000 in
theorem Len64_40 (x : Int) (w : World) (h0 : 1099511627776 ≤ x) (h1 : x ≤ 281474976710655) : Calls Tryz.prog 127 #[.int .u64 x] w fun e w' => e = .returned (.int .i64 (Lib.bitLen x.toNat)) ∧ w' = w := by
  obtain ⟨y, hy⟩ : ∃ y, y = x / 1099511627776 := ⟨_, rfl⟩
  have hb := bitLen_way x y 40 1099511627776 (by decide) hy (by omega) (by omega) h0 (by omega)
  have y0 : 0 ≤ y := by omega
  have y1 : y ≤ 255 := by omega
  have q : x / 4294967296 / 256 = y := by omega
  have l0 := Lib.len8_of y y0 y1
  have l1 := Lib.bitLen_le8' y y0 y1
  have hix := fun w => Lib.run_index_len8tab (P := Tryz.prog) w 9 .u8 y Tryz.underlying9 y0 y1
  rw [l0] at hix hb
  have HB : Hid ((40 : Int) + (Lib.bitLen y.toNat : Int) = (Lib.bitLen x.toNat : Int)) := hb
  clear l0 hb hy
  go_enter Tryz.func127, Tryz.ntmps127
  go_wp2
  go_ret
  exact ⟨congrArg Ending.returned (congrArg (Value.int IntKind.i64) HB.out), rfl⟩

set_option maxHeartbeats 400000 in
set_option maxRecDepth 100000 in
theorem Len64_48 (x : Int) (w : World) (h0 : 281474976710656 ≤ x) (h1 : x ≤ 72057594037927935) : Calls Tryz.prog 127 #[.int .u64 x] w fun e w' => e = .returned (.int .i64 (Lib.bitLen x.toNat)) ∧ w' = w := by
  obtain ⟨y, hy⟩ : ∃ y, y = x / 281474976710656 := ⟨_, rfl⟩
  have hb := bitLen_way x y 48 281474976710656 (by decide) hy (by omega) (by omega) h0 (by omega)
  have y0 : 0 ≤ y := by omega
  have y1 : y ≤ 255 := by omega
  have q : x / 4294967296 / 65536 = y := by omega
  have l0 := Lib.len8_of y y0 y1
  have l1 := Lib.bitLen_le8' y y0 y1
  have hix := fun w => Lib.run_index_len8tab (P := Tryz.prog) w 9 .u8 y Tryz.underlying9 y0 y1
  rw [l0] at hix hb
  have HB : Hid ((48 : Int) + (Lib.bitLen y.toNat : Int) = (Lib.bitLen x.toNat : Int)) := hb
  clear l0 hb hy
  go_enter Tryz.func127, Tryz.ntmps127
  go_wp2
  go_ret
  exact ⟨congrArg Ending.returned (congrArg (Value.int IntKind.i64) HB.out), rfl⟩

set_option maxHeartbeats 400000 in
set_option maxRecDepth 100000 in
theorem Len64_56 (x : Int) (w : World) (h0 : 72057594037927936 ≤ x) (h1 : x ≤ 18446744073709551615) : Calls Tryz.prog 127 #[.int .u64 x] w fun e w' => e = .returned (.int .i64 (Lib.bitLen x.toNat)) ∧ w' = w := by
  obtain ⟨y, hy⟩ : ∃ y, y = x / 72057594037927936 := ⟨_, rfl⟩
  have hb := bitLen_way x y 56 72057594037927936 (by decide) hy (by omega) (by omega) h0 (by omega)
  have y0 : 0 ≤ y := by omega
  have y1 : y ≤ 255 := by omega
  have q : x / 4294967296 / 65536 / 256 = y := by omega
  have l0 := Lib.len8_of y y0 y1
  have l1 := Lib.bitLen_le8' y y0 y1
  have hix := fun w => Lib.run_index_len8tab (P := Tryz.prog) w 9 .u8 y Tryz.underlying9 y0 y1
  rw [l0] at hix hb
  have HB : Hid ((56 : Int) + (Lib.bitLen y.toNat : Int) = (Lib.bitLen x.toNat : Int)) := hb
  clear l0 hb hy
  go_enter Tryz.func127, Tryz.ntmps127
  go_wp2
  go_ret
  exact ⟨congrArg Ending.returned (congrArg (Value.int IntKind.i64) HB.out), rfl⟩

theorem Len64_any (x : Int) (w : World) (h0 : 0 ≤ x) (h1 : x ≤ 18446744073709551615) :
    Calls Tryz.prog 127 #[.int .u64 x] w fun e w' => e = .returned (.int .i64 (Lib.bitLen x.toNat)) ∧ w' = w := by
  by_cases g0 : x ≤ 255
  · exact Len64_0 x w (by omega) g0
  by_cases g8 : x ≤ 65535
  · exact Len64_8 x w (by omega) g8
  by_cases g16 : x ≤ 16777215
  · exact Len64_16 x w (by omega) g16
  by_cases g24 : x ≤ 4294967295
  · exact Len64_24 x w (by omega) g24
  by_cases g32 : x ≤ 1099511627775
  · exact Len64_32 x w (by omega) g32
  by_cases g40 : x ≤ 281474976710655
  · exact Len64_40 x w (by omega) g40
  by_cases g48 : x ≤ 72057594037927935
  · exact Len64_48 x w (by omega) g48
  exact Len64_56 x w (by omega) h1

end Go.Proofs.YtmjakhmkddgffaaGreatDoor
