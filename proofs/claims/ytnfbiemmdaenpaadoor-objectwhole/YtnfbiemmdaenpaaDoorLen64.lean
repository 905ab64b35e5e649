/-
  WALK: math/bits.Len64: the number of binary digits, for every number of 64 bits.
-/
import Derived.Test.YtnfbiemmdaenpaaDoorChecked
import Derived.WalkKit
import Derived.WalkSpells
import Derived.Lib.Walk
import Derived.Lib.BitFns
import Derived.Deep.Light
namespace Go.Proofs.YtnfbiemmdaenpaaDoor
open Go.RowKit

theorem bitLen_way (x y : Int) (s D : Nat) (hD : D = 2 ^ s) (hy : y = x / D) (h0 : 0 ≤ x) (h1 : x ≤ 18446744073709551615) (hlo : (D : Int) ≤ x) (hup : y ≤ 255) : (s : Int) + Lib.len8 y = (Lib.bitLen x.toNat : Int) := by
  have hy0 : 0 ≤ y := by rw [hy]; exact Int.ediv_nonneg h0 (by omega)
  have hp : (2 : Nat) ^ 64 = 18446744073709551616 := by decide
  rw [Lib.len8_of y hy0 hup, Lib.bitLen_shift s x.toNat (by rw [← hD]; omega) (by omega)]
  rw [hy, ← hD]
  have : (x / (D : Int)).toNat = x.toNat / D := by
    obtain ⟨n, rfl⟩ := Int.eq_ofNat_of_zero_le h0
    rw [← Int.natCast_ediv]
    rfl
  rw [this]
  omega

theorem bitLenAux_spec : ∀ (f x : Nat), 1 ≤ x → x < 2 ^ f → 1 ≤ Lib.bitLenAux f x ∧ 2 ^ (Lib.bitLenAux f x - 1) ≤ x ∧ x < 2 ^ Lib.bitLenAux f x := by
  intro f
  induction f with
  | zero => intro x h1 h2; simp at h2; omega
  | succ f ih =>
    intro x h1 h2
    by_cases hx : x / 2 = 0
    · have : x = 1 := by omega
      subst this
      have e : Lib.bitLenAux (f + 1) 1 = 1 := by
        unfold Lib.bitLenAux
        cases f <;> simp [Lib.bitLenAux]
      rw [e]
      simp
    · have h3 := ih (x / 2) (by omega) (by rw [Nat.pow_succ] at h2; omega)
      have e : Lib.bitLenAux (f + 1) x = 1 + Lib.bitLenAux f (x / 2) := by
        conv => lhs; unfold Lib.bitLenAux
        rw [if_neg (by omega)]
      obtain ⟨t, ht⟩ : ∃ t, Lib.bitLenAux f (x / 2) = t + 1 := ⟨Lib.bitLenAux f (x / 2) - 1, by omega⟩
      rw [e, ht]
      rw [ht] at h3
      simp only [Nat.add_sub_cancel] at h3
      rw [show 1 + (t + 1) - 1 = t + 1 by omega, show 1 + (t + 1) = t + 1 + 1 by omega, Nat.pow_succ, Nat.pow_succ 2 (t + 1)]
      rw [Nat.pow_succ] at h3 ⊢
      omega
theorem bitLen_spec (x : Nat) (h1 : 1 ≤ x) (h2 : x ≤ 18446744073709551615) : 1 ≤ Lib.bitLen x ∧ 2 ^ (Lib.bitLen x - 1) ≤ x ∧ x < 2 ^ Lib.bitLen x ∧ Lib.bitLen x ≤ 64 := by
  have hp : (2 : Nat) ^ 64 = 18446744073709551616 := by decide
  have h := bitLenAux_spec 64 x h1 (by omega)
  exact ⟨h.1, h.2.1, h.2.2, Lib.bitLen_le x 64 (by decide) (by omega)⟩

set_option maxHeartbeats 400000 in
set_option maxRecDepth 100000 in
theorem Len64_0 (x : Int) (w : World) (h0 : 0 ≤ x) (h1 : x ≤ 255) : Calls Tryd.prog 106 #[.int .u64 x] w fun e w' => e = .returned (.int .i64 (Lib.bitLen x.toNat)) ∧ w' = w := by
  have l0 := Lib.len8_of x (by omega) (by omega)
  have l1 := Lib.bitLen_le8' x (by omega) (by omega)
  have hix := fun w => Lib.run_index_len8tab (P := Tryd.prog) w 9 .u8 x Tryd.underlying9 (by omega) (by omega)
  rw [l0] at hix
  clear l0
  go_enter Tryd.func106, Tryd.ntmps106
  go_wp2
  go_ret
  exact ⟨rfl, rfl⟩

set_option maxHeartbeats 400000 in
set_option maxRecDepth 100000 in
theorem Len64_8 (x : Int) (w : World) (h0 : 256 ≤ x) (h1 : x ≤ 65535) : Calls Tryd.prog 106 #[.int .u64 x] w fun e w' => e = .returned (.int .i64 (Lib.bitLen x.toNat)) ∧ w' = w := by
  obtain ⟨y, hy⟩ : ∃ y, y = x / 256 := ⟨_, rfl⟩
  have hb := bitLen_way x y 8 256 (by decide) hy (by omega) (by omega) h0 (by omega)
  have y0 : 0 ≤ y := by omega
  have y1 : y ≤ 255 := by omega
  have q : x / 256 = y := by omega
  have l0 := Lib.len8_of y y0 y1
  have l1 := Lib.bitLen_le8' y y0 y1
  have hix := fun w => Lib.run_index_len8tab (P := Tryd.prog) w 9 .u8 y Tryd.underlying9 y0 y1
  rw [l0] at hix hb
  have HB : Hid ((8 : Int) + (Lib.bitLen y.toNat : Int) = (Lib.bitLen x.toNat : Int)) := hb
  clear l0 hb hy
  go_enter Tryd.func106, Tryd.ntmps106
  go_wp2
  go_ret
  exact ⟨congrArg Ending.returned (congrArg (Value.int IntKind.i64) HB.out), rfl⟩

set_option maxHeartbeats 400000 in
set_option maxRecDepth 100000 in
theorem Len64_16 (x : Int) (w : World) (h0 : 65536 ≤ x) (h1 : x ≤ 16777215) : Calls Tryd.prog 106 #[.int .u64 x] w fun e w' => e = .returned (.int .i64 (Lib.bitLen x.toNat)) ∧ w' = w := by
  obtain ⟨y, hy⟩ : ∃ y, y = x / 65536 := ⟨_, rfl⟩
  have hb := bitLen_way x y 16 65536 (by decide) hy (by omega) (by omega) h0 (by omega)
  have y0 : 0 ≤ y := by omega
  have y1 : y ≤ 255 := by omega
  have q : x / 65536 = y := by omega
  have l0 := Lib.len8_of y y0 y1
  have l1 := Lib.bitLen_le8' y y0 y1
  have hix := fun w => Lib.run_index_len8tab (P := Tryd.prog) w 9 .u8 y Tryd.underlying9 y0 y1
  rw [l0] at hix hb
  have HB : Hid ((16 : Int) + (Lib.bitLen y.toNat : Int) = (Lib.bitLen x.toNat : Int)) := hb
  clear l0 hb hy
  go_enter Tryd.func106, Tryd.ntmps106
  go_wp2
  go_ret
  exact ⟨congrArg Ending.returned (congrArg (Value.int IntKind.i64) HB.out), rfl⟩

set_option maxHeartbeats 400000 in
set_option maxRecDepth 100000 in
theorem Len64_24 (x : Int) (w : World) (h0 : 16777216 ≤ x) (h1 : x ≤ 4294967295) : Calls Tryd.prog 106 #[.int .u64 x] w fun e w' => e = .returned (.int .i64 (Lib.bitLen x.toNat)) ∧ w' = w := by
  obtain ⟨y, hy⟩ : ∃ y, y = x / 16777216 := ⟨_, rfl⟩
  have hb := bitLen_way x y 24 16777216 (by decide) hy (by omega) (by omega) h0 (by omega)
  have y0 : 0 ≤ y := by omega
  have y1 : y ≤ 255 := by omega
  have q : x / 65536 / 256 = y := by omega
  have l0 := Lib.len8_of y y0 y1
  have l1 := Lib.bitLen_le8' y y0 y1
  have hix := fun w => Lib.run_index_len8tab (P := Tryd.prog) w 9 .u8 y Tryd.underlying9 y0 y1
  rw [l0] at hix hb
  have HB : Hid ((24 : Int) + (Lib.bitLen y.toNat : Int) = (Lib.bitLen x.toNat : Int)) := hb
  clear l0 hb hy
  go_enter Tryd.func106, Tryd.ntmps106
  go_wp2
  go_ret
  exact ⟨congrArg Ending.returned (congrArg (Value.int IntKind.i64) HB.out), rfl⟩

set_option maxHeartbeats 400000 in
set_option maxRecDepth 100000 in
theorem Len64_32 (x : Int) (w : World) (h0 : 4294967296 ≤ x) (h1 : x ≤ 1099511627775) : Calls Tryd.prog 106 #[.int .u64 x] w fun e w' => e = .returned (.int .i64 (Lib.bitLen x.toNat)) ∧ w' = w := by
  obtain ⟨y, hy⟩ : ∃ y, y = x / 4294967296 := ⟨_, rfl⟩
  have hb := bitLen_way x y 32 4294967296 (by decide) hy (by omega) (by omega) h0 (by omega)
  have y0 : 0 ≤ y := by omega
  have y1 : y ≤ 255 := by omega
  have q : x / 4294967296 = y := by omega
  have l0 := Lib.len8_of y y0 y1
  have l1 := Lib.bitLen_le8' y y0 y1
  have hix := fun w => Lib.run_index_len8tab (P := Tryd.prog) w 9 .u8 y Tryd.underlying9 y0 y1
  rw [l0] at hix hb
  have HB : Hid ((32 : Int) + (Lib.bitLen y.toNat : Int) = (Lib.bitLen x.toNat : Int)) := hb
  clear l0 hb hy
  go_enter Tryd.func106, Tryd.ntmps106
  go_wp2
  go_ret
  exact ⟨congrArg Ending.returned (congrArg (Value.int IntKind.i64) HB.out), rfl⟩

set_option maxHeartbeats 400000 in
set_option maxRecDepth 100000 in
theorem Len64_40 (x : Int) (w : World) (h0 : 1099511627776 ≤ x) (h1 : x ≤ 281474976710655) : Calls Tryd.prog 106 #[.int .u64 x] w fun e w' => e = .returned (.int .i64 (Lib.bitLen x.toNat)) ∧ w' = w := by
  obtain ⟨y, hy⟩ : ∃ y, y = x / 1099511627776 := ⟨_, rfl⟩
  have hb := bitLen_way x y 40 1099511627776 (by decide) hy (by omega) (by omega) h0 (by omega)
  have y0 : 0 ≤ y := by omega
  have y1 : y ≤ 255 := by omega
  have q : x / 4294967296 / 256 = y := by omega
  have l0 := Lib.len8_of y y0 y1
  have l1 := Lib.bitLen_le8' y y0 y1
  have hix := fun w => Lib.run_index_len8tab (P := Tryd.prog) w 9 .u8 y Tryd.underlying9 y0 y1
  rw [l0] at hix hb
  have HB : Hid ((40 : Int) + (Lib.bitLen y.toNat : Int) = (Lib.bitLen x.toNat : Int)) := hb
  clear l0 hb hy
  go_enter Tryd.func106, Tryd.ntmps106
  go_wp2
  go_ret
  exact ⟨congrArg Ending.returned (congrArg (Value.int IntKind.i64) HB.out), rfl⟩

set_option maxHeartbeats 400000 in
set_option maxRecDepth 100000 in
theorem Len64_48 (x : Int) (w : World) (h0 : 281474976710656 ≤ x) (h1 : x ≤ 72057594037927935) : Calls Tryd.prog 106 #[.int .u64 x] w fun e w' => e = .returned (.int .i64 (Lib.bitLen x.toNat)) ∧ w' = w := by
  obtain ⟨y, hy⟩ : ∃ y, y = x / 281474976710656 := ⟨_, rfl⟩
  have hb := bitLen_way x y 48 281474976710656 (by decide) hy (by omega) (by omega) h0 (by omega)
  have y0 : 0 ≤ y := by omega
  have y1 : y ≤ 255 := by omega
  have q : x / 4294967296 / 65536 = y := by omega
  have l0 := Lib.len8_of y y0 y1
  have l1 := Lib.bitLen_le8' y y0 y1
  have hix := fun w => Lib.run_index_len8tab (P := Tryd.prog) w 9 .u8 y Tryd.underlying9 y0 y1
  rw [l0] at hix hb
  have HB : Hid ((48 : Int) + (Lib.bitLen y.toNat : Int) = (Lib.bitLen x.toNat : Int)) := hb
  clear l0 hb hy
  go_enter Tryd.func106, Tryd.ntmps106
  go_wp2
  go_ret
  exact ⟨congrArg Ending.returned (congrArg (Value.int IntKind.i64) HB.out), rfl⟩

set_option maxHeartbeats 400000 in
set_option maxRecDepth 100000 in
theorem Len64_56 (x : Int) (w : World) (h0 : 72057594037927936 ≤ x) (h1 : x ≤ 18446744073709551615) : Calls Tryd.prog 106 #[.int .u64 x] w fun e w' => e = .returned (.int .i64 (Lib.bitLen x.toNat)) ∧ w' = w := by
  obtain ⟨y, hy⟩ : ∃ y, y = x / 72057594037927936 := ⟨_, rfl⟩
  have hb := bitLen_way x y 56 72057594037927936 (by decide) hy (by omega) (by omega) h0 (by omega)
  have y0 : 0 ≤ y := by omega
  have y1 : y ≤ 255 := by omega
  have q : x / 4294967296 / 65536 / 256 = y := by omega
  have l0 := Lib.len8_of y y0 y1
  have l1 := Lib.bitLen_le8' y y0 y1
  have hix := fun w => Lib.run_index_len8tab (P := Tryd.prog) w 9 .u8 y Tryd.underlying9 y0 y1
  rw [l0] at hix hb
  have HB : Hid ((56 : Int) + (Lib.bitLen y.toNat : Int) = (Lib.bitLen x.toNat : Int)) := hb
  clear l0 hb hy
  go_enter Tryd.func106, Tryd.ntmps106
  go_wp2
  go_ret
  exact ⟨congrArg Ending.returned (congrArg (Value.int IntKind.i64) HB.out), rfl⟩

theorem Len64_any (x : Int) (w : World) (h0 : 0 ≤ x) (h1 : x ≤ 18446744073709551615) :
    Calls Tryd.prog 106 #[.int .u64 x] w fun e w' => e = .returned (.int .i64 (Lib.bitLen x.toNat)) ∧ w' = w := by
  by_cases g0 : x ≤ 255
  · exact Len64_0 x w (by omega) g0
  by_cases g8 : x ≤ 65535
  · exact Len64_8 x w (by omega) g8
  by_cases g16 : x ≤ 16777215
  · exact Len64_16 x w (by omega) g16
  by_cases g24 : x ≤ 4294967295
  · exact Len64_24 x w (by omega) g24
  by_cases g32 : x ≤ 1099511627775
  · exact Len64_32 x w (by omega) g32
  by_cases g40 : x ≤ 281474976710655
  · exact Len64_40 x w (by omega) g40
  by_cases g48 : x ≤ 72057594037927935
  · exact Len64_48 x w (by omega) g48
  exact Len64_56 x w (by omega) h1

end Go.Proofs.YtnfbiemmdaenpaaDoor
