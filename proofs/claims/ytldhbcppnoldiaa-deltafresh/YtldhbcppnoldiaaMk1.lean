/-
  WALKS: delta.width, (*delta.maker).gain.
-/
import Derived.Test.YtldhbcppnoldiaaMk0
import Derived.Test.YtldhbcppnoldiaaDl1
import Derived.Deep.QuietTactic
import Derived.BigQuiet
import Derived.Deep.RegionWith
namespace Go.Proofs.Ytldhbcppnoldiaa
open Go.RowKit

theorem Len_any (x : Int) (w : World) (h0 : 0 ≤ x) (h1 : x ≤ 18446744073709551615) :
    Calls Try.prog 112 #[.int .u64 x] w fun e w' => e = .returned (.int .i64 (Lib.bitLen x.toNat)) ∧ w' = w := by
  have hcall := Len64_any x w h0 h1
  go_enter Try.func112, Try.ntmps112
  go_wp2_with (go_at_call 64; refine hcall.mono ?_; rintro e w1 ⟨rfl, rfl⟩)
  go_ret
  exact ⟨rfl, rfl⟩

set_option maxRecDepth 100000 in
theorem width_any (n : Nat) (w : World) (h1 : n ≤ 1073741824) :
    Calls Try.prog 108 #[.int .i64 n] w fun e w' => e = .returned (.int .i64 (wd n)) ∧ w' = w := by
  have hor := or_one_u64 n (by omega) (by omega)
  rw [Int.toNat_natCast] at hor
  have hx0 : 1 ≤ n ||| 1 := by have := or_one n; omega
  have hx1 : n ||| 1 ≤ 1073741825 := by have := or_one n; omega
  have hcall := Len_any ((n ||| 1 : Nat) : Int) w (by omega) (by omega)
  rw [Int.toNat_natCast] at hcall
  have hs := bitLen_spec (n ||| 1) (by omega) (by omega)
  have hwd : wd n = (Lib.bitLen (n ||| 1) - 1) / 7 + 1 := by rw [wd_last]; unfold lastOf; rw [Int.toNat_natCast]
  generalize Lib.bitLen (n ||| 1) = L at *
  obtain ⟨hs1, hs2, hs3, hs4⟩ := hs
  have hw0 : IntKind.u64.wrap (n : Int) = n := by rw [IntKind.wrap_u64]; omega
  have hw1 : IntKind.i64.wrap ((L : Int) + 6) = L + 6 := by rw [IntKind.wrap_i64]; omega
  have hw2 : Int.tdiv ((L : Int) + 6) 7 = ((wd n : Nat) : Int) := by rw [Int.tdiv_eq_ediv_of_nonneg (by omega), hwd]; omega
  have hw3 : ((L : Int) + 6) / 7 = ((wd n : Nat) : Int) := by rw [hwd]; omega
  have hw4 : wrap64 ((wd n : Nat) : Int) = wd n := by unfold wrap64; omega
  clear hs1 hs2 hs3 hs4 hwd
  generalize n ||| 1 = x at *
  go_enter Try.func108, Try.ntmps108
  go_wp2_with (go_at_call 112; refine hcall.mono ?_; rintro e w1 ⟨rfl, rfl⟩)
  go_ret
  refine ⟨?_, rfl⟩
  show Ending.returned (Value.int .i64 (wrap64 ((wd n : Nat) : Int))) = _
  rw [hw4]

/-- A maker in block mb: the base, the target, its Writer. -/
def MkrIs (w : World) (mb : Nat) (vb vt : Value) (wb : Nat) : Prop := w.heap[mb]? = some (.cells #[vb, vt, .pointer (some ⟨wb, 0, none⟩)] 106 (0, 0))
def gainL (l st t : Nat) : Int := (l : Int) - wd (2 * l + 1) - wd st - wd (2 * t)

set_option maxRecDepth 100000 in
set_option maxHeartbeats 2000000 in
theorem gain_any {w : World} {mb wb : Nat} {vb : Value} {at' : Option Addr} {t ct : Nat} (hm : MkrIs w mb vb (.slice at' t ct) wb) (st l : Nat) (hst : st ≤ 65536) (hl : l ≤ 65536) (ht : t ≤ 65536) :
    Calls Try.prog 87 #[.pointer (some ⟨mb, 0, none⟩), .agg #[.int .i64 st, .int .i64 l]] w fun e w' => e = .returned (.int .i64 (gainL l st t)) ∧ Kept [] w w' := by
  have b1 := ((Kept.refl [] w).alloc (.cells #[.int .i64 st, .int .i64 l] 127)).heap hm (by simp)
  obtain ⟨q1, q2, q3⟩ := own_facts b1
  have g1 := q1 1
  simp at g1
  have hlt := lt_of_block hm
  have hA := fun W => width_any (2 * l + 1) W (by omega)
  have hB := fun W => width_any st W (by omega)
  have hC := fun W => width_any (2 * t) W (by omega)
  have eA : ((2 * l + 1 : Nat) : Int) = 2 * (l : Int) + 1 := by omega
  have eC : ((2 * t : Nat) : Int) = 2 * (t : Int) := by omega
  rw [eA] at hA
  rw [eC] at hC
  have hg : gainL l st t = (l : Int) - wd (2 * l + 1) - wd st - wd (2 * t) := rfl
  have w1 := wd_three (2 * l + 1) (by omega)
  have w2 := wd_three st (by omega)
  have w3 := wd_three (2 * t) (by omega)
  rw [hg]
  generalize wd (2 * l + 1) = x1 at *
  generalize wd st = x2 at *
  generalize wd (2 * t) = x3 at *
  have r1 : IntKind.i64.wrap (2 * (l : Int)) = 2 * l := by rw [IntKind.wrap_i64]; omega
  have r2 : IntKind.i64.wrap (2 * (l : Int) + 1) = 2 * l + 1 := by rw [IntKind.wrap_i64]; omega
  have r3 : IntKind.i64.wrap (2 * (t : Int)) = 2 * t := by rw [IntKind.wrap_i64]; omega
  have r4 : IntKind.i64.wrap ((l : Int) - x1) = l - x1 := by rw [IntKind.wrap_i64]; omega
  have r5 : IntKind.i64.wrap ((l : Int) - x1 - x2) = l - x1 - x2 := by rw [IntKind.wrap_i64]; omega
  have r6 : IntKind.i64.wrap ((l : Int) - x1 - x2 - x3) = l - x1 - x2 - x3 := by rw [IntKind.wrap_i64]; omega
  clear q1 q2 b1 hm hg eA eC
  go_enter Try.func87, Try.ntmps87
  go_wp2_with fail
  go_quiet (first
    | (with_reducible exact Calls.quiet_of_same (hA _))
    | (with_reducible exact Calls.quiet_of_same (hB _))
    | (with_reducible exact Calls.quiet_of_same (hC _)))
  go_wp2
  go_ret
  exact ⟨rfl, ((Kept.refl [] w).alloc _).drewN _⟩
end Go.Proofs.Ytldhbcppnoldiaa
