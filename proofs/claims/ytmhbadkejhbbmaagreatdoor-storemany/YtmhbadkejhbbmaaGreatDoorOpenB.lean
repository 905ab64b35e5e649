/-
  WALKS: satchelref0.Cmp and Eq over two slices of the same bytes; satchellaw1.into.
  LISTS OF BYTES AND OF INTEGERS OPENED: what a reading of them says of memory, and how much it weighs.
-/
import Derived.Test.YtmhbadkejhbbmaaGreatDoorLookFixed
import Derived.Test.YtmhbadkejhbbmaaGreatDoorPlain2
import Derived.Deep.QuietTactic
import Derived.BigQuiet
import Derived.Test.YtmhbadkejhbbmaaGreatDoorRows
import Derived.Test.YtmhbadkejhbbmaaGreatDoorBase
import Derived.Test.YtmhbadkejhbbmaaGreatDoorPlain
import Derived.ProofKit
import Derived.OpenShut
import Derived.SizedLaws
import Derived.Deep.Slices
namespace Go.Proofs.YtmhbadkejhbbmaaGreatDoor
open Go.RowKit

theorem cmp_empty (ao bo : Option Addr) (ca cb : Nat) (w : World) : Calls Tryz.prog 38 #[.slice ao 0 ca, .slice bo 0 cb] w fun e w' => e = .returned (.int .i64 0) ∧ ∃ n, w' = w.drewN n := by
  go_enter Tryz.func38, Tryz.ntmps38
  go_wp2
  refine wp_loop_rounds 1 ?_
  rw [rounds_succ]
  go_wp2
  go_ret
  exact ⟨rfl, 0, rfl⟩

set_option maxHeartbeats 1000000 in
theorem cmp_some (b1 o1 c1 b2 o2 c2 : Nat) (ys : List Int) (w : World) (hm : ys.length ≤ 140737488355328)
    (h1 : ∀ i, i < ys.length → w.cell? ⟨b1, o1 + i, none⟩ = some (.int .u8 (ys[i]?.getD 0))) (h2 : ∀ i, i < ys.length → w.cell? ⟨b2, o2 + i, none⟩ = some (.int .u8 (ys[i]?.getD 0))) :
    Calls Tryz.prog 38 #[.slice (some ⟨b1, o1, none⟩) ys.length c1, .slice (some ⟨b2, o2, none⟩) ys.length c2] w fun e w' => e = .returned (.int .i64 0) ∧ ∃ n, w' = w.drewN n := by
  go_enter Tryz.func38, Tryz.ntmps38
  go_wp2
  go_loopw [5] (fun i wr => ∃ k : Nat, k ≤ ys.length ∧ i = .int .i64 k ∧ ∃ n, wr = w.drewN n) (fun i _ => ys.length - (intOf i).toNat)
  case atStart => exact ⟨0, Nat.zero_le _, rfl, 0, rfl⟩
  case round =>
    obtain ⟨k, hk, rfl, n, rfl⟩ := hrel
    by_cases hlt : k < ys.length
    · have g1 := h1 k hlt
      have g2 := h2 k hlt
      obtain ⟨z, hz⟩ : ∃ z, z = ys[k]?.getD 0 := ⟨_, rfl⟩
      rw [← hz] at g1 g2
      clear hz h1 h2
      have i0 : (0 : Int) ≤ (k : Int) := by omega
      have i1 : (k : Int) < (ys.length : Int) := by omega
      go_wp2
      go_quiet (fail)
      go_wp2
      go_quiet (fail)
      go_wp2
      go_roundw
      case rel => exact ⟨k + 1, by omega, by go_num, _, rfl⟩
      case measure => simp [intOf]; omega
    · clear h1 h2
      go_wp2
      go_ret
      exact ⟨rfl, _, rfl⟩

theorem Cmp_same {w : World} {u v : Value} {ys : List Int} (hu : BytesAt w u ys) (hv : BytesAt w v ys) (hm : ys.length ≤ 140737488355328) : Calls Tryz.prog 38 #[u, v] w fun e w' => e = .returned (.int .i64 0) ∧ ∃ n, w' = w.drewN n := by
  rcases hu.parts with ⟨rfl, ao, ca, rfl⟩ | ⟨b1, o1, c1, rfl, _, h0, h1⟩
  · obtain ⟨bo, cb, rfl, _⟩ := hv
    exact cmp_empty ao bo ca cb w
  · rcases hv.parts with ⟨rfl, bo, cb, rfl⟩ | ⟨b2, o2, c2, rfl, _, _, h2⟩
    · simp at h0
    · exact cmp_some b1 o1 c1 b2 o2 c2 ys w hm h1 h2

theorem Eq_same {w : World} {u v : Value} {ys : List Int} (hu : BytesAt w u ys) (hv : BytesAt w v ys) (hm : ys.length ≤ 140737488355328) : Calls Tryz.prog 16 #[u, v] w fun e w' => e = .returned (.bool true) ∧ ∃ n, w' = w.drewN n := by
  have hcall := Cmp_same hu hv hm
  obtain ⟨ao, ca, rfl, _⟩ := hu
  obtain ⟨bo, cb, rfl, _⟩ := hv
  go_enter Tryz.func16, Tryz.ntmps16
  go_wp2_with (go_at_call 38; refine hcall.mono ?_; rintro e w1 ⟨rfl, n, rfl⟩)
  go_ret
  exact ⟨rfl, _, rfl⟩
end Go.Proofs.YtmhbadkejhbbmaaGreatDoor

namespace Go.Proofs.YtmhbadkejhbbmaaGreatDoor
open Go.ChangeShapes Go.WideShapes Go.ChangeAt Go.RowKit Go.Deep

theorem Tryz.cells_int : Tryz.prog.cellsOf 3 = 1 := by kernel_rfl

section
variable {H : Type} {enc : TypeId × Value → H} {w : World} {base : Nat} {spare : Nat → Bool} {held : Bool} {fuel : Nat} {cs : List Value} {x : DataW H × List MemPlace}

theorem i64_wf {n : Int} (h : (Lit.int .i64 n).wf = true) : -9223372036854775808 ≤ n ∧ n ≤ 9223372036854775807 := by
  have e1 : IntKind.i64.min = -9223372036854775808 := rfl
  have e2 : IntKind.i64.max = 9223372036854775807 := rfl
  simp only [Lit.wf, Bool.and_eq_true, decide_eq_true_eq, e1, e2] at h
  omega
end
end Go.Proofs.YtmhbadkejhbbmaaGreatDoor
