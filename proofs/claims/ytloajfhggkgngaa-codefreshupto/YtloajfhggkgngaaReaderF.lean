/-
  WALKS: a Reader's Fault.
-/
import Derived.Test.YtloajfhggkgngaaReaderV
namespace Go.Proofs.Ytloajfhggkgngaa
open Go.RowKit

theorem Fault_any {w : World} {r g : Nat} {xs : List Int} {pl f : Nat} (R : Rdr w r g xs pl f) (hf : f ≤ 4) : Calls Try.prog 92 #[.pointer (some ⟨r, 0, none⟩)] w fun e w' => e = .returned (.int .i64 (errL f)) ∧ w' = w := by
  obtain ⟨d0, d1, d2, d3, d4⟩ := R.facts
  clear R
  go_enter Try.func92, Try.ntmps92
  go_wp2_with (go_at_call 111; refine (errno_any f _ hf).mono ?_; rintro e w1 ⟨rfl, rfl⟩)
  go_ret
  exact ⟨rfl, rfl⟩

end Go.Proofs.Ytloajfhggkgngaa
