/-
  WALKS: satchelref0.Cmp and Eq over two slices of the same bytes; satchellaw1.into.
-/
import Derived.Test.YtmjbaficdoehfaaChecked
import Derived.Test.YtmjbaficdoehfaaBase
import Derived.Test.YtmjbaficdoehfaaPlain2
import Derived.Deep.QuietTactic
import Derived.BigQuiet
namespace Go.Proofs.Ytmjbaficdoehfaa
open Go.RowKit

theorem cmp_empty (ao bo : Option Addr) (ca cb : Nat) (w : World) : Calls Try.prog 15 #[.slice ao 0 ca, .slice bo 0 cb] w fun e w' => e = .returned (.int .i64 0) ∧ ∃ n, w' = w.drewN n := by
  go_enter Try.func15, Try.ntmps15
  go_wp2
  refine wp_loop_rounds 1 ?_
  rw [rounds_succ]
  go_wp2
  go_ret
  exact ⟨rfl, 0, rfl⟩

end Go.Proofs.Ytmjbaficdoehfaa
