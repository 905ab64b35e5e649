/-
  PLAIN MATHEMATICS, continued: what is found lies within the bytes. No Go text is named here.
-/
import Derived.Test.YtlljiipmkjjhhaaDoorSha1
import Derived.Test.YtlljiipmkjjhhaaDoorBase
namespace Go.Proofs.YtlljiipmkjjhhaaDoor
open Go.RowKit

theorem BytesAt.drewN {w : World} {v : Value} {ys : List Int} (h : BytesAt w v ys) (n : Nat) : BytesAt (w.drewN n) v ys := h.kept (S := []) ((Kept.refl _ _).drewN n) (fun _ _ => by simp)

end Go.Proofs.YtlljiipmkjjhhaaDoor
