/-
  PLAIN MATHEMATICS, continued: what is found lies within the bytes. No Go text is named here.
-/
import Derived.Test.YtmjbaficdoehfaaDoorPlain
import Derived.Test.YtmjbaficdoehfaaDoorBase
namespace Go.Proofs.YtmjbaficdoehfaaDoor
open Go.RowKit

theorem BytesAt.none' {w : World} (ao : Option Addr) (cap : Nat) (hc : ao = none → cap = 0) : BytesAt w (.slice ao 0 cap) [] := ⟨ao, cap, rfl, Nat.zero_le _, hc, fun h => absurd rfl h⟩
theorem BytesAt.drewN {w : World} {v : Value} {ys : List Int} (h : BytesAt w v ys) (n : Nat) : BytesAt (w.drewN n) v ys := h.kept (S := []) ((Kept.refl _ _).drewN n) (fun _ _ => by simp)

end Go.Proofs.YtmjbaficdoehfaaDoor
