/-
  PLAIN MATHEMATICS, continued: what is found lies within the bytes. No Go text is named here.
-/
import Derived.Test.YtmjbaficdoehfaaDoorConv
import Derived.Test.YtmjbaficdoehfaaDoorBase
namespace Go.Proofs.YtmjbaficdoehfaaDoor
open Go.RowKit

structure Fnd.Fits (x : Fnd) (len : Nat) : Prop where
  n0 : 0 ≤ x.n
  n1 : x.n ≤ 18446744073709551615
  frm : x.frm ≤ x.to
  to : x.to ≤ len
  f : x.f ≤ 4
  bad : x.f ≠ 0 → x = ⟨0, 0, 0, x.f⟩

theorem BytesAt.none' {w : World} (ao : Option Addr) (cap : Nat) (hc : ao = none → cap = 0) : BytesAt w (.slice ao 0 cap) [] := ⟨ao, cap, rfl, Nat.zero_le _, hc, fun h => absurd rfl h⟩
theorem BytesAt.drewN {w : World} {v : Value} {ys : List Int} (h : BytesAt w v ys) (n : Nat) : BytesAt (w.drewN n) v ys := h.kept (S := []) ((Kept.refl _ _).drewN n) (fun _ _ => by simp)

end Go.Proofs.YtmjbaficdoehfaaDoor
