/-
  WALKS: satchelref0.Cmp and Eq over any two slices of bytes.
-/
import Derived.Test.YtmjbaficdoehfaaEqA
namespace Go.Proofs.Ytmjbaficdoehfaa
open Go.RowKit

theorem drew_two (w : World) (a b : Nat) : ∃ k, (w.drewN a).drewN b = w.drewN k := ⟨a + b, by simp [World.drewN, Nat.add_assoc]⟩
theorem drew_three (w : World) (a b c : Nat) : ∃ k, ((w.drewN a).drewN b).drewN c = w.drewN k := ⟨a + b + c, by simp [World.drewN, Nat.add_assoc]⟩

theorem take_eq_succ {us vs : List Int} {k : Nat} (ha : k < us.length) (hb : k < vs.length) (h : us.take k = vs.take k) (he : us[k]?.getD 0 = vs[k]?.getD 0) : us.take (k + 1) = vs.take (k + 1) := by
  rw [take_snoc us k ha, take_snoc vs k hb, h]
  congr 2
end Go.Proofs.Ytmjbaficdoehfaa
