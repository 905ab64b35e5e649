/-
  THE SCRIPT's STEPS as they lie in memory. No Go text is named here but for the types' numbers.
-/
import Derived.Test.YtnnbfdnkpohnfaaBase
import Derived.Test.YtnnbfdnkpohnfaaPlain
namespace Go.Proofs.Ytnnbfdnkpohnfaa
open Go.RowKit

/-- One step of a script: its numbers, its slice and the bytes that it holds. -/
structure COp where
  kind : Int
  which : Int
  m : Int
  n : Int
  ao : Option Addr
  cap : Nat
  b : List Int

def COp.bv (o : COp) : Value := .slice o.ao o.b.length o.cap

structure COp.Good (o : COp) (w : World) : Prop where
  kind0 : -9223372036854775808 ≤ o.kind
  kind1 : o.kind ≤ 9223372036854775807
  which0 : -9223372036854775808 ≤ o.which
  which1 : o.which ≤ 9223372036854775807
  m0 : -9223372036854775808 ≤ o.m
  m1 : o.m ≤ 9223372036854775807
  n0 : 0 ≤ o.n
  n1 : o.n ≤ 18446744073709551615
  at' : BytesAt w (.slice o.ao o.b.length o.cap) o.b
  oct : Octs o.b
  small : o.b.length ≤ 140737488351232

/-- The slice of the steps lies so. -/
def OpsAt (w : World) (v : Value) (ops : List COp) : Prop :=
  ∃ ao cap, v = .slice ao ops.length cap ∧ ops.length ≤ 140737488351232 ∧
    (ops ≠ [] → ∃ b off, ao = some ⟨b, off, none⟩ ∧ ∀ (i : Nat) (o : COp), ops[i]? = some o →
      w.cell? ⟨b, off + i * 5, none⟩ = some (.int .i64 o.kind) ∧ w.cell? ⟨b, off + i * 5 + 1, none⟩ = some (.int .i64 o.which) ∧ w.cell? ⟨b, off + i * 5 + 2, none⟩ = some (.int .i64 o.m) ∧
      w.cell? ⟨b, off + i * 5 + 3, none⟩ = some (.int .u64 o.n) ∧ w.cell? ⟨b, off + i * 5 + 4, none⟩ = some (.slice o.ao o.b.length o.cap))

end Go.Proofs.Ytnnbfdnkpohnfaa
