/-
  No cell of these rows narrows 'for every input' (looked for: loops, veiled, ifaces, maps, wideKeys, modest, calm, conditions, laid).
  DERIVED. THE GIVEN ROWS OF THIS SEAT. 3 by the template 'for every input the law returns true; each argument reads behind the call as it read before'; 0 by the template 'total and deterministic' (their statements: YtldhbcppnoldiaaTotals.lean).
  GIVEN WITH THE SEED: the statements are not yours to turn. If you find one false, say at which input.
  Laid BY PROGRAM, IN A SANDBOX (cutbox-rows.mjs): the forced cells as the released guide's own fill.sh prints them over the translation 745aed9a08d061f9… (all of the seat's roots in one cut). By AI agents, Wed Nov 11 2026. No macro, syntax, notation, axiom, sorry.
-/
import Derived.Test.YtldhbcppnoldiaaChecked
import GoSem.Claim
import GoSem.ClaimJoined
import GoSem.ClaimMapViews
import Derived.JoinedTies
import Derived.KernelRfl
namespace Go.Proofs.Ytldhbcppnoldiaa
/- THE CELL 'sum', in the pinned program and in every row, IS THE sha256 OF THE DUMP (.gsa) THAT YtldhbcppnoldiaaProg.lean LOADS. Nothing in Lean hashes anything: it is a label: what it is worth is what the hold of that sum in a sandbox is worth. -/
noncomputable def Try.pinned : Pinned := { name := "ytldhbcppnoldiaa", sum := "745aed9a08d061f9e6272614edd18c67c810810ae743e43bbc973b7317ec7584", checked := Try.checked }
namespace Rows
def none {H : Type} : Left H := { results := [], args := [] }

/-- 'satchellaw1.CodeFresh': WHATEVER THE INPUT: true; the input reads as it did. -/
def codeFreshSpec : ChangeSpec := { name := "codeFresh", fn := fun _ => fun
  | [d] => { results := [.lit (.bool true)], args := [d] }
  | _ => none }
def codeFreshRow : OpenClaim := { program := "ytldhbcppnoldiaa", sum := "745aed9a08d061f9e6272614edd18c67c810810ae743e43bbc973b7317ec7584", func := "satchel/satchellaw1.CodeFresh", spec := "codeFresh", recurses := true, plainKeys := false, apart := false }
def CodeFreshSaid : Prop := codeFreshRow.holds Try.pinned (OpenSpec.ofChange codeFreshSpec)

/-- ITS FALSE NEIGHBOUR: 'it returns false'. Refute it at one input. -/
def codeFreshWrong : ChangeSpec := { name := "codeFresh", fn := fun _ => fun
  | [d] => { results := [.lit (.bool false)], args := [d] }
  | _ => none }
def CodeFreshWrongFalsely : Prop := codeFreshRow.holds Try.pinned (OpenSpec.ofChange codeFreshWrong)

/-- 'satchellaw7.DeltaMade': WHATEVER THE INPUT: true; the input reads as it did. -/
def deltaMadeSpec : ChangeSpec := { name := "deltaMade", fn := fun _ => fun
  | [d] => { results := [.lit (.bool true)], args := [d] }
  | _ => none }
def deltaMadeRow : OpenClaim := { program := "ytldhbcppnoldiaa", sum := "745aed9a08d061f9e6272614edd18c67c810810ae743e43bbc973b7317ec7584", func := "satchel/satchellaw7.DeltaMade", spec := "deltaMade", unfollowed := true, recurses := true, plainKeys := false, apart := false }
def DeltaMadeSaid : Prop := deltaMadeRow.holds Try.pinned (OpenSpec.ofChange deltaMadeSpec)

/-- ITS FALSE NEIGHBOUR: 'it returns false'. Refute it at one input. -/
def deltaMadeWrong : ChangeSpec := { name := "deltaMade", fn := fun _ => fun
  | [d] => { results := [.lit (.bool false)], args := [d] }
  | _ => none }
def DeltaMadeWrongFalsely : Prop := deltaMadeRow.holds Try.pinned (OpenSpec.ofChange deltaMadeWrong)

/-- 'satchellaw7.DeltaFresh': WHATEVER THE INPUT: true; the input reads as it did. -/
def deltaFreshSpec : ChangeSpec := { name := "deltaFresh", fn := fun _ => fun
  | [d] => { results := [.lit (.bool true)], args := [d] }
  | _ => none }
def deltaFreshRow : OpenClaim := { program := "ytldhbcppnoldiaa", sum := "745aed9a08d061f9e6272614edd18c67c810810ae743e43bbc973b7317ec7584", func := "satchel/satchellaw7.DeltaFresh", spec := "deltaFresh", unfollowed := true, recurses := true, plainKeys := false, apart := false }
def DeltaFreshSaid : Prop := deltaFreshRow.holds Try.pinned (OpenSpec.ofChange deltaFreshSpec)

/-- ITS FALSE NEIGHBOUR: 'it returns false'. Refute it at one input. -/
def deltaFreshWrong : ChangeSpec := { name := "deltaFresh", fn := fun _ => fun
  | [d] => { results := [.lit (.bool false)], args := [d] }
  | _ => none }
def DeltaFreshWrongFalsely : Prop := deltaFreshRow.holds Try.pinned (OpenSpec.ofChange deltaFreshWrong)

/- THE SECOND FORM. 'bulk': how many values and letters a reading holds, each counted each time it is reached (what is shared counts as often as it is met; a slice's spare places count too). A statement '..UptoSaid' is the law's where the arguments, and the package variables that the reading takes, are together of bulk at most 1048576: NARROWER than '..Said'. Prove '..Said' where nothing that the law and all that it calls make is longer than what came in: it says more and counts as full. Else prove '..UptoSaid'. A law counts once. -/
mutual
def uptoBulk {H : Type} : DataW H → Nat
  | .lit (.string bytes) => bytes.length + 1
  | .lit _ => 1
  | .nil => 1
  | .ptr d => uptoBulk d + 1
  | .slice elems spare => uptoBulkAll elems + uptoBulkAll spare + 1
  | .agg parts => uptoBulkAll parts + 1
  | .iface _ d => uptoBulk d + 1
  | .map entries => uptoBulkEntries entries + 1
  | .held _ => 1
def uptoBulkAll {H : Type} : List (DataW H) → Nat
  | [] => 0
  | d :: r => uptoBulk d + uptoBulkAll r
def uptoBulkEntries {H : Type} : List (Lit × DataW H) → Nat
  | [] => 0
  | x :: r => uptoBulkEntry x + uptoBulkEntries r
def uptoBulkEntry {H : Type} : Lit × DataW H → Nat
  | (.string bytes, d) => bytes.length + uptoBulk d + 1
  | (_, d) => uptoBulk d + 1
 end
def uptoSmall : (H : Type) → List (DataW H) → Bool := fun _ ds => decide (uptoBulkAll ds ≤ 1048576)
def OpenSpec.upto (s : _root_.Go.ChangeSpec) : _root_.Go.OpenSpec := { _root_.Go.OpenSpec.ofChange s with cond := some uptoSmall }

/-- 'satchellaw1.CodeFresh', WHERE WHAT IT READS IS OF BULK AT MOST 1048576: true; the input reads as it did. -/
def codeFreshUptoRow : OpenClaim := { program := "ytldhbcppnoldiaa", sum := "745aed9a08d061f9e6272614edd18c67c810810ae743e43bbc973b7317ec7584", func := "satchel/satchellaw1.CodeFresh", spec := "codeFresh", recurses := true, plainKeys := false, apart := false, narrowed := true }
def CodeFreshUptoSaid : Prop := codeFreshUptoRow.holds Try.pinned (OpenSpec.upto codeFreshSpec)

/-- 'satchellaw7.DeltaMade', WHERE WHAT IT READS IS OF BULK AT MOST 1048576: true; the input reads as it did. -/
def deltaMadeUptoRow : OpenClaim := { program := "ytldhbcppnoldiaa", sum := "745aed9a08d061f9e6272614edd18c67c810810ae743e43bbc973b7317ec7584", func := "satchel/satchellaw7.DeltaMade", spec := "deltaMade", unfollowed := true, recurses := true, plainKeys := false, apart := false, narrowed := true }
def DeltaMadeUptoSaid : Prop := deltaMadeUptoRow.holds Try.pinned (OpenSpec.upto deltaMadeSpec)

/-- 'satchellaw7.DeltaFresh', WHERE WHAT IT READS IS OF BULK AT MOST 1048576: true; the input reads as it did. -/
def deltaFreshUptoRow : OpenClaim := { program := "ytldhbcppnoldiaa", sum := "745aed9a08d061f9e6272614edd18c67c810810ae743e43bbc973b7317ec7584", func := "satchel/satchellaw7.DeltaFresh", spec := "deltaFresh", unfollowed := true, recurses := true, plainKeys := false, apart := false, narrowed := true }
def DeltaFreshUptoSaid : Prop := deltaFreshUptoRow.holds Try.pinned (OpenSpec.upto deltaFreshSpec)

end Rows
end Go.Proofs.Ytldhbcppnoldiaa
