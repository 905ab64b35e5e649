/-
  Entries of a tree: as cells, in memory, in lists.
  WALKS: refs.carry, isLeftOut.
-/
import Derived.Test.YtbdkalicgpdbkaaDoorId0
import Derived.Test.YtbdkalicgpdbkaaDoorChecked
import Derived.Test.YtbdkalicgpdbkaaDoorBase
import Derived.Test.YtbdkalicgpdbkaaDoorConv
import Derived.Outline
import Derived.Test.YtbdkalicgpdbkaaDoorPlain2
import Derived.Deep.QuietTactic
import Derived.BigQuiet
import Derived.Test.YtbdkalicgpdbkaaDoorAppH
import Derived.Deep.RegionLaw
import Derived.Laws.IdiomStrings
import Derived.Test.YtbdkalicgpdbkaaDoorObj1
import Derived.Test.YtbdkalicgpdbkaaDoorTkP
import Derived.Deep.WholeRow
import Derived.Test.YtbdkalicgpdbkaaDoorShDec
namespace Go.Proofs.YtbdkalicgpdbkaaDoor
open Go.RowKit

def GoodText (xs : List Int) : Prop := Octs xs ∧ xs.length ≤ 140737488351232
structure EntL where
  mode : Int
  name : List Int
  id : List Int
def EntL.row (e : EntL) : List Value := .int .i64 e.mode :: .string (strOfNums e.name) :: e.id.map (Value.int .u8)
structure EntL.Good (e : EntL) : Prop where
  lo : -9223372036854775808 ≤ e.mode
  hi : e.mode ≤ 9223372036854775807
  name : GoodText e.name
  id : GoodID e.id
/-- A list of entries lies so. -/
def EntsAt (w : World) (v : Value) (es : List EntL) : Prop := RowsAt w v 34 (es.map EntL.row)
theorem EntsAt.keep {w w' : World} {v : Value} {es : List EntL} {T : List Nat} (h : EntsAt w v es) (q : Kept T w w') (hn : es ≠ [] → ∀ b, blkOf v = some b → b ∉ T) : EntsAt w' v es :=
  RowsAt.keep h q fun hne => hn fun e => hne (by rw [e]; rfl)
theorem EntsAt.form {w : World} {v : Value} {es : List EntL} (h : EntsAt w v es) : ∃ ao cap, v = .slice ao es.length cap ∧ es.length ≤ cap ∧ es.length ≤ 140737488351232 ∧ (es ≠ [] → ∃ b off, ao = some ⟨b, off, none⟩ ∧ ∀ (i : Nat) (e : EntL), es[i]? = some e → w.rangeAt b (off + i * 34) e.row) := by
  obtain ⟨ao, cap, hv, h1, h0, h2, hc⟩ := h
  rw [List.length_map] at hv h1 h2
  refine ⟨ao, cap, hv, h1, h2, fun hne => ?_⟩
  obtain ⟨b, off, hb, hh⟩ := hc (by simpa using hne)
  exact ⟨b, off, hb, fun i e he => hh i e.row (by rw [List.getElem?_map, he]; rfl)⟩

end Go.Proofs.YtbdkalicgpdbkaaDoor

namespace Go.Proofs.YtbdkalicgpdbkaaDoor
open Go.RowKit

def RuleL.row (r : RuleL) : List Value := [.string (strOfNums r.src), .string (strOfNums r.dst), .bool r.force, .bool r.neg]
structure RuleL.Good (r : RuleL) : Prop where
  s : Octs r.src
  d : Octs r.dst
  sl : r.src.length ≤ 10000000000000000
  dl : r.dst.length ≤ 10000000000000000
/-- A list of rules lies so. -/
def RulesAt (w : World) (v : Value) (rs : List RuleL) : Prop := RowsAt w v 4 (rs.map RuleL.row)
theorem RulesAt.kept {w w' : World} {v : Value} {rs : List RuleL} (h : RulesAt w v rs) (k : Kept [] w w') : RulesAt w' v rs := RowsAt.keep h k (fun _ _ _ => by simp)
theorem RulesAt.form {w : World} {v : Value} {rs : List RuleL} (h : RulesAt w v rs) : ∃ ao cap, v = .slice ao rs.length cap ∧ rs.length ≤ cap ∧ rs.length ≤ 140737488351232 := by
  obtain ⟨ao, cap, rfl, h1, _, h2, _⟩ := h
  rw [List.length_map] at *
  exact ⟨ao, cap, rfl, h1, h2⟩
theorem RulesAt.at {w : World} {ao : Option Addr} {n cap : Nat} {rs : List RuleL} (h : RulesAt w (.slice ao n cap) rs) {k : Nat} {r : RuleL} (hr : rs[k]? = some r) : ∃ b off, ao = some ⟨b, off, none⟩ ∧ w.rangeAt b (off + k * 4) r.row := by
  obtain ⟨ao', cap', he, _, _, _, hc⟩ := h
  injection he with h1 h2 h3
  obtain ⟨b, off, hb, hh⟩ := hc (fun e => by
    rw [List.map_eq_nil_iff] at e
    subst e
    simp at hr)
  exact ⟨b, off, h1.trans hb, hh k _ (by rw [List.getElem?_map, hr]; rfl)⟩
theorem Tryd.ruleSize : (Tryd.prog.info? 37).map (·.size) = some 4 := by kernel_rfl

end Go.Proofs.YtbdkalicgpdbkaaDoor
