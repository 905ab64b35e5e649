/-
  CONTRACTS: lists of texts cloned, sorted, each once.
  WALK: refs.Clash.
  What is built of parts; links; WALK: (object.tree).children.
  A Writer beside a variable; tags; WALKS: object.signFault, (object.tag).fault, (object.tag).write.
  WALKS: satchellaw14's few, rules, texts, sameRules, intact, untold.
  WALKS: satchellaw14's rules, texts.
-/
import Derived.Test.YtbdkalicgpdbkaaDoorRm5
import Derived.Lib.SlicesCompact
import Derived.Test.YtbdkalicgpdbkaaDoorProg
import Derived.Shelf.Sort.Plain
import Derived.Shelf.Slices.Cells
import Derived.Shelf.Slices.Clone
import Derived.Shelf.Slices.In.SortNone2
import Derived.Test.YtbdkalicgpdbkaaDoorShStr
import Derived.Test.YtbdkalicgpdbkaaDoorRows0
import Derived.Test.YtbdkalicgpdbkaaDoorRm9
import Derived.Sort.Walk0
import Derived.Great.BuildSlice
import Derived.Test.YtbdkalicgpdbkaaDoorAppH
namespace Go.Proofs.YtbdkalicgpdbkaaDoor
open Go.RowKit Go.Sort

/-- A list of texts lies so. -/
def StrsAt (w : World) (v : Value) (L : List (List Int)) : Prop := ∃ ao cap, v = .slice ao L.length cap ∧ L.length ≤ cap ∧ (ao = none → cap = 0) ∧ (L ≠ [] → ∃ b off, ao = some ⟨b, off, none⟩ ∧ ∀ (i : Nat) p, L[i]? = some p → w.cell? ⟨b, off + i, none⟩ = some (.string (strOfNums p)))
theorem StrsAt.kept {w w' : World} {v : Value} {L : List (List Int)} (h : StrsAt w v L) (k : Kept [] w w') : StrsAt w' v L := by
  obtain ⟨ao, cap, h1, h2, h3, h4⟩ := h
  exact ⟨ao, cap, h1, h2, h3, fun hne => by
    obtain ⟨b, off, h5, h6⟩ := h4 hne
    exact ⟨b, off, h5, fun i p hi => k.cell (h6 i p hi) (by simp)⟩⟩
theorem ownsK_on' {w w' : World} {B : Nat} {e : TypeId} {k : Nat} {v : Value} {n : Nat} {xs : List Value} (h : w.ownsRow B e k v n xs) (q : Kept [] w w') : w'.ownsRow B e k v n xs := by
  obtain ⟨hl, h | ⟨g, cap, cur, hv, hB, hg, h1, h2, h3, h4⟩⟩ := h
  · exact ⟨hl, Or.inl h⟩
  · exact ⟨hl, Or.inr ⟨g, cap, cur, hv, hB, q.heap hg (by simp), h1, h2, h3, h4⟩⟩
end Go.Proofs.YtbdkalicgpdbkaaDoor

namespace Go.Proofs.YtbdkalicgpdbkaaDoor
open Go.RowKit Go.Sort

/-- A list of texts that may be written to, or an empty one. -/
def UAt (w : World) (B : Nat) (v : Value) (U : List (List UInt8)) : Prop :=
  (U = [] ∧ ∃ p cap, v = .slice p 0 cap) ∨ (U ≠ [] ∧ ∃ g cap, v = .slice (some ⟨g, 0, none⟩) U.length cap ∧ B ≤ g ∧ g < w.heap.size ∧ U.length ≤ cap ∧ Holds encStr w g 0 U.toArray)
theorem UAt.form {w : World} {B : Nat} {v : Value} {U : List (List UInt8)} (h : UAt w B v U) : ∃ a cap, v = .slice a U.length cap ∧ (U ≠ [] → ∃ g, a = some ⟨g, 0, none⟩ ∧ B ≤ g ∧ g < w.heap.size ∧ Holds encStr w g 0 U.toArray) := by
  rcases h with ⟨rfl, p, cap, rfl⟩ | ⟨hne, g, cap, rfl, h1, h2, h3, h4⟩
  · exact ⟨p, cap, rfl, fun h => absurd rfl h⟩
  · exact ⟨_, cap, rfl, fun _ => ⟨g, rfl, h1, h2, h4⟩⟩
end Go.Proofs.YtbdkalicgpdbkaaDoor

namespace Go.Proofs.YtbdkalicgpdbkaaDoor
open Go.RowKit


structure LinkL where
  id : List Int
  kind : Int
def LinkL.row (l : LinkL) : List Value := l.id.map (Value.int .u8) ++ [.int .i64 l.kind]
end Go.Proofs.YtbdkalicgpdbkaaDoor

namespace Go.Proofs.YtbdkalicgpdbkaaDoor
open Go.RowKit

section
variable {w0 W : World} {wb B : Nat} {zs : List Int} {S : List Nat} {b : Nat} {cs : Array Value} {ty : TypeId}
end
structure TagL where
  target : List Int
  kind : Int
  name : List Int
  who : List Int
  time : Int
  text : List Int
def TagL.row (t : TagL) : List Value := t.target.map (Value.int .u8) ++ [.int .i64 t.kind, .string (strOfNums t.name), .string (strOfNums t.who), .int .u64 t.time, .string (strOfNums t.text)]
structure TagL.Good (t : TagL) : Prop where
  target : GoodID t.target
  lo : -9223372036854775808 ≤ t.kind
  hi : t.kind ≤ 9223372036854775807
  name : GoodText t.name
  who : GoodText t.who
  t0 : 0 ≤ t.time
  t1 : t.time ≤ 18446744073709551615
  text : GoodText t.text
end Go.Proofs.YtbdkalicgpdbkaaDoor

namespace Go.Proofs.YtbdkalicgpdbkaaDoor
open Go.RowKit

theorem RulesAt.take {w : World} {ao : Option Addr} {n cap : Nat} {rs : List RuleL} {m : Nat} (h : RulesAt w (.slice ao n cap) rs) (hm : m ≤ rs.length) : RulesAt w (.slice ao m cap) (rs.take m) := by
  have h2 := RowsAt.take h (m := m) (by rw [List.length_map]; exact hm)
  rwa [← List.map_take] at h2
theorem StrsAt.take {w : World} {ao : Option Addr} {n cap : Nat} {L : List (List Int)} {m : Nat} (h : StrsAt w (.slice ao n cap) L) (hm : m ≤ L.length) : StrsAt w (.slice ao m cap) (L.take m) := by
  obtain ⟨ao', cap', he, h1, h0, hc⟩ := h
  injection he with e1 e2 e3
  subst e1 e3
  refine ⟨ao, cap, by rw [List.length_take, Nat.min_eq_left hm], by rw [List.length_take]; omega, h0, fun hne => ?_⟩
  obtain ⟨b, off, hb, hh⟩ := hc (fun e => hne (by rw [e]; simp))
  refine ⟨b, off, hb, fun i p hi => hh i p ?_⟩
  by_cases him : i < m
  · rwa [List.getElem?_take_of_lt him] at hi
  · rw [List.getElem?_eq_none (by rw [List.length_take]; omega)] at hi
    cases hi

end Go.Proofs.YtbdkalicgpdbkaaDoor

namespace Go.Proofs.YtbdkalicgpdbkaaDoor
open Go.RowKit

theorem Tryd.info_rule : (Tryd.prog.info? 37).map (fun i => (i.zero, i.size, i.bytes)) = some (some (.agg [Value.string ⟨#[]⟩, .string ⟨#[]⟩, .bool false, .bool false].toArray), 4, 40) := by kernel_rfl
theorem rows_len (rs : List RuleL) : ∀ r, r ∈ rs.map RuleL.row → r.length = 4 := fun r hr => by
  obtain ⟨x, _, rfl⟩ := List.mem_map.1 hr
  rfl
theorem rows_one (rs : List RuleL) : ∀ r, r ∈ rs.map RuleL.row → ∀ u, u ∈ r → u.oneCell' = true := fun r hr u hu => by
  obtain ⟨x, _, rfl⟩ := List.mem_map.1 hr
  unfold RuleL.row at hu
  rcases List.mem_cons.1 hu with rfl | hu
  · rfl
  rcases List.mem_cons.1 hu with rfl | hu
  · rfl
  rcases List.mem_cons.1 hu with rfl | hu
  · rfl
  rcases List.mem_cons.1 hu with rfl | hu
  · rfl
  cases hu
end Go.Proofs.YtbdkalicgpdbkaaDoor
