/-
  A LIST OF LISTS OF BYTES OPENED: what a reading of one says of memory.
-/
import Derived.Test.YtpdmlnimdbepaaaDoorLsL
import Derived.Test.YtpdmlnimdbepaaaDoorOxRows
namespace Go.Proofs.YtpdmlnimdbepaaaDoor
open Go.ChangeShapes Go.WideShapes Go.ChangeAt Go.RowKit Go.Deep

theorem Tryd.bytes_bl : Tryd.prog.bytesOf 27 = 24 := by kernel_rfl
theorem Tryd.cells_bl : Tryd.prog.cellsOf 27 = 1 := by kernel_rfl
/-- A list in a list. -/
structure SlE where
  ao : Option Addr
  cap : Nat
  b : List Int
instance : Inhabited SlE := ⟨⟨none, 0, []⟩⟩
section
variable {H : Type} {enc : TypeId × Value → H} {w : World} {base : Nat} {spare : Nat → Bool} {held : Bool} {fuel : Nat} {cs : List Value} {x : DataW H × List MemPlace}
theorem open_lists (h : DataW.trod enc Tryd.prog w base spare held fuel 22 cs = some x) : ∃ v L, cs = [v] ∧ ((DataW.weights Tryd.prog 22 x.1).all (· ≤ 140737488351232) = true → LsAt w v L) := by
  obtain ⟨ao, cap, ls, rfl, h1, h0, hc, hB⟩ := open_rowl (fun y : SlE => [.slice y.ao y.b.length y.cap]) (fun y => BytesAt w (.slice y.ao y.b.length y.cap) y.b ∧ Octs y.b ∧ y.b.length ≤ 140737488351232) 140737488351232 Tryd.underlying22 Tryd.cells_bl (by decide) h (fun _ _ _ h => by
    obtain ⟨ao, cap', ys, rfl, h1, h2, h3, _⟩ := open_bytes h
    exact ⟨⟨ao, cap', ys⟩, rfl, fun hb => ⟨h1, h2, h3 _ hb⟩⟩)
  rw [Tryd.bytes_bl] at hB
  refine ⟨_, ls.map (·.b), rfl, fun hb => ⟨ao, cap, by rw [List.length_map], by rw [List.length_map]; have := (hB hb).1; omega, fun xs hx => ?_, fun hne => ?_⟩⟩
  · obtain ⟨y, hy, rfl⟩ := List.mem_map.1 hx
    exact ((hB hb).2 y hy).2
  · obtain ⟨b, off, rfl, hh⟩ := hc (fun e => hne (by rw [e]; rfl))
    refine ⟨b, off, rfl, fun i xs hi => ?_⟩
    rw [List.getElem?_map] at hi
    obtain ⟨y, hy, rfl⟩ := Option.map_eq_some_iff.1 hi
    refine ⟨.slice y.ao y.b.length y.cap, ?_, ((hB hb).2 y (List.mem_of_getElem? hy)).1⟩
    have := hh i y hy 0 _ rfl
    simpa using this
end
end Go.Proofs.YtpdmlnimdbepaaaDoor
