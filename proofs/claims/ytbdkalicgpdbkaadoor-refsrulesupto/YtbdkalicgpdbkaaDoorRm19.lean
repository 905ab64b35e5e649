/-
  RULES AND NAMES OPENED: what a reading of a Mapped says of memory, and how much it weighs; the greatest length of an index out of the world's shape.
-/
import Derived.Test.YtbdkalicgpdbkaaDoorOpT
import Derived.Test.YtbdkalicgpdbkaaDoorRm15
import Derived.Test.YtbdkalicgpdbkaaDoorRm5
import Derived.Test.YtbdkalicgpdbkaaDoorRm3
import Derived.Shelf.Vars
namespace Go.Proofs.YtbdkalicgpdbkaaDoor
open Go.ChangeShapes Go.WideShapes Go.ChangeAt Go.RowKit Go.Deep

instance : Inhabited RuleL := ⟨⟨[], [], false, false⟩⟩
section
variable {H : Type} {enc : TypeId × Value → H} {w : World} {base : Nat} {spare : Nat → Bool} {held : Bool} {fuel : Nat} {cs : List Value} {x : DataW H × List MemPlace}
end
/-- A global integer, out of the world's shape. -/
theorem int_of_shaped {P : Program} {w : World} {g : Nat} (t : TypeId) (u0 : TypeId)
    (h : w.ShapedOpen P) (hg : g < P.globals.size) (h0 : (((begin P (fun _ _ => 0) default).world.heap[g]?).bind Obj.row?).map (fun p => (p.1.size, p.2)) = some (1, t))
    (hb : P.buildable t = true) (hc : P.cellTypes P.depth t = some [u0]) (hu : P.underlying u0 = some (.int .i64)) : ∃ m : Int, w.cell? ⟨g, 0, none⟩ = some (.int .i64 m) := by
  obtain ⟨⟨zero, t'⟩, h0', he⟩ := Option.map_eq_some_iff.1 h0
  obtain ⟨hz, rfl⟩ := Prod.mk.injEq .. ▸ he
  obtain ⟨cs, hh, hs, hr⟩ := h.1 g zero _ hg h0'
  obtain ⟨ts', hts, _, hall⟩ := hr hb
  rw [hc] at hts
  cases hts
  have hz2 : zero.size = 1 := hz
  have h1 : 0 < cs.size := by omega
  obtain ⟨u, hu', hok⟩ := hall 0 cs[0] (by simp [h1])
  have hcell : w.cell? ⟨g, 0, none⟩ = some cs[0] := by simp [World.cell?, hh, h1]
  rw [hcell]
  unfold Cell.ok at hok
  obtain rfl : u0 = u := by simpa using hu'
  rw [hu] at hok
  cases hv : cs[0] <;> rw [hv] at hok <;> simp at hok
  case int k' z =>
    obtain ⟨rfl, _⟩ := hok
    exact ⟨z, rfl⟩
theorem maxW_of_shaped {w : World} (h : w.ShapedOpen Tryd.prog) : MaxW w :=
  int_of_shaped (g := 2) 3 3 h (of_decide_eq_true (by kernel_rfl)) (by kernel_rfl) (by kernel_rfl) (by kernel_rfl) Tryd.underlying3
end Go.Proofs.YtbdkalicgpdbkaaDoor
