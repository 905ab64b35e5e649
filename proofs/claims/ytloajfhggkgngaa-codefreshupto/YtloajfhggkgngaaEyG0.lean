/-
  The document's own Reader (satchelref1.Eye) over any slice of bytes: what it is; its call Left.
-/
import Derived.Test.YtloajfhggkgngaaEyP
import Derived.Test.YtloajfhggkgngaaRCopy
import Derived.Test.YtloajfhggkgngaaEqAn
import Derived.Deep.RegionWith
namespace Go.Proofs.Ytloajfhggkgngaa
open Go.RowKit

/-- An Eye at b over a slice that reads as the bytes xs. -/
structure EyeG (w : World) (b : Nat) (ao : Option Addr) (cap : Nat) (xs : List Int) (pl f : Nat) : Prop where
  blk : w.heap[b]? = some (.cells #[.slice ao xs.length cap, .int .i64 pl, .int .i64 (errL f)] 34 (0, 0))
  row : BytesAt w (.slice ao xs.length cap) xs
  ne : xs ≠ [] → ∀ k, blkOf (.slice ao xs.length cap) = some k → k ≠ b
  le : pl ≤ xs.length
  small : xs.length ≤ 140737488355328
  oct : Octs xs
  bad : f ≤ 4

theorem EyeG.kept {w w' : World} {b : Nat} {ao : Option Addr} {cap : Nat} {xs : List Int} {pl f : Nat} {S : List Nat} (R : EyeG w b ao cap xs pl f) (k : Kept S w w') (h1 : b ∉ S) (h2 : xs ≠ [] → ∀ k, blkOf (.slice ao xs.length cap) = some k → k ∉ S) : EyeG w' b ao cap xs pl f :=
  ⟨k.heap R.blk h1, R.row.kept' k h2, R.ne, R.le, R.small, R.oct, R.bad⟩
theorem EyeG.facts {w : World} {b : Nat} {ao : Option Addr} {cap : Nat} {xs : List Int} {pl f : Nat} (R : EyeG w b ao cap xs pl f) :
    w.cell? ⟨b, 0, none⟩ = some (.slice ao xs.length cap) ∧ w.cell? ⟨b, 1, none⟩ = some (.int .i64 pl) ∧ w.cell? ⟨b, 2, none⟩ = some (.int .i64 (errL f)) ∧
      (∀ o, w.frozen? ⟨b, o, none⟩ = false) ∧ b < w.heap.size :=
  ⟨cell_of_row _ _ _ _ _ _ R.blk, cell_of_row _ _ _ _ _ _ R.blk, cell_of_row _ _ _ _ _ _ R.blk, fun _ => frozen_of_row _ _ _ _ _ R.blk, lt_of_block R.blk⟩
theorem EyeG.setBad {w : World} {b : Nat} {ao : Option Addr} {cap : Nat} {xs : List Int} {pl f : Nat} (R : EyeG w b ao cap xs pl f) (f' : Nat) (h : f' ≤ 4) : EyeG (w.setCell ⟨b, 2, none⟩ (.int .i64 (errL f'))) b ao cap xs pl f' :=
  ⟨heap_setCell_same _ _ _ _ _ _ R.blk, R.row.kept' (S := [b]) ((Kept.refl _ _).setCell (Or.inl (by simp)) _) (fun h k hk => by simpa using R.ne h k hk), R.ne, R.le, R.small, R.oct, h⟩
theorem EyeG.setPlace {w : World} {b : Nat} {ao : Option Addr} {cap : Nat} {xs : List Int} {pl f : Nat} (R : EyeG w b ao cap xs pl f) (pl' : Nat) (h : pl' ≤ xs.length) : EyeG (w.setCell ⟨b, 1, none⟩ (.int .i64 pl')) b ao cap xs pl' f :=
  ⟨heap_setCell_same _ _ _ _ _ _ R.blk, R.row.kept' (S := [b]) ((Kept.refl _ _).setCell (Or.inl (by simp)) _) (fun h k hk => by simpa using R.ne h k hk), R.ne, h, R.small, R.oct, R.bad⟩
theorem EyeG.kept0 {w w' : World} {b : Nat} {ao : Option Addr} {cap : Nat} {xs : List Int} {pl f : Nat} (R : EyeG w b ao cap xs pl f) (k : Kept [] w w') : EyeG w' b ao cap xs pl f := R.kept k (by simp) (fun _ _ _ => by simp)
theorem EyeG.drewN {w : World} {b : Nat} {ao : Option Addr} {cap : Nat} {xs : List Int} {pl f : Nat} (R : EyeG w b ao cap xs pl f) (n : Nat) : EyeG (w.drewN n) b ao cap xs pl f := R.kept0 ((Kept.refl _ _).drewN n)
/-- Where there are bytes they lie somewhere. -/
theorem EyeG.some {w : World} {b : Nat} {ao : Option Addr} {cap : Nat} {xs : List Int} {pl f : Nat} (R : EyeG w b ao cap xs pl f) (h : 0 < xs.length) : xs.length ≤ cap ∧ ∃ g off, ao = some ⟨g, off, none⟩ ∧ ∀ i, i < xs.length → w.cell? ⟨g, off + i, none⟩ = some (.int .u8 (xs[i]?.getD 0)) := by
  obtain ⟨ao', cap', he, hc, _, hh⟩ := R.row
  injection he with e1 e2 e3
  subst e1 e3
  obtain ⟨g, off, hb, hcell⟩ := hh (by rintro rfl; simp at h)
  exact ⟨hc, g, off, hb, fun i hi => hcell i _ (by rw [List.getElem?_eq_getElem hi]; rfl)⟩

theorem ELeft_any {w : World} {b cap : Nat} {ao : Option Addr} {xs : List Int} {pl f : Nat} (R : EyeG w b ao cap xs pl f) : Calls Try.prog 44 #[.pointer (some ⟨b, 0, none⟩)] w fun e w' => e = .returned (.int .i64 ((xs.length : Int) - pl)) ∧ ∃ n, w' = w.drewN n := by
  obtain ⟨d0, d1, d2, d3, d4⟩ := R.facts
  have hle := R.le
  have hsm := R.small
  clear R
  go_enter Try.func44, Try.ntmps44
  go_wp2
  go_quiet (fail)
  go_wp2
  go_ret
  exact ⟨rfl, _, rfl⟩

end Go.Proofs.Ytloajfhggkgngaa
