/-
  PAIRS OF LISTS as they are handed in.
-/
import Derived.Test.YtloajfhggkgngaaPlace0
namespace Go.Proofs.Ytloajfhggkgngaa
open Go.RowKit

/-- A pair as it is handed in. -/
structure DPr where
  ab : Option Addr
  cb : Nat
  bs : List Int
  ad : Option Addr
  cd : Nat
  ds : List Int
structure DPr.Good (p : DPr) (w : World) : Prop where
  b : BytesAt w (.slice p.ab p.bs.length p.cb) p.bs
  ob : Octs p.bs
  sb : p.bs.length ≤ 140737488351232
  d : BytesAt w (.slice p.ad p.ds.length p.cd) p.ds
  od : Octs p.ds
  sd : p.ds.length ≤ 140737488351232
theorem DPr.Good.kept {p : DPr} {w w' : World} (h : p.Good w) (k : Kept [] w w') : p.Good w' := ⟨h.b.kept k (fun _ _ => by simp), h.ob, h.sb, h.d.kept k (fun _ _ => by simp), h.od, h.sd⟩
/-- The slice of the pairs lies so. -/
def PairsAt (w : World) (v : Value) (ps : List DPr) : Prop :=
  ∃ ao cap, v = .slice ao ps.length cap ∧ ps.length ≤ 140737488351232 ∧
    (ps ≠ [] → ∃ b off, ao = some ⟨b, off, none⟩ ∧ ∀ (i : Nat) (p : DPr), ps[i]? = some p →
      w.cell? ⟨b, off + i * 2, none⟩ = some (.slice p.ab p.bs.length p.cb) ∧ w.cell? ⟨b, off + i * 2 + 1, none⟩ = some (.slice p.ad p.ds.length p.cd))
theorem Lent.mono {w : World} {B B' g cap : Nat} {ys : List Int} (h : Lent w B g cap ys) (hb : B' ≤ B) : Lent w B' g cap ys := OwnB.mono h hb
end Go.Proofs.Ytloajfhggkgngaa
