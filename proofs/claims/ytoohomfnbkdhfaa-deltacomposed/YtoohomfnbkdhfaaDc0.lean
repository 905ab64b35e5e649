/-
  What DeltaComposed keeps on its way: the target so far, the body's Writer.
-/
import Derived.Test.YtoohomfnbkdhfaaMk10
import Derived.Test.YtoohomfnbkdhfaaDlLv
import Derived.Test.YtoohomfnbkdhfaaDs0
namespace Go.Proofs.Ytoohomfnbkdhfaa
open Go.RowKit

/-- A step as it is handed in. -/
structure DSt where
  an : Option Addr
  cn : Nat
  new : List Int
  a : Int
  n : Int
structure DSt.Good (p : DSt) (w : World) : Prop where
  b : BytesAt w (.slice p.an p.new.length p.cn) p.new
  o : Octs p.new
  s : p.new.length ≤ 140737488351232
  a0 : -9223372036854775808 ≤ p.a
  a1 : p.a ≤ 9223372036854775807
  n0 : -9223372036854775808 ≤ p.n
  n1 : p.n ≤ 9223372036854775807
def StepsAt (w : World) (v : Value) (ps : List DSt) : Prop :=
  ∃ ao cap, v = .slice ao ps.length cap ∧ ps.length ≤ 140737488351232 ∧
    (ps ≠ [] → ∃ b off, ao = some ⟨b, off, none⟩ ∧ ∀ (i : Nat) (p : DSt), ps[i]? = some p →
      w.cell? ⟨b, off + i * 3, none⟩ = some (.slice p.an p.new.length p.cn) ∧ w.cell? ⟨b, off + i * 3 + 1, none⟩ = some (.int .i64 p.a) ∧ w.cell? ⟨b, off + i * 3 + 2, none⟩ = some (.int .i64 p.n))

/-- The target so far and the body, apart from one another, in memory that is not below B. -/
structure CpSt (W : World) (B wb : Nat) (v : Value) (bs : List Int) (cs : List Cd) (S : List Nat) : Prop where
  own : OwnB W B v (txts bs cs)
  wr : WAt W wb B (encs cs) S
  ap : ∀ x, v.ownBlock = some x → x ∉ S
  le : B ≤ W.heap.size
theorem CpSt.on {W W' : World} {B wb : Nat} {v : Value} {bs : List Int} {cs : List Cd} {S : List Nat} (P : CpSt W B wb v bs cs S) (k : Kept [] W W') : CpSt W' B wb v bs cs S :=
  ⟨P.own.kept k (by simp), P.wr.kept k (fun _ _ => by simp), P.ap, Nat.le_trans P.le k.size⟩
/-- A command is written to the body, and then its bytes are laid behind the target. -/
theorem CpSt.step {W W1 W2 : World} {B wb : Nat} {v v' : Value} {bs : List Int} {cs : List Cd} {S : List Nat} {c : Cd} (P : CpSt W B wb v bs cs S) (h1 : Wrote W W1 wb B (encs cs ++ c.enc) S) (h2 : Appended W1 W2 B v v' (txts bs cs ++ c.txt bs)) :
    (∃ S', CpSt W2 B wb v' bs (cs ++ [c]) S') ∧ (∀ w : World, w.heap.size ≤ B → Kept [] w W → Kept [] w W2) := by
  obtain ⟨S1, hw1, k1, hs1⟩ := h1
  have hl1 := hw1.lt
  have hlS := P.wr.lt
  have hov := fun x hx => World.ownsRow.lt P.own x hx
  have hap1 : ∀ x, v.ownBlock = some x → x ∉ S1 := fun x hx hS => by
    rcases hs1 x hS with h | h
    · exact P.ap x hx h
    · have := (hov x hx).2; omega
  have k2 : Kept v.ownBlock.toList W1 W2 := h2.keep W1 _ (Kept.refl _ _) (fun x hx => Or.inl (by simp [hx]))
  refine ⟨⟨S1, ?_, ?_, ?_, Nat.le_trans (Nat.le_trans P.le k1.size) k2.size⟩, fun w hw k => ?_⟩
  · rw [txts_snoc]; exact h2.own
  · rw [encs_snoc]
    exact hw1.kept k2 (fun x hx hv => hap1 x (by simpa using hv) hx)
  · intro x hx hS
    rcases h2.at' with e | e
    · rw [e] at hx; exact hap1 x hx hS
    · rw [e] at hx
      injection hx with hx
      have := (hl1 x hS).2
      omega
  · have ka : Kept [] w W1 := k.trans k1 (fun x hx => Or.inr (by have := (hlS x hx).1; omega))
    exact ka.trans k2 (fun x hx => Or.inr (by have := (hov x (by simpa using hx)).1; omega))
end Go.Proofs.Ytoohomfnbkdhfaa
