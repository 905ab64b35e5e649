/-
  The crowd of satchellaw1.CodeMany goes on: a list is laid to, a Reader comes new, a Reader reads.
-/
import Derived.Test.YtnnbfdnkpohnfaaMany0
namespace Go.Proofs.Ytnnbfdnkpohnfaa
open Go.RowKit

section
variable {w wr : World} {sc : Array Value} {pv hv rv : Value} {L : List Rec} {R : List RRec}

theorem map_set_same {α β : Type} (f : α → β) (l : List α) (j : Nat) (x y : α) (hj : l[j]? = some x) (h : f y = f x) : (l.set j y).map f = l.map f := by
  rw [List.map_set, h]
  refine List.ext_getElem? fun i => ?_
  by_cases hi : i = j
  · subst hi
    rw [List.getElem?_set_self (by have := (List.getElem?_eq_some_iff.1 hj).1; simpa using this), List.getElem?_map, hj]
    rfl
  · rw [List.getElem?_set_ne (Ne.symm hi)]

theorem Crowd.lay (C : Crowd w wr sc pv hv rv L R) {j : Nat} {x : Rec} (hj : L[j]? = some x) {w7 : World} {v' : Value} {zs' : List Int} {S' : List Nat} (h : DuoTo wr w7 x.r w.heap.size x.v x.S v' zs' S') :
    Fam w w7 (fset (famOf w.heap.size sc pv hv rv L R) (.du j) (duoT w.heap.size ⟨x.r, v', zs', S'⟩)) := by
  have e : famOf w.heap.size sc pv hv rv L R (.du j) = duoT w.heap.size x := by simp [famOf, hj]
  exact C.put (.du j) (duoT w.heap.size ⟨x.r, v', zs', S'⟩) (by rw [e]; exact h.kept) h.duo (fun b hb => by rw [e]; exact ⟨h.new b hb, (h.duo.lt b hb).2⟩)

theorem Crowd.step (C : Crowd w wr sc pv hv rv L R) {j : Nat} {x : Rec} (hj : L[j]? = some x) {w7 : World} {v' : Value} {zs' : List Int} {S' : List Nat} (h : DuoTo wr w7 x.r w.heap.size x.v x.S v' zs' S') {gh ch : Nat} (hh : hv = .slice (some ⟨gh, 0, none⟩) L.length ch) :
    w7.cell? ⟨gh, j, none⟩ = some x.v ∧ w7.frozen? ⟨gh, j, none⟩ = false ∧ Crowd w (w7.setCell ⟨gh, j, none⟩ v') sc pv hv rv (L.set j ⟨x.r, v', zs', S'⟩) R := by
  have hlt : j < L.length := (List.getElem?_eq_some_iff.1 hj).1
  have F1 := C.lay hj h
  have hrow : w7.ownsRow w.heap.size 22 1 hv (L.map Rec.v).length (L.map Rec.v) := F1.holds .hv
  rw [List.length_map, hh] at hrow
  have hset := (World.ownsRow.stored hrow j v').1
  have ks : Kept [gh] w7 (w7.setCell ⟨gh, j, none⟩ v') := (Kept.refl _ _).setCell (Or.inl (by simp)) _
  have hgl : gh < w7.heap.size := (World.ownsRow.lt hrow gh (by simp [Value.ownBlock])).2
  have eF : (fset (famOf w.heap.size sc pv hv rv L R) (.du j) (duoT w.heap.size ⟨x.r, v', zs', S'⟩) .hv).F = [gh] := by
    show hv.ownBlock.toList = [gh]
    rw [hh]; simp [Value.ownBlock]
  have F2 := F1.put .hv (rowT 22 w.heap.size hv ((L.map Rec.v).set j v')) (by rw [eF]; exact ks) (by
    show World.ownsRow _ _ _ _ _ _ _
    rw [List.length_set, List.length_map, hh]
    exact hset) (fun b hb => by
    have hb' : b ∈ hv.ownBlock.toList := hb
    rw [hh] at hb'
    have e : b = gh := by simpa [Value.ownBlock] using hb'
    subst e
    exact ⟨Or.inl (by rw [eF]; simp), Nat.lt_of_lt_of_le hgl ks.size⟩)
  refine ⟨?_, World.ownsRow.frozenAt hrow j, F2.congr fun i => ?_⟩
  · rw [World.ownsRow.cellAt hrow j (by omega), List.getElem?_map, hj]; rfl
  · cases i with
    | sc => rfl
    | pv =>
      show rowT 27 w.heap.size pv (L.map fun x => ptrOf x.r) = rowT 27 w.heap.size pv ((L.set j ⟨x.r, v', zs', S'⟩).map fun x => ptrOf x.r)
      rw [map_set_same (fun x : Rec => ptrOf x.r) L j x ⟨x.r, v', zs', S'⟩ hj rfl]
    | hv =>
      show rowT 22 w.heap.size hv ((L.map Rec.v).set j v') = rowT 22 w.heap.size hv ((L.set j ⟨x.r, v', zs', S'⟩).map Rec.v)
      rw [List.map_set]
    | rv => rfl
    | du i =>
      by_cases hi : i = j
      · subst hi
        simp [fset, famOf, List.getElem?_set_self hlt]
      · have e : (L.set j ⟨x.r, v', zs', S'⟩)[i]? = L[i]? := List.getElem?_set_ne (Ne.symm hi)
        simp [fset, famOf, hi, e]
    | rd i => rfl

/-- A Reader comes new. -/
theorem Crowd.reads (C : Crowd w wr sc pv hv rv L R) {w2 w3 : World} {ρ g : Nat} {xs : List Int} {rv' : Value} (hR : Rdr w2 ρ g xs 0 0) (k2 : Kept [] wr w2) (hρ : wr.heap.size ≤ ρ) (hg : wr.heap.size ≤ g)
    (p3 : w3.ownsRow w.heap.size 50 1 rv' (R.map (fun x => ptrOf x.r) ++ [ptrOf ρ]).length (R.map (fun x => ptrOf x.r) ++ [ptrOf ρ])) (k3 : Kept rv.ownBlock.toList w2 w3) (a3 : ∀ b, rv'.ownBlock = some b → rv.ownBlock = some b ∨ w2.heap.size ≤ b) :
    Crowd w w3 sc pv hv rv' L (R ++ [⟨ρ, g, xs, 0⟩]) := by
  have F1 := C.put (.rd R.length) (rdT ⟨ρ, g, xs, 0⟩) (k2.more (by simp)) hR (fun b hb => by
    have e : b = ρ ∨ b = g := by simpa [rdT] using hb
    rcases e with rfl | rfl
    · exact ⟨Or.inr hρ, lt_of_block hR.blk⟩
    · exact ⟨Or.inr hg, lt_of_block hR.row⟩)
  have F2 := F1.put .rv (rowT 50 w.heap.size rv' (R.map (fun x => ptrOf x.r) ++ [ptrOf ρ])) k3 p3 (fun b hb => by
    have e : rv'.ownBlock = some b := by simpa [rowT] using hb
    refine ⟨(a3 b e).imp (fun h => ?_) id, (World.ownsRow.lt p3 b e).2⟩
    show b ∈ rv.ownBlock.toList
    simp [h])
  refine F2.congr fun i => ?_
  cases i with
  | sc => rfl
  | pv => rfl
  | hv => rfl
  | rv => simp [fset, famOf]
  | du j => rfl
  | rd j =>
    by_cases hj : j = R.length
    · subst hj; simp [fset, famOf]
    · by_cases hlt : j < R.length
      · simp [fset, famOf, hj, List.getElem?_append_left hlt]
      · have h1 : R[j]? = none := List.getElem?_eq_none (by omega)
        have h2 : (R ++ [⟨ρ, g, xs, 0⟩])[j]? = none := List.getElem?_eq_none (by simp; omega)
        simp [fset, famOf, hj, h1, h2]

/-- A Reader reads. -/
theorem Crowd.took (C : Crowd w wr sc pv hv rv L R) {j : Nat} {x : RRec} (hj : R[j]? = some x) {w7 : World} {pl : Nat} (hR : Rdr w7 x.r x.g x.xs pl 0) (k : Kept [x.r] wr w7) : Crowd w w7 sc pv hv rv L (R.set j ⟨x.r, x.g, x.xs, pl⟩) := by
  have hlt : j < R.length := (List.getElem?_eq_some_iff.1 hj).1
  have e : famOf w.heap.size sc pv hv rv L R (.rd j) = rdT x := by simp [famOf, hj]
  have k' : Kept (rdT x).F wr w7 := k.more fun b hb => by
    have e3 : b = x.r := by simpa using hb
    rw [e3]
    simp [rdT]
  have F1 := C.put (.rd j) (rdT ⟨x.r, x.g, x.xs, pl⟩) (by rw [e]; exact k') hR (fun b hb => by
    rw [e]
    have hb' : b ∈ [x.r, x.g] := hb
    refine ⟨Or.inl hb', ?_⟩
    have e2 : b = x.r ∨ b = x.g := by simpa using hb'
    rcases e2 with rfl | rfl
    · exact lt_of_block hR.blk
    · exact lt_of_block hR.row)
  refine F1.congr fun i => ?_
  cases i with
  | sc => rfl
  | pv => rfl
  | hv => rfl
  | rv =>
    show rowT 50 w.heap.size rv (R.map fun x => ptrOf x.r) = rowT 50 w.heap.size rv ((R.set j ⟨x.r, x.g, x.xs, pl⟩).map fun x => ptrOf x.r)
    rw [map_set_same (fun x : RRec => ptrOf x.r) R j x ⟨x.r, x.g, x.xs, pl⟩ hj rfl]
  | du i => rfl
  | rd i =>
    by_cases hi : i = j
    · subst hi
      simp [fset, famOf, List.getElem?_set_self hlt]
    · have e2 : (R.set j ⟨x.r, x.g, x.xs, pl⟩)[i]? = R[i]? := List.getElem?_set_ne (Ne.symm hi)
      simp [fset, famOf, hi, e2]
end
end Go.Proofs.Ytnnbfdnkpohnfaa
