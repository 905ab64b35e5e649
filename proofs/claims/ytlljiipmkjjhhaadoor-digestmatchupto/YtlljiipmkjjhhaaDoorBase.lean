/-
  PLAIN GROUND of the proofs over package code: what a call leaves of memory as it was ('Kept'), and a slice of bytes that reads as a list of numbers ('BytesAt'). No Go text is named here.
-/
import Derived.WalkKit
import Derived.WalkSpells
import Derived.WalkLawsBesides
import Derived.Laws.CopyOwn
import Derived.Deep.MidRow
import Derived.Deep.OwnRows
namespace Go.Proofs.YtlljiipmkjjhhaaDoor
open Go.RowKit

/-- w' is w with new blocks, and with writes to the blocks of S alone. -/
structure Kept (S : List Nat) (w w' : World) : Prop where
  os : w'.os = w.os
  tape : w'.tape = w.tape
  output : w'.output = w.output
  size : w.heap.size ≤ w'.heap.size
  block : ∀ k, k < w.heap.size → k ∉ S → w'.heap[k]? = w.heap[k]?

theorem Kept.refl (S : List Nat) (w : World) : Kept S w w := ⟨rfl, rfl, rfl, Nat.le_refl _, fun _ _ _ => rfl⟩
theorem Kept.trans {S S' : List Nat} {a b c : World} (h : Kept S a b) (k : Kept S' b c) (hs : ∀ x, x ∈ S' → x ∈ S ∨ a.heap.size ≤ x) : Kept S a c :=
  ⟨k.os.trans h.os, k.tape.trans h.tape, k.output.trans h.output, Nat.le_trans h.size k.size, fun i hi hn =>
    (k.block i (Nat.lt_of_lt_of_le hi h.size) (fun hm => (hs i hm).elim hn (fun h1 => by omega))).trans (h.block i hi hn)⟩
theorem Kept.then {S : List Nat} {a b c : World} (h : Kept S a b) (k : Kept S b c) : Kept S a c := h.trans k fun _ hx => Or.inl hx
theorem Kept.more {S S' : List Nat} {a b : World} (h : Kept S a b) (hs : ∀ x, x ∈ S → x ∈ S') : Kept S' a b :=
  ⟨h.os, h.tape, h.output, h.size, fun i hi hn => h.block i hi fun hm => hn (hs i hm)⟩
theorem Kept.drew {S : List Nat} {a w : World} (h : Kept S a w) : Kept S a w.drew := ⟨h.os, h.tape, h.output, h.size, h.block⟩
theorem Kept.drewN {S : List Nat} {a w : World} (h : Kept S a w) (n : Nat) : Kept S a (w.drewN n) := ⟨h.os, h.tape, h.output, h.size, h.block⟩
theorem Kept.alloc {S : List Nat} {a w : World} (h : Kept S a w) (o : Obj) : Kept S a (w.alloc o) :=
  h.then ⟨rfl, rfl, rfl, by simp, fun _ hk _ => Below.heap_alloc _ _ _ hk⟩
theorem Kept.setCell {S : List Nat} {a w : World} (h : Kept S a w) {p : Addr} (hp : p.block ∈ S ∨ a.heap.size ≤ p.block) (u : Value) : Kept S a (w.setCell p u) :=
  ⟨h.os, h.tape, h.output, by simpa [World.setCell] using h.size, fun k hk hn => (Below.heap_setCell w p u k (fun e => hp.elim (fun h1 => hn (by rw [e]; exact h1)) (fun h1 => by omega))).trans (h.block k hk hn)⟩
theorem Kept.grown {S : List Nat} {a w w' : World} {row : Option Nat} (h : Kept S a w) (hg : w.grownBy w' row) (hr : ∀ k, row = some k → k ∈ S ∨ a.heap.size ≤ k) : Kept S a w' :=
  h.trans (S' := row.toList) ⟨hg.os, hg.tape, hg.output, hg.size, fun k hk hn => hg.block k hk (fun e => hn (by simp [← e]))⟩ (fun x hx => hr x (by simpa using hx))
theorem Kept.below {S : List Nat} {a w : World} (h : Kept S a w) {B : Nat} (hB : B ≤ a.heap.size) (hs : ∀ x, x ∈ S → B ≤ x) : Below B a w :=
  ⟨h.os, h.tape, h.output, h.size, fun k hk => h.block k (by omega) (fun hm => by have := hs k hm; omega)⟩
theorem kept_of_below {a w : World} (h : Below a.heap.size a w) : Kept [] a w := ⟨h.os, h.tape, h.output, h.size, fun k hk _ => h.block k hk⟩
theorem Kept.heap {S : List Nat} {a w : World} (h : Kept S a w) {k : Nat} {o : Obj} (hk : a.heap[k]? = some o) (hn : k ∉ S) : w.heap[k]? = some o :=
  (h.block k (lt_of_block hk) hn).trans hk
theorem Kept.cell {S : List Nat} {a w : World} (h : Kept S a w) {p : Addr} {v : Value} (hp : a.cell? p = some v) (hn : p.block ∉ S) : w.cell? p = some v :=
  (World.cell?_of_block (w := a) (h.block p.block (World.block_lt_of_cell? a p hp) hn)).trans hp

/-- In which block a slice lies. -/
def blkOf : Value → Option Nat
  | .slice (some a) _ _ => some a.block
  | _ => none

/-- The slice v reads as the bytes ys. -/
def BytesAt (w : World) (v : Value) (ys : List Int) : Prop :=
  ∃ ao cap, v = .slice ao ys.length cap ∧ ys.length ≤ cap ∧ (ao = none → cap = 0) ∧
    (ys ≠ [] → ∃ b off, ao = some ⟨b, off, none⟩ ∧ ∀ i u, ys[i]? = some u → w.cell? ⟨b, off + i, none⟩ = some (.int .u8 u))

theorem BytesAt.nil (w : World) : BytesAt w (.slice none 0 0) [] := ⟨none, 0, rfl, Nat.le_refl _, fun _ => rfl, fun h => absurd rfl h⟩
theorem BytesAt.kept {S : List Nat} {w w' : World} {v : Value} {ys : List Int} (h : BytesAt w v ys) (hk : Kept S w w') (hn : ∀ b, blkOf v = some b → b ∉ S) : BytesAt w' v ys := by
  obtain ⟨ao, cap, rfl, hc, hnil, hcell⟩ := h
  refine ⟨ao, cap, rfl, hc, hnil, fun hne => ?_⟩
  obtain ⟨b, off, rfl, hh⟩ := hcell hne
  exact ⟨b, off, rfl, fun i u hu => hk.cell (hh i u hu) (hn b rfl)⟩
theorem BytesAt.kept' {S : List Nat} {w w' : World} {v : Value} {ys : List Int} (h : BytesAt w v ys) (hk : Kept S w w') (hn : ys ≠ [] → ∀ b, blkOf v = some b → b ∉ S) : BytesAt w' v ys := by
  by_cases h0 : ys = []
  · subst h0
    obtain ⟨ao, cap, rfl, hc, hnil, _⟩ := h
    exact ⟨ao, cap, rfl, hc, hnil, fun hne => absurd rfl hne⟩
  · exact h.kept hk (hn h0)
/-- A slice over the head of a row of bytes. -/
theorem BytesAt.row {w : World} {g : Nat} {t : TypeId} {ys zs : List Int} (h : w.heap[g]? = some (.cells ((ys ++ zs).map (Value.int .u8)).toArray t (0, 0))) (cap : Nat) (hc : ys.length ≤ cap) :
    BytesAt w (.slice (some ⟨g, 0, none⟩) ys.length cap) ys := by
  refine ⟨_, cap, rfl, hc, fun e => (by simp at e), fun _ => ⟨g, 0, rfl, fun i u hu => ?_⟩⟩
  rw [cell_of_row w g (0 + i) _ t _ h]
  have hi : i < ys.length := (List.getElem?_eq_some_iff.1 hu).1
  rw [Nat.zero_add]
  simp only [List.getElem?_toArray, List.getElem?_map, List.getElem?_append_left hi, hu, Option.map_some]


/-- What the walks ask of a slice of bytes. -/
theorem BytesAt.parts {w : World} {v : Value} {ys : List Int} (h : BytesAt w v ys) :
    (ys = [] ∧ ∃ ao cap, v = .slice ao 0 cap) ∨ (∃ b off cap, v = .slice (some ⟨b, off, none⟩) ys.length cap ∧ ys.length ≤ cap ∧ 0 < ys.length ∧ ∀ i, i < ys.length → w.cell? ⟨b, off + i, none⟩ = some (.int .u8 (ys[i]?.getD 0))) := by
  obtain ⟨ao, cap, rfl, hc, hnil, hcell⟩ := h
  by_cases h0 : ys = []
  · subst h0; exact Or.inl ⟨rfl, ao, cap, rfl⟩
  · obtain ⟨b, off, rfl, hh⟩ := hcell h0
    refine Or.inr ⟨b, off, cap, rfl, hc, List.length_pos_iff.2 h0, fun i hi => hh i _ ?_⟩
    rw [List.getElem?_eq_getElem hi]; rfl

end Go.Proofs.YtlljiipmkjjhhaaDoor
