/-
  PLAIN: the state of satchellaw2.DigestExact between its calls.
-/
import Derived.Test.YtdjfcackiclepaaDoorFl
import Derived.Test.YtdjfcackiclepaaDoorRHex
import Derived.Test.YtdjfcackiclepaaDoorKey2
import Derived.Test.YtdjfcackiclepaaDoorQuietId
import Derived.Deep.RegionHeld
namespace Go.Proofs.YtdjfcackiclepaaDoor
open Go.RowKit

/-- The Text lies in its box, the two lists are lent, ids lie in blocks of their own. -/
structure ExSt (w0 : World) (b : Nat) (bx : Array Value) (B gd cd gk ck : Nat) (D K : List Int) (ids : List (Nat × Array Value)) (w : World) : Prop where
  keep : Kept [] w0 w
  box : w.heap[b]? = some (.cells bx 35 (0, 0))
  d : Lent w B gd cd D
  k : Lent w B gk ck K
  apart : gd ≠ gk
  low : w0.heap.size ≤ b ∧ b < B
  ids : ∀ p ∈ ids, w.heap[p.1]? = some (.cells p.2 29 (0, 0)) ∧ p.1 ≠ gd ∧ p.1 ≠ gk

section
variable {w0 : World} {b : Nat} {bx : Array Value} {B gd cd gk ck : Nat} {D K : List Int} {ids : List (Nat × Array Value)} {w w' : World}

theorem ExSt.kept (h : ExSt w0 b bx B gd cd gk ck D K ids w) (k : Kept [] w w') : ExSt w0 b bx B gd cd gk ck D K ids w' :=
  ⟨h.keep.then k, k.heap h.box (by simp), h.d.kept k (by simp), h.k.kept k (by simp), h.apart, h.low, fun p hp => ⟨k.heap (h.ids p hp).1 (by simp), (h.ids p hp).2⟩⟩
theorem ExSt.add (h : ExSt w0 b bx B gd cd gk ck D K ids w) (cs : Array Value) : ExSt w0 b bx B gd cd gk ck D K (ids ++ [(w.heap.size, cs)]) (w.alloc (.cells cs 29)) := by
  have h1 := h.kept ((Kept.refl [] w).alloc (.cells cs 29))
  refine ⟨h1.keep, h1.box, h1.d, h1.k, h1.apart, h1.low, fun p hp => ?_⟩
  rcases List.mem_append.1 hp with hp | hp
  · exact h1.ids p hp
  · rw [List.mem_singleton.1 hp]
    have := h.d.room
    have := h.k.room
    exact ⟨heap_alloc_new w _, by show w.heap.size ≠ gd; omega, by show w.heap.size ≠ gk; omega⟩
theorem ExSt.turnD (h : ExSt w0 b bx B gd cd gk ck D K ids w) {D' : List Int} (k : Kept [gd] w w') (hd : Lent w' B gd cd D') : ExSt w0 b bx B gd cd gk ck D' K ids w' := by
  have hb := h.d.room
  have hk : b ≠ gd := by have := h.low; omega
  refine ⟨h.keep.trans k (fun x hx => Or.inr (by simp at hx; have := h.low; omega)), k.heap h.box (by simp; exact hk), hd, h.k.kept k (by simp; exact fun e => h.apart e.symm), h.apart, h.low, fun p hp => ⟨k.heap (h.ids p hp).1 (by simp; exact (h.ids p hp).2.1), (h.ids p hp).2⟩⟩
theorem ExSt.turnK (h : ExSt w0 b bx B gd cd gk ck D K ids w) {K' : List Int} (k : Kept [gk] w w') (hd : Lent w' B gk ck K') : ExSt w0 b bx B gd cd gk ck D K' ids w' := by
  have hb := h.k.room
  have hk : b ≠ gk := by have := h.low; omega
  refine ⟨h.keep.trans k (fun x hx => Or.inr (by simp at hx; have := h.low; omega)), k.heap h.box (by simp; exact hk), h.d.kept k (by simp; exact h.apart), hd, h.apart, h.low, fun p hp => ⟨k.heap (h.ids p hp).1 (by simp; exact (h.ids p hp).2.2), (h.ids p hp).2⟩⟩

variable (hV : ∀ W, Kept [] w0 W → Vars W)
include hV
theorem ExSt.sum (h : ExSt w0 b bx B gd cd gk ck D K ids w) (ho : Octs D) (hl : D.length ≤ 1000000000) : Calls Tryd.prog 9 #[.slice (some ⟨gd, 0, none⟩) D.length cd] w fun e w' => e = .returned (.agg (idC (digL D))) ∧ ExSt w0 b bx B gd cd gk ck D K ids w' :=
  (Sum_any w _ D (hV w h.keep) h.d.bytes ho (by omega)).mono fun _ _ hh => ⟨hh.1, h.kept hh.2⟩
theorem ExSt.keyed (h : ExSt w0 b bx B gd cd gk ck D K ids w) (ho : Octs D) (hl : D.length ≤ 1000000000) (hok : Octs K) (hlk : K.length ≤ 1000000000) : Calls Tryd.prog 11 #[.slice (some ⟨gk, 0, none⟩) K.length ck, .slice (some ⟨gd, 0, none⟩) D.length cd] w fun e w' => e = .returned (.agg (idC (keyL K D))) ∧ ExSt w0 b bx B gd cd gk ck D K ids w' :=
  (Keyed_any w (hV w h.keep) _ _ K D h.k.bytes hok (by omega) h.d.bytes ho (by omega)).mono fun _ _ hh => ⟨hh.1, h.kept hh.2⟩
omit hV
theorem ExSt.flipD (h : ExSt w0 b bx B gd cd gk ck D K ids w) (hl : D.length ≤ 1000000000) : Calls Tryd.prog 14 #[.slice (some ⟨gd, 0, none⟩) D.length cd] w fun e w' => e = .returned (.tuple #[]) ∧ ExSt w0 b bx B gd cd gk ck (flL D) K ids w' :=
  (flipLent_any w B gd cd D h.d (by omega)).mono fun _ _ hh => ⟨hh.1, h.turnD hh.2.2 hh.2.1⟩
theorem ExSt.flipK (h : ExSt w0 b bx B gd cd gk ck D K ids w) (hl : K.length ≤ 1000000000) : Calls Tryd.prog 14 #[.slice (some ⟨gk, 0, none⟩) K.length ck] w fun e w' => e = .returned (.tuple #[]) ∧ ExSt w0 b bx B gd cd gk ck D (flL K) ids w' :=
  (flipLent_any w B gk ck K h.k (by omega)).mono fun _ _ hh => ⟨hh.1, h.turnK hh.2.2 hh.2.1⟩
end

theorem idRange {w : World} {b : Nat} {l : List Int} (h : w.heap[b]? = some (.cells (idC l) 29 (0, 0))) : w.rangeAt b 0 (l.map (Value.int .u8)) := fun j v hv => by
  rw [Nat.zero_add, cell_of_row _ _ _ _ _ _ h, ← Array.getElem?_toList]
  exact hv

/-- A load of an id, two ids compared, in a region that draws its order under a condition. -/
theorem yields_row {ops : Array Oper} {S : World → Prop} {o : Oper} {a : Act} (hw : Region.wanted o (yielded ops a.tmps) = true) (x : Operand) (ho : o.op = .load 29 x) (b : Nat) (hx : a.eval x = .pointer (some ⟨b, 0, none⟩)) (cs : Array Value)
    (hS : ∀ W, S W → W.heap[b]? = some (.cells cs 29 (0, 0))) (hi : (Tryd.prog.info? 29).map (·.size) = some cs.size) : YieldsIf Tryd.prog ops S o (.agg cs) a := by
  have h := yieldsIf_load_mid (P := Tryd.prog) (ops := ops) (S := S) hw 29 x ho b 0 hx cs.toList _ (fun W hW j v hv => by
    rw [Nat.zero_add, cell_of_row _ _ _ _ _ _ (hS W hW), ← Array.getElem?_toList]
    exact hv) Tryd.underlying29 rfl (by rw [Array.length_toList]; exact hi)
  rwa [Array.toArray_toList] at h
theorem yields_neq {ops : Array Oper} {S : World → Prop} {o : Oper} {a : Act} (hw : Region.wanted o (yielded ops a.tmps) = true) (x y : Operand) (rt : TypeId) (ho : o.op = .binOp .neq 29 x y rt) (A B : Array Value) (hx : a.eval x = .agg A) (hy : a.eval y = .agg B) (r : Bool)
    (hr : ∀ W, (Op.equalIn 10000 29 (.agg A) (.agg B)).run Tryd.prog W = .ok r W) : YieldsIf Tryd.prog ops S o (.bool !r) a := .inl ⟨hw, fun W _ => by
  unfold execOp
  simp only [ho, hx, hy]
  rw [Sem.run_bind, run_id_neq x y A B W r (hr W)]
  rfl⟩
theorem yields_eql {ops : Array Oper} {S : World → Prop} {o : Oper} {a : Act} (hw : Region.wanted o (yielded ops a.tmps) = true) (x y : Operand) (rt : TypeId) (ho : o.op = .binOp .eql 29 x y rt) (A B : Array Value) (hx : a.eval x = .agg A) (hy : a.eval y = .agg B) (r : Bool)
    (hr : ∀ W, (Op.equalIn 10000 29 (.agg A) (.agg B)).run Tryd.prog W = .ok r W) : YieldsIf Tryd.prog ops S o (.bool r) a := .inl ⟨hw, fun W _ => by
  unfold execOp
  simp only [ho, hx, hy]
  rw [Sem.run_bind, run_id_eql x y A B W r (hr W)]
  rfl⟩

/-- What yields its value wherever the condition holds is taken first: the place it goes to and the marks behind it written out. -/
theorem takeH {P : Program} {ops : Array Oper} {Q : Exit → Act → World → Prop} {md : Region.Mode} {S : World → Prop} (i : Nat) {oi : Oper} {v : Value} (d : Option Tmp) {fuel : Nat} {listed : Array Bool} (listed' : Array Bool) {a : Act} {w : World} (hi : ops[i]? = some oi) (hd : oi.dst = d) (hl : listed.setIfInBounds i true = listed')
    (hs : Region.noSelect ops = true) (hf : Region.free md ops listed i = true) (hr : (Region.ready md ops listed).contains i = true)
    (hQ : ∀ c a w, Q (.panic c) (a.put d v) w → Q (.panic c) a w) (hy : YieldsIf P ops S oi v a) (hS : S w) (h : wpAnyH P md ops Q S fuel listed' (a.put d v) w) : wpAnyH P md ops Q S (fuel + 1) listed a w := by
  subst hd hl
  exact wpAnyH_take hi hs hf hr hQ hy hS h
end Go.Proofs.YtdjfcackiclepaaDoor
