/-
  A book and a Late as a law keeps them: with blocks that are none of theirs.
-/
import Derived.Test.YtldhbcppnoldiaaBk9
namespace Go.Proofs.Ytldhbcppnoldiaa
open Go.RowKit

structure Fr (w wr : World) (bb lb T G : Nat) (A : List Nat) : Prop where
  ex : ∃ es a turn done SB gs SL, Bk wr w.heap.size bb es a turn done SB ∧ La wr w.heap.size lb gs SL ∧ (∀ x, x ∈ SB → x ∉ SL) ∧ turn + gs.length ≤ T ∧ gs.length ≤ G ∧ Kept [] w wr ∧ (∀ x, x ∈ A → x ∉ SB ∧ x ∉ SL ∧ x < wr.heap.size)
theorem Fr.kept {w wr : World} {bb lb T G : Nat} {A : List Nat} (h : Fr w wr bb lb T G A) : Kept [] w wr := by
  obtain ⟨es, a, turn, done, SB, gs, SL, hb, hl, hd, ht, hg, hk, hA⟩ := h.ex
  exact hk
theorem Fr.fresh {w wr w' : World} {bb lb T G : Nat} {A A' : List Nat} (h : Fr w wr bb lb T G A) (k : Kept [] wr w') (hA' : ∀ x, x ∈ A' → x ∈ A ∨ (wr.heap.size ≤ x ∧ x < w'.heap.size)) : Fr w w' bb lb T G A' := by
  obtain ⟨es, a, turn, done, SB, gs, SL, hb, hl, hd, ht, hg, hk, hA⟩ := h.ex
  refine ⟨es, a, turn, done, SB, gs, SL, hb.on0 k, hl.on (T := []) k (by simp), hd, ht, hg, hk.then k, fun x hx => ?_⟩
  rcases hA' x hx with h | h
  · exact ⟨(hA x h).1, (hA x h).2.1, Nat.lt_of_lt_of_le (hA x h).2.2 k.size⟩
  · refine ⟨fun e => ?_, fun e => ?_, h.2⟩
    · have := (hb.bk.lt x e).2; omega
    · have := (hl.lt x e).2; omega
theorem Fr.lt {w wr : World} {bb lb T G : Nat} {A : List Nat} (h : Fr w wr bb lb T G A) : ∀ x, x ∈ A → x < wr.heap.size := by
  obtain ⟨es, a, turn, done, SB, gs, SL, hb, hl, hd, ht, hg, hk, hA⟩ := h.ex
  exact fun x hx => (hA x hx).2.2
/-- Others' blocks are written to. -/
theorem Fr.step {w wr w' : World} {bb lb T G : Nat} {A A' T' : List Nat} (h : Fr w wr bb lb T G A) (k : Kept T' wr w') (hT : ∀ x, x ∈ T' → x ∈ A ∧ w.heap.size ≤ x) (hA' : ∀ x, x ∈ A' → x ∈ A ∨ (wr.heap.size ≤ x ∧ x < w'.heap.size)) : Fr w w' bb lb T G A' := by
  obtain ⟨es, a, turn, done, SB, gs, SL, hb, hl, hd, ht, hg, hk, hA⟩ := h.ex
  refine ⟨es, a, turn, done, SB, gs, SL, hb.on k (fun x hx e => (hA x (hT x e).1).1 hx), hl.on k (fun x hx e => (hA x (hT x e).1).2.1 hx), hd, ht, hg, hk.trans k (fun x hx => Or.inr (hT x hx).2), fun x hx => ?_⟩
  rcases hA' x hx with h | h
  · exact ⟨(hA x h).1, (hA x h).2.1, Nat.lt_of_lt_of_le (hA x h).2.2 k.size⟩
  · refine ⟨fun e => ?_, fun e => ?_, h.2⟩
    · have := (hb.bk.lt x e).2; omega
    · have := (hl.lt x e).2; omega
theorem Fr.mono {w wr : World} {bb lb T G T' G' : Nat} {A : List Nat} (h : Fr w wr bb lb T G A) (hT : T ≤ T') (hG : G ≤ G') : Fr w wr bb lb T' G' A := by
  obtain ⟨es, a, turn, done, SB, gs, SL, hb, hl, hd, ht, hg, hk, hA⟩ := h.ex
  exact ⟨es, a, turn, done, SB, gs, SL, hb, hl, hd, by omega, by omega, hk, hA⟩
structure FrTo (w wr w' : World) (bb lb T G : Nat) (A : List Nat) : Prop where
  fr : Fr w w' bb lb T G A
  kept : ∃ S, Kept S wr w' ∧ (∀ x, x ∈ S → w.heap.size ≤ x) ∧ (∀ x, x ∈ A → x ∉ S)

theorem add_fr {w wr : World} {bb lb T G : Nat} {A A2 : List Nat} (h : Fr w wr bb lb T G A) {v u : Value} {ys : List Int} (hv : OwnB wr w.heap.size v ys) (hvA : ∀ g, v.ownBlock = some g → g ∈ A ∧ g ∉ A2) (hu : BytesAt wr u ys) (huA : ys ≠ [] → ∀ g, u.ownBlock = some g → g ∈ A ∨ g < w.heap.size) (hA2 : ∀ x, x ∈ A2 → x ∈ A) (ho : Octs ys) (hy : ys.length ≤ 100000000000) (hG : G ≤ 1000) :
    Calls Try.prog 11 #[.pointer (some ⟨lb, 0, none⟩), v, u] wr fun e w' => e = .returned (.tuple #[]) ∧ FrTo w wr w' bb lb (T + 1) (G + 1) A2 := by
  obtain ⟨es, a, turn, done, SB, gs, SL, hb, hl, hd, ht, hg, hk, hA⟩ := h.ex
  refine (Add_any hl hv (fun g hg2 => (hA g (hvA g hg2).1).2.1) hu (fun hne g hg2 e => ?_) ho hy (by omega) hk.size).mono ?_
  · rcases huA hne g hg2 with h1 | h1
    · exact (hA g h1).2.1 e
    · have := (hl.lt g e).1; omega
  rintro e w1 ⟨rfl, x, S', hx, hl1, k1, f1⟩
  refine ⟨rfl, ⟨es, a, turn, done, SB, gs ++ [x], S', hb.on k1 hd, hl1, fun y hy1 hy2 => ?_, by simp; omega, by simp; omega, hk.trans k1 (fun y hy1 => Or.inr (hl.lt y hy1).1), fun y hy1 => ?_⟩, SL, k1, fun y hy1 => (hl.lt y hy1).1, fun y hy1 => (hA y (hA2 y hy1)).2.1⟩
  · rcases f1 y hy2 with h1 | h1 | h1
    · exact hd y hy1 h1
    · exact (hA y (hvA y h1).1).1 hy1
    · have := (hb.bk.lt y hy1).2; omega
  · have hyA := hA y (hA2 y hy1)
    refine ⟨hyA.1, fun e => ?_, Nat.lt_of_lt_of_le hyA.2.2 k1.size⟩
    rcases f1 y e with h1 | h1 | h1
    · exact hyA.2.1 h1
    · exact (hvA y h1).2 hy1
    · omega
theorem settle_fr {w wr : World} {bb lb T G : Nat} {A : List Nat} (h : Fr w wr bb lb T G A) (n : Nat) (hT : T ≤ 5000) :
    Calls Try.prog 17 #[.pointer (some ⟨lb, 0, none⟩), .pointer (some ⟨bb, 0, none⟩), .int .i64 n] wr fun e w' => e = .returned (.bool true) ∧ FrTo w wr w' bb lb T (n - 1) A := by
  obtain ⟨es, a, turn, done, SB, gs, SL, hb, hl, hd, ht, hg, hk, hA⟩ := h.ex
  refine (Settle_any hb hl hd n (by omega) hk.size).mono ?_
  rintro e w1 ⟨rfl, es1, a1, turn1, done1, SB1, gs1, SL1, hb1, hl1, hd1, ht1, hg1, hn1, k1, f1, f2⟩
  have hSS : ∀ x, x ∈ SB ++ SL → w.heap.size ≤ x := fun x hx => by
    rcases List.mem_append.1 hx with h1 | h1
    · exact (hb.bk.lt x h1).1
    · exact (hl.lt x h1).1
  have hAS : ∀ x, x ∈ A → x ∉ SB ++ SL := fun x hx e => by
    rcases List.mem_append.1 e with h1 | h1
    · exact (hA x hx).1 h1
    · exact (hA x hx).2.1 h1
  refine ⟨rfl, ⟨es1, a1, turn1, done1, SB1, gs1, SL1, hb1, hl1, hd1, by omega, ?_, hk.trans k1 (fun y hy => Or.inr (hSS y hy)), fun y hy => ⟨fun e => ?_, fun e => ?_, Nat.lt_of_lt_of_le (hA y hy).2.2 k1.size⟩⟩, SB ++ SL, k1, hSS, hAS⟩
  · rcases hn1 with h1 | h1
    · omega
    · rw [h1]; exact Nat.zero_le _
  · rcases f1 y e with h1 | h1
    · exact hAS y hy h1
    · have := (hA y hy).2.2; omega
  · rcases f2 y e with h1 | h1
    · exact hAS y hy h1
    · have := (hA y hy).2.2; omega
theorem look_fr {w wr : World} {bb lb T G : Nat} {A : List Nat} (h : Fr w wr bb lb T G A) (hT : T ≤ 5000) :
    Calls Try.prog 18 #[.pointer (some ⟨bb, 0, none⟩)] wr fun e w' => e = .returned (.bool true) ∧ FrTo w wr w' bb lb T G A := by
  obtain ⟨es, a, turn, done, SB, gs, SL, hb, hl, hd, ht, hg, hk, hA⟩ := h.ex
  refine (Look_any' hb (by omega) hk.size).mono ?_
  rintro e w1 ⟨rfl, es1, a1, done1, SB1, hb1, k1, f1⟩
  refine ⟨rfl, ⟨es1, a1, turn, done1, SB1, gs, SL, hb1, hl.on k1 (fun x hx e => hd x e hx), fun y hy1 hy2 => ?_, ht, hg, hk.trans k1 (fun y hy => Or.inr (hb.bk.lt y hy).1), fun y hy => ⟨fun e => ?_, (hA y hy).2.1, Nat.lt_of_lt_of_le (hA y hy).2.2 k1.size⟩⟩, SB, k1, fun y hy => (hb.bk.lt y hy).1, fun y hy => (hA y hy).1⟩
  · rcases f1 y hy1 with h1 | h1
    · exact hd y h1 hy2
    · have := (hl.lt y hy2).2; omega
  · rcases f1 y e with h1 | h1
    · exact (hA y hy).1 h1
    · have := (hA y hy).2.2; omega
/-- A new book and a new Late. -/
theorem Fr.newA (w w1 : World) (k : Kept [] w w1) (A : List Nat) (hA : ∀ x, x ∈ A → x < w1.heap.size) : Fr w ((w1.alloc (.cells (bookC (.slice none 0 0) (.slice none 0 0) 0 0 0 0) 49)).alloc (.cells #[.slice none 0 0, .slice none 0 0, .slice none 0 0, .slice none 0 0] 52)) w1.heap.size (w1.heap.size + 1) 0 0 A := by
  have hs := k.size
  have k1 : Kept [] w1 (w1.alloc (.cells (bookC (.slice none 0 0) (.slice none 0 0) 0 0 0 0) 49)) := (Kept.refl _ _).alloc _
  have k2 : Kept [] (w1.alloc (.cells (bookC (.slice none 0 0) (.slice none 0 0) 0 0 0 0) 49)) ((w1.alloc (.cells (bookC (.slice none 0 0) (.slice none 0 0) 0 0 0 0) 49)).alloc (.cells #[.slice none 0 0, .slice none 0 0, .slice none 0 0, .slice none 0 0] 52)) := (Kept.refl _ _).alloc _
  have b1 := k2.heap (heap_alloc_new w1 (.cells (bookC (.slice none 0 0) (.slice none 0 0) 0 0 0 0) 49)) (by simp)
  have b2 := heap_alloc_new (w1.alloc (.cells (bookC (.slice none 0 0) (.slice none 0 0) 0 0 0 0) 49)) (.cells #[.slice none 0 0, .slice none 0 0, .slice none 0 0, .slice none 0 0] 52)
  rw [World.size_alloc] at b2
  refine ⟨[], 0, 0, 0, footB w1.heap.size (.slice none 0 0) (.slice none 0 0) [], [], footL (w1.heap.size + 1) (.slice none 0 0) (.slice none 0 0) [],
    ⟨⟨_, _, fun _ => none, [], 0, ⟨b1, World.ownsRow_nil _ _ _ _, World.ownsRow_nil _ _ _ _, ⟨(fun g b hb => by simp at hb), (fun x hx => by simp at hx), (fun g b hb => by simp at hb)⟩, hs, by simp, (fun g hg => by simp), (fun g hg => by simp)⟩, (fun x hx => by simp at hx), by decide, by decide, rfl⟩, Nat.le_refl _, by simp, (fun i x hx => by simp at hx)⟩,
    ⟨_, _, ⟨b2, World.ownsRow_nil _ _ _ _, World.ownsRow_nil _ _ _ _, by omega, (fun g hg => by simp [Value.ownBlock] at hg), (fun x hx => by simp at hx), (fun x hx => by simp at hx), (fun x hx => by simp at hx), (fun x hx => by simp at hx), List.Pairwise.nil⟩, rfl⟩,
    fun x hx e => ?_, by simp, by simp, (k.then k1).then k2, fun x hx => ?_⟩
  · simp [footB, footL, Value.ownBlock] at hx e
    omega
  · have := hA x hx
    refine ⟨?_, ?_, by simp; omega⟩ <;> simp [footB, footL, Value.ownBlock] <;> omega
theorem Fr.new (w w1 : World) (k : Kept [] w w1) : Fr w ((w1.alloc (.cells (bookC (.slice none 0 0) (.slice none 0 0) 0 0 0 0) 49)).alloc (.cells #[.slice none 0 0, .slice none 0 0, .slice none 0 0, .slice none 0 0] 52)) w1.heap.size (w1.heap.size + 1) 0 0 [] := Fr.newA w w1 k [] (fun x hx => by simp at hx)
end Go.Proofs.Ytldhbcppnoldiaa
