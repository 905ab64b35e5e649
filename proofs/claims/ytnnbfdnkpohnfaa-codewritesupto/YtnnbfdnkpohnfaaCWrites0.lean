/-
  satchellaw1.writes for every step; two Writers with their lists, side by side, each in memory of its own.
-/
import Derived.Test.YtnnbfdnkpohnfaaWrites
import Derived.Test.YtnnbfdnkpohnfaaWrites2
import Derived.Test.YtnnbfdnkpohnfaaWrites3
namespace Go.Proofs.Ytnnbfdnkpohnfaa
open Go.RowKit

theorem BytesAt.blk_lt {w : World} {v : Value} {ys : List Int} (h : BytesAt w v ys) (hn : ys ≠ []) : ∀ b, blkOf v = some b → b < w.heap.size := by
  obtain ⟨ao, cap, rfl, _, _, hcell⟩ := h
  intro b hb
  obtain ⟨b', off, rfl, hh⟩ := hcell hn
  have e : b' = b := by simpa [blkOf] using hb
  subst e
  have hl : 0 < ys.length := List.length_pos_iff.2 hn
  exact World.block_lt_of_cell? w _ (hh 0 ys[0] (List.getElem?_eq_getElem hl))

abbrev COp.cells (o : COp) : Array Value := #[.int .i64 o.kind, .int .i64 o.which, .int .i64 o.m, .int .u64 o.n, .slice o.ao o.b.length o.cap]

theorem writes_any {w : World} {wb B : Nat} {v : Value} {zs : List Int} {S : List Nat} (D : Duo w wb B v zs S) (hBw : B ≤ w.heap.size) (o : COp) (on0 : 0 ≤ o.n) (on1 : o.n ≤ 18446744073709551615) (hb : BytesAt w (.slice o.ao o.b.length o.cap) o.b) (hob : Octs o.b)
    (hdb : o.b ≠ [] → ∀ b, blkOf (.slice o.ao o.b.length o.cap) = some b → b ∉ foot v S) (hm : zs.length + o.b.length + 20 ≤ 140737488351232) :
    Calls Try.prog 10 #[.pointer (some ⟨wb, 0, none⟩), v, .agg #[.int .i64 o.kind, .int .i64 o.which, .int .i64 o.m, .int .u64 o.n, .slice o.ao o.b.length o.cap]] w fun e w' => WritesTo w w' wb B v zs S o.b.length e := by
  by_cases h1 : o.kind = 1
  · rw [h1]; exact writes_u8 D hBw _ _ _ _ _ _ hb hdb hm
  by_cases h2 : o.kind = 2
  · rw [h2]; exact writes_u32 D hBw _ _ _ _ _ _ hb hdb hm
  by_cases h3 : o.kind = 3
  · rw [h3]; exact writes_u64 D hBw _ _ _ on0 on1 _ _ _ hb hdb hm
  by_cases h4 : o.kind = 4
  · rw [h4]; exact writes_var D hBw _ _ _ on0 on1 _ _ _ hb hdb hm
  by_cases h5 : o.kind = 5
  · rw [h5]; exact writes_bytes D hBw _ _ _ _ _ _ hb hob hdb hm
  by_cases h6 : o.kind = 6
  · rw [h6]; exact writes_raw D hBw _ _ _ _ _ _ hb hob hdb hm
  by_cases h7 : o.kind = 7
  · rw [h7]; exact writes_len D hBw _ _ _ _ _ _ hb hdb hm
  by_cases h8 : o.kind = 8
  · rw [h8]; exact writes_out D hBw _ _ _ _ _ _ hb hdb hm
  exact writes_other D hBw _ _ _ _ _ _ _ h1 h2 h3 h4 h5 h6 h7 h8 hb hdb hm

/-- The script's own box, the row of the Writers, the row of the lists; both Writers with their lists. -/
structure WBoth (w wr : World) (sc : Array Value) (p r0 r1 : Nat) (v0 v1 : Value) (zs0 zs1 : List Int) (S0 S1 : List Nat) : Prop where
  kept : Kept [] w wr
  sb : wr.heap[w.heap.size]? = some (.cells sc 26 (0, 0))
  pb : wr.heap[p]? = some (.cells #[.pointer (some ⟨r0, 0, none⟩), .pointer (some ⟨r1, 0, none⟩)] 29 (0, 0))
  hb : wr.heap[p + 1]? = some (.cells #[v0, v1] 23 (0, 0))
  D0 : Duo wr r0 (w.heap.size + 1) v0 zs0 S0
  D1 : Duo wr r1 (w.heap.size + 1) v1 zs1 S1
  dis : ∀ x, x ∈ foot v0 S0 → x ∉ foot v1 S1
  p0 : p ∉ foot v0 S0
  p1 : p ∉ foot v1 S1
  q0 : p + 1 ∉ foot v0 S0
  q1 : p + 1 ∉ foot v1 S1
  pw : w.heap.size < p

theorem WBoth.big {w wr : World} {sc : Array Value} {p r0 r1 : Nat} {v0 v1 : Value} {zs0 zs1 : List Int} {S0 S1 : List Nat} (B : WBoth w wr sc p r0 r1 v0 v1 zs0 zs1 S0 S1) : p + 1 < wr.heap.size := lt_of_block B.hb
theorem WBoth.box {w wr w' : World} {sc : Array Value} {p r0 r1 : Nat} {v0 v1 : Value} {zs0 zs1 : List Int} {S0 S1 : List Nat} (B : WBoth w wr sc p r0 r1 v0 v1 zs0 zs1 S0 S1) (k : Kept [] wr w') : WBoth w w' sc p r0 r1 v0 v1 zs0 zs1 S0 S1 :=
  ⟨B.kept.then k, k.heap B.sb (by simp), k.heap B.pb (by simp), k.heap B.hb (by simp), B.D0.box k, B.D1.box k, B.dis, B.p0, B.p1, B.q0, B.q1, B.pw⟩
theorem WBoth.script {w wr : World} {sc : Array Value} {p r0 r1 : Nat} {v0 v1 : Value} {zs0 zs1 : List Int} {S0 S1 : List Nat} (B : WBoth w wr sc p r0 r1 v0 v1 zs0 zs1 S0 S1) : ∀ o, wr.cell? ⟨w.heap.size, o, none⟩ = sc[o]? := fun _ => cell_of_row _ _ _ _ _ _ B.sb
theorem WBoth.cells {w wr : World} {sc : Array Value} {p r0 r1 : Nat} {v0 v1 : Value} {zs0 zs1 : List Int} {S0 S1 : List Nat} (B : WBoth w wr sc p r0 r1 v0 v1 zs0 zs1 S0 S1) :
    wr.cell? ⟨p, 0, none⟩ = some (.pointer (some ⟨r0, 0, none⟩)) ∧ wr.cell? ⟨p, 1, none⟩ = some (.pointer (some ⟨r1, 0, none⟩)) ∧ wr.cell? ⟨p + 1, 0, none⟩ = some v0 ∧ wr.cell? ⟨p + 1, 1, none⟩ = some v1 :=
  ⟨cell_of_row _ _ _ _ _ _ B.pb, cell_of_row _ _ _ _ _ _ B.pb, cell_of_row _ _ _ _ _ _ B.hb, cell_of_row _ _ _ _ _ _ B.hb⟩
theorem WBoth.open' {w wr : World} {sc : Array Value} {p r0 r1 : Nat} {v0 v1 : Value} {zs0 zs1 : List Int} {S0 S1 : List Nat} (B : WBoth w wr sc p r0 r1 v0 v1 zs0 zs1 S0 S1) : ∀ o, wr.frozen? ⟨p + 1, o, none⟩ = false := fun _ => frozen_of_row _ _ _ _ _ B.hb

theorem row2_set0 {w : World} {k : Nat} {t : TypeId} {a b : Value} (h : w.heap[k]? = some (.cells #[a, b] t (0, 0))) (u : Value) : (w.setCell ⟨k, 0, none⟩ u).heap[k]? = some (.cells #[u, b] t (0, 0)) :=
  (heap_setCell_same _ _ _ _ _ _ h).trans rfl
theorem row2_set1 {w : World} {k : Nat} {t : TypeId} {a b : Value} (h : w.heap[k]? = some (.cells #[a, b] t (0, 0))) (u : Value) : (w.setCell ⟨k, 1, none⟩ u).heap[k]? = some (.cells #[a, u] t (0, 0)) :=
  (heap_setCell_same _ _ _ _ _ _ h).trans rfl

/-- The first Writer has been laid to, and its list is put back. -/
theorem WBoth.step0 {w wv w7 : World} {sc : Array Value} {p r0 r1 : Nat} {v0 v1 v' : Value} {zs0 zs1 zs' : List Int} {S0 S1 S' : List Nat} (B : WBoth w wv sc p r0 r1 v0 v1 zs0 zs1 S0 S1) (h : DuoTo wv w7 r0 (w.heap.size + 1) v0 S0 v' zs' S') :
    (w7.heap[p + 1]? = some (.cells #[v0, v1] 23 (0, 0))) ∧ WBoth w (w7.setCell ⟨p + 1, 0, none⟩ v') sc p r0 r1 v' v1 zs' zs1 S' S1 := by
  have hbig := B.big
  have hpw := B.pw
  have hq : w7.heap[p + 1]? = some (.cells #[v0, v1] 23 (0, 0)) := h.kept.heap B.hb B.q0
  have ks : Kept [p + 1] w7 (w7.setCell ⟨p + 1, 0, none⟩ v') := (Kept.refl _ _).setCell (Or.inl (by simp)) _
  have fresh : ∀ x, x < wv.heap.size → x ∉ foot v0 S0 → x ∉ foot v' S' := fun x hx hn hm => (h.new x hm).elim hn (fun h2 => by omega)
  have f0 : ∀ x, x ∈ foot v0 S0 → w.heap.size + 1 ≤ x := fun x hx => (B.D0.lt x hx).1
  refine ⟨hq, (B.kept.trans h.kept fun x hx => Or.inr (by have := f0 x hx; omega)).trans ks fun x hx => Or.inr (by simp at hx; omega), ?_, ?_, row2_set0 hq v', h.duo.kept ks ?_, (B.D1.kept h.kept fun x hx hm => B.dis x hm hx).kept ks ?_, ?_, ?_, B.p1, ?_, B.q1, hpw⟩
  · exact ks.heap (h.kept.heap B.sb fun hm => by have := f0 _ hm; omega) (by simp; omega)
  · exact ks.heap (h.kept.heap B.pb B.p0) (by simp)
  · intro x hx hm
    have e : x = p + 1 := by simpa using hm
    subst e
    exact fresh _ (by omega) B.q0 hx
  · intro x hx hm
    have e : x = p + 1 := by simpa using hm
    subst e
    exact B.q1 hx
  · intro x hx hm
    rcases h.new x hx with h2 | h2
    · exact B.dis x h2 hm
    · exact absurd (B.D1.lt x hm).2 (by omega)
  · exact fresh p (by omega) B.p0
  · exact fresh (p + 1) (by omega) B.q0

/-- The second. -/
theorem WBoth.step1 {w wv w7 : World} {sc : Array Value} {p r0 r1 : Nat} {v0 v1 v' : Value} {zs0 zs1 zs' : List Int} {S0 S1 S' : List Nat} (B : WBoth w wv sc p r0 r1 v0 v1 zs0 zs1 S0 S1) (h : DuoTo wv w7 r1 (w.heap.size + 1) v1 S1 v' zs' S') :
    (w7.heap[p + 1]? = some (.cells #[v0, v1] 23 (0, 0))) ∧ WBoth w (w7.setCell ⟨p + 1, 1, none⟩ v') sc p r0 r1 v0 v' zs0 zs' S0 S' := by
  have hbig := B.big
  have hpw := B.pw
  have hq : w7.heap[p + 1]? = some (.cells #[v0, v1] 23 (0, 0)) := h.kept.heap B.hb B.q1
  have ks : Kept [p + 1] w7 (w7.setCell ⟨p + 1, 1, none⟩ v') := (Kept.refl _ _).setCell (Or.inl (by simp)) _
  have fresh : ∀ x, x < wv.heap.size → x ∉ foot v1 S1 → x ∉ foot v' S' := fun x hx hn hm => (h.new x hm).elim hn (fun h2 => by omega)
  have f0 : ∀ x, x ∈ foot v1 S1 → w.heap.size + 1 ≤ x := fun x hx => (B.D1.lt x hx).1
  refine ⟨hq, (B.kept.trans h.kept fun x hx => Or.inr (by have := f0 x hx; omega)).trans ks fun x hx => Or.inr (by simp at hx; omega), ?_, ?_, row2_set1 hq v', (B.D0.kept h.kept fun x hx hm => B.dis x hx hm).kept ks ?_, h.duo.kept ks ?_, ?_, B.p0, ?_, B.q0, ?_, hpw⟩
  · exact ks.heap (h.kept.heap B.sb fun hm => by have := f0 _ hm; omega) (by simp; omega)
  · exact ks.heap (h.kept.heap B.pb B.p1) (by simp)
  · intro x hx hm
    have e : x = p + 1 := by simpa using hm
    subst e
    exact B.q0 hx
  · intro x hx hm
    have e : x = p + 1 := by simpa using hm
    subst e
    exact fresh _ (by omega) B.q1 hx
  · intro x hx hm
    rcases h.new x hm with h2 | h2
    · exact B.dis x hx h2
    · exact absurd (B.D0.lt x hx).2 (by omega)
  · exact fresh p (by omega) B.p1
  · exact fresh (p + 1) (by omega) B.q1
end Go.Proofs.Ytnnbfdnkpohnfaa
