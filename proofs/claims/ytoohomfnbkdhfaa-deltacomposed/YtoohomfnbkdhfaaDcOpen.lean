/-
  A DeltaScript OPENED: what a reading of it says of memory.
-/
import Derived.Test.YtoohomfnbkdhfaaOpenB
import Derived.Test.YtoohomfnbkdhfaaDc1
namespace Go.Proofs.Ytoohomfnbkdhfaa
open Go.ChangeShapes Go.WideShapes Go.ChangeAt Go.RowKit Go.Deep

theorem Try.cells_step : Try.prog.cellsOf 30 = 3 := by kernel_rfl
theorem Try.bytes_step : Try.prog.bytesOf 30 = 40 := by kernel_rfl
theorem Try.cells_steps : Try.prog.cellsOf 23 = 1 := by kernel_rfl
theorem Try.cells_script : Try.prog.cellsOf 25 = 2 := by kernel_rfl

section
variable {H : Type} {enc : TypeId × Value → H} {w : World} {base : Nat} {spare : Nat → Bool} {held : Bool} {fuel : Nat} {cs : List Value} {x : DataW H × List MemPlace}

set_option maxRecDepth 100000 in
/-- One step, opened. -/
theorem open_step (h : DataW.trod enc Try.prog w base spare held fuel 30 cs = some x) :
    ∃ p : DSt, cs = [.slice p.an p.new.length p.cn, .int .i64 p.a, .int .i64 p.n] ∧ ((DataW.weights Try.prog 30 x.1).all (· ≤ 140737488351232) = true → p.Good w) := by
  obtain ⟨xs, n, rfl, rfl, hlen, hxs, hf⟩ := DataW.trod_struct Try.underlying30 h
  rw [Try.cells_step] at hlen
  match cs, hlen with
  | [v0, v1, v2], _ =>
    have f0 := hf 0 _ rfl
    have f1 := hf 1 _ rfl
    have f2 := hf 2 _ rfl
    match xs, hxs with
    | [y0, y1, y2], _ =>
      simp [Try.cells_bytes, Try.cells_int] at f0 f1 f2
      obtain ⟨ao, cap, ys, e0, hb, ho, hw, hk⟩ := open_bytes f0
      obtain ⟨a, e1, rfl, w1⟩ := DataW.trod_int Try.underlying3 f1
      obtain ⟨b, e2, rfl, w2⟩ := DataW.trod_int Try.underlying3 f2
      simp only [List.cons.injEq, and_true] at e0 e1 e2
      subst e0 e1 e2
      refine ⟨⟨ao, cap, ys, a, b⟩, rfl, fun hall => ?_⟩
      simp only [DataW.weights, Try.underlying30, DataW.weightsEach, List.map_cons, List.map_nil, List.append_nil] at hall
      exact ⟨hb, ho, hw _ hall, (i64_wf w1).1, (i64_wf w1).2, (i64_wf w2).1, (i64_wf w2).2⟩

theorem weights_each (e : TypeId) (l : List (DataW H)) (B : Nat) (h : (DataW.weightsAll Try.prog e l).all (· ≤ B) = true) : ∀ d, d ∈ l → (DataW.weights Try.prog e d).all (· ≤ B) = true := by
  induction l with
  | nil => intro d hd; simp at hd
  | cons a l ih =>
    intro d hd
    simp only [DataW.weightsAll, List.all_append, Bool.and_eq_true] at h
    rcases List.mem_cons.1 hd with rfl | hd
    · exact h.1
    · exact ih h.2 d hd

set_option maxRecDepth 100000 in
/-- The steps, opened. -/
theorem open_steps (hf : DataW.trod enc Try.prog w base spare held fuel 23 cs = some x) :
    ∃ ao cap ps, cs = [.slice ao (ps : List DSt).length cap] ∧ ((DataW.weights Try.prog 23 x.1).all (· ≤ 140737488351232) = true → StepsAt w (.slice ao ps.length cap) ps ∧ (∀ p, p ∈ ps → p.Good w)) := by
  rcases open_slice Try.underlying23 hf with ⟨hx, he⟩ | ⟨a, len, cap, m, n, D, Pl, hx, _, hl, hm, hmm, he, hel⟩
  · subst hx
    exact ⟨none, 0, [], rfl, fun _ => ⟨⟨none, 0, rfl, Nat.zero_le _, fun e => absurd rfl e⟩, fun o ho => by simp at ho⟩⟩
  · subst hx
    have hlm : len ≤ m := by rw [hmm]; split <;> omega
    have hop : ∀ i, i < len → ∃ o : DSt, w.cells? base (a.add (i * 3)) 3 = some [.slice o.an o.new.length o.cn, .int .i64 o.a, .int .i64 o.n] ∧
        ((DataW.weights Try.prog 30 (D i)).all (· ≤ 140737488351232) = true → o.Good w) := by
      intro i hi
      obtain ⟨cs', hc, ht⟩ := hel i (by omega)
      rw [Try.cells_step] at hc
      obtain ⟨o, rfl, hg⟩ := open_step ht
      exact ⟨o, hc, hg⟩
    have : Inhabited DSt := ⟨⟨none, 0, [], 0, 0⟩⟩
    obtain ⟨O, hO⟩ := choose_lt hop
    have hlen : ((List.range len).map O).length = len := by simp
    subst he
    refine ⟨some a, cap, (List.range len).map O, by rw [hlen], fun hB => ?_⟩
    simp only [DataW.weights, Try.underlying23, Try.bytes_step, List.all_cons, List.all_append, Bool.and_eq_true, decide_eq_true_eq, List.length_map, List.length_range] at hB
    obtain ⟨hB1, hB2, _⟩ := hB
    refine ⟨?_, ?_⟩
    · refine ⟨some a, cap, rfl, by rw [hlen]; omega, fun hne => ?_⟩
      have hpos : 0 < len := by
        rcases Nat.eq_zero_or_pos len with h0 | h0
        · subst h0; simp at hne
        · exact h0
      obtain ⟨b, off, spot⟩ := a
      have hspot : spot = none := by
        have h1 := ((World.cells?_some (hO 0 hpos).1).2.2 0 (by decide))
        simpa [Addr.add] using World.cell?_spot (h1.trans rfl)
      subst hspot
      refine ⟨b, off, rfl, fun i o ho => ?_⟩
      have hi : i < len := by have := (List.getElem?_eq_some_iff.1 ho).1; omega
      have eo : O i = o := by simpa [hi] using ho
      have hc := World.cells?_some (hO i hi).1
      rw [eo] at hc
      have h0 := hc.2.2 0 (by decide)
      have h1 := hc.2.2 1 (by decide)
      have h2 := hc.2.2 2 (by decide)
      simp only [Addr.add_mid, Nat.add_zero] at h0 h1 h2
      exact ⟨h0, h1, h2⟩
    · intro o ho
      simp only [List.mem_map, List.mem_range] at ho
      obtain ⟨i, hi, rfl⟩ := ho
      exact (hO i hi).2 (weights_each _ _ _ hB2 _ (List.mem_map.2 ⟨i, List.mem_range.2 hi, rfl⟩))

set_option maxRecDepth 100000 in
theorem open_script {r : Reach} {b0 : Nat} {v : Value} {d : DataW H} {p : List MemPlace} (hv : Value.okWide Try.prog w r b0 25 v) (h : DataW.Trod enc Try.prog w base spare held 25 v d p)
    (hB : (DataW.weights Try.prog 25 d).all (· ≤ 140737488351232) = true) :
    ∃ ab cb bs ao cap ps, v = .agg #[.slice ab (bs : List Int).length cb, .slice ao (ps : List DSt).length cap] ∧ BytesAt w (.slice ab bs.length cb) bs ∧ Octs bs ∧ bs.length ≤ 140737488351232 ∧ StepsAt w (.slice ao ps.length cap) ps ∧ (∀ p, p ∈ ps → p.Good w) := by
  obtain ⟨cs, rfl, hsz⟩ := okWide_struct Try.underlying25 hv
  rw [Try.cells_script] at hsz
  obtain ⟨fuel, hf⟩ := h
  obtain ⟨zs, n, rfl, hx, hlen, hxs, hfl⟩ := DataW.trod_struct Try.underlying25 hf
  simp only [Prod.mk.injEq] at hx
  obtain ⟨rfl, _⟩ := hx
  obtain ⟨l⟩ := cs
  match l, hsz with
  | [v0, v1], _ =>
    have f0 := hfl 0 _ rfl
    have f1 := hfl 1 _ rfl
    match zs, hxs with
    | [y0, y1], _ =>
      simp [Try.cells_bytes, Try.cells_steps, Value.cells] at f0 f1
      obtain ⟨ab, cb, bs, e0, hb0, ho0, hw0, _⟩ := open_bytes f0
      obtain ⟨ao, cap, ps, e1, hg⟩ := open_steps f1
      simp only [List.cons.injEq, and_true] at e0 e1
      subst e0 e1
      simp only [DataW.weights, Try.underlying25, DataW.weightsEach, List.map_cons, List.map_nil, List.append_nil, List.all_append, Bool.and_eq_true] at hB
      obtain ⟨hg1, hg2⟩ := hg hB.2
      exact ⟨ab, cb, bs, ao, cap, ps, rfl, hb0, ho0, hw0 _ hB.1, hg1, hg2⟩
end
end Go.Proofs.Ytoohomfnbkdhfaa
