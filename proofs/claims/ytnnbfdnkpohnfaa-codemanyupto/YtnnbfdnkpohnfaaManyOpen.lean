/-
  A crowd OPENED: what a reading of a CodeCrowd says of memory, and how much it weighs.
-/
import Derived.Test.YtnnbfdnkpohnfaaOpen
import Derived.Test.YtnnbfdnkpohnfaaMany2
namespace Go.Proofs.Ytnnbfdnkpohnfaa
open Go.ChangeShapes Go.WideShapes Go.ChangeAt Go.RowKit Go.Deep

theorem Try.bytes_bl : Try.prog.bytesOf 22 = 24 := by kernel_rfl
theorem Try.cells_lists : Try.prog.cellsOf 40 = 1 := by kernel_rfl
theorem Try.cells_crowd : Try.prog.cellsOf 42 = 2 := by kernel_rfl

section
variable {H : Type} {enc : TypeId × Value → H} {w : World} {base : Nat} {spare : Nat → Bool} {held : Bool} {fuel : Nat} {cs : List Value} {x : DataW H × List MemPlace}

theorem sumL_bulk (O : Nat → BL) (D : Nat → DataW H) : ∀ (l : List Nat), (∀ i, i ∈ l → (O i).b.length + 1 ≤ Rows.uptoBulk (D i)) → sumL (l.map O) + l.length ≤ Rows.uptoBulkAll (l.map D) := by
  intro l
  induction l with
  | nil => intro _; simp [sumL]
  | cons i l ih =>
    intro h
    have h1 := h i (by simp)
    have h2 := ih fun j hj => h j (by simp [hj])
    simp only [sumL, List.map_cons, List.sum_cons, List.length_cons, Rows.uptoBulkAll] at h2 ⊢
    omega

set_option maxRecDepth 100000 in
/-- A list of lists, opened. -/
theorem open_lists (h : DataW.trod enc Try.prog w base spare held fuel 40 cs = some x) (hB : (DataW.weights Try.prog 40 x.1).all (· ≤ 140737488351232) = true) :
    ∃ ao cap ls, cs = [.slice ao ls.length cap] ∧ ListsAt w ao ls ∧ (∀ y, y ∈ ls → BL.Good y w) ∧ ls.length ≤ 140737488351232 ∧ sumL ls + ls.length + 1 ≤ Rows.uptoBulk x.1 := by
  rcases open_slice Try.underlying40 h with ⟨rfl, rfl⟩ | ⟨a, len, cap, m, n, D, Pl, rfl, _, hl, hm, hmm, rfl, hel⟩
  · exact ⟨none, 0, [], rfl, fun e => absurd rfl e, fun y hy => by simp at hy, Nat.zero_le _, by simp [Rows.uptoBulk, sumL]⟩
  · have hlm : len ≤ m := by rw [hmm]; split <;> omega
    have hop : ∀ i, i < len → ∃ y : BL, w.cells? base (a.add (i * 1)) 1 = some [.slice y.ao y.b.length y.cap] ∧ BytesAt w (.slice y.ao y.b.length y.cap) y.b ∧ Octs y.b ∧ (∀ B, (DataW.weights Try.prog 22 (D i)).all (· ≤ B) = true → y.b.length ≤ B) ∧ y.b.length + 1 ≤ Rows.uptoBulk (D i) := by
      intro i hi
      obtain ⟨cs', hc, ht⟩ := hel i (by omega)
      rw [Try.cells_bytes] at hc
      obtain ⟨ao, cap', ys, rfl, h1, h2, h3, h4⟩ := open_bytes ht
      exact ⟨⟨ao, cap', ys⟩, hc, h1, h2, h3, h4⟩
    have : Inhabited BL := ⟨⟨none, 0, []⟩⟩
    obtain ⟨O, hO⟩ := choose_lt hop
    have hlen : ((List.range len).map O).length = len := by simp
    simp only [DataW.weights, Try.underlying40, Try.bytes_bl, List.all_cons, List.all_append, Bool.and_eq_true, decide_eq_true_eq, List.length_map, List.length_range] at hB
    obtain ⟨hB1, hB2, _⟩ := hB
    refine ⟨some a, cap, (List.range len).map O, by rw [hlen], fun hne => ?_, ?_, by rw [hlen]; omega, ?_⟩
    · have hpos : 0 < len := by
        rcases Nat.eq_zero_or_pos len with h0 | h0
        · subst h0; simp at hne
        · exact h0
      obtain ⟨b, off, spot⟩ := a
      have hspot : spot = none := by
        have h1 := ((World.cells?_some (hO 0 hpos).1).2.2 0 (by decide))
        simpa [Addr.add] using World.cell?_spot (h1.trans rfl)
      subst hspot
      refine ⟨b, off, rfl, fun i y hy => ?_⟩
      have hi : i < len := by have := (List.getElem?_eq_some_iff.1 hy).1; omega
      have ey : O i = y := by simpa [hi] using hy
      have hc := World.cells?_some (hO i hi).1
      rw [ey] at hc
      have h0 := hc.2.2 0 (by decide)
      simp only [Addr.add_mid, Nat.add_zero, Nat.mul_one] at h0
      exact h0
    · intro y hy
      simp only [List.mem_map, List.mem_range] at hy
      obtain ⟨i, hi, rfl⟩ := hy
      exact ⟨(hO i hi).2.1, (hO i hi).2.2.1, (hO i hi).2.2.2.1 140737488351232 (weights_elem _ _ _ hB2 _ (List.mem_map.2 ⟨i, List.mem_range.2 hi, rfl⟩))⟩
    · have hs := sumL_bulk O D (List.range len) fun i hi => (hO i (List.mem_range.1 hi)).2.2.2.2
      rw [List.length_range] at hs
      rw [hlen]
      simp only [Rows.uptoBulk]
      omega

set_option maxRecDepth 100000 in
/-- A crowd, opened. -/
theorem open_crowd {r : Reach} {b0 : Nat} {v : Value} {d : DataW H} {p : List MemPlace} (hv : Value.okWide Try.prog w r b0 42 v) (h : DataW.Trod enc Try.prog w base spare held 42 v d p)
    (hB : (DataW.weights Try.prog 42 d).all (· ≤ 140737488351232) = true) :
    ∃ n0 ao c ls, v = .agg #[.int .i64 n0, .slice ao ls.length c] ∧ -9223372036854775808 ≤ n0 ∧ n0 ≤ 9223372036854775807 ∧ ListsAt w ao ls ∧ (∀ y, y ∈ ls → BL.Good y w) ∧ ls.length ≤ 140737488351232 ∧ sumL ls ≤ Rows.uptoBulk d := by
  obtain ⟨cs, rfl, hsz⟩ := okWide_struct Try.underlying42 hv
  rw [Try.cells_crowd] at hsz
  obtain ⟨fuel, hf⟩ := h
  obtain ⟨zs, n, rfl, hx, hlen, hxs, hfl⟩ := DataW.trod_struct Try.underlying42 hf
  simp only [Prod.mk.injEq] at hx
  obtain ⟨rfl, _⟩ := hx
  obtain ⟨l⟩ := cs
  match l, hsz with
  | [v0, v1], _ =>
    have f0 := hfl 0 _ rfl
    have f1 := hfl 1 _ rfl
    match zs, hxs with
    | [y0, y1], _ =>
      simp [Try.cells_int, Try.cells_lists, Value.cells] at f0 f1
      obtain ⟨a0, e0, rfl, w0⟩ := DataW.trod_int Try.underlying3 f0
      simp only [DataW.weights, Try.underlying42, DataW.weightsEach, List.map_cons, List.map_nil, List.append_nil, List.nil_append] at hB
      obtain ⟨ao, c, ls, e1, h1, h2, h3, h4⟩ := open_lists f1 hB
      simp only [List.cons.injEq, and_true] at e0 e1
      subst e0 e1
      have q0 := i64_wf w0
      refine ⟨a0, ao, c, ls, rfl, q0.1, q0.2, h1, h2, h3, ?_⟩
      simp only [Rows.uptoBulk, Rows.uptoBulkAll, List.map_cons, List.map_nil]
      omega
end
end Go.Proofs.Ytnnbfdnkpohnfaa
