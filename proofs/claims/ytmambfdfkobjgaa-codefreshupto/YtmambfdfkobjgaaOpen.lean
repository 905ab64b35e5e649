/-
  THE SCRIPT OPENED: what a reading of a CodeScript says of memory: its two lists of bytes and its steps. And how much it weighs.
-/
import Derived.Test.YtmambfdfkobjgaaOpenB
import Derived.Test.YtmambfdfkobjgaaOps
import Derived.ProofKit
import Derived.OpenShut
import Derived.SizedLaws
import Derived.Deep.Slices
namespace Go.Proofs.Ytmambfdfkobjgaa
open Go.ChangeShapes Go.WideShapes Go.ChangeAt Go.RowKit Go.Deep

theorem Try.cells_op : Try.prog.cellsOf 55 = 5 := by kernel_rfl
theorem Try.bytes_op : Try.prog.bytesOf 55 = 56 := by kernel_rfl
theorem Try.cells_script : Try.prog.cellsOf 26 = 3 := by kernel_rfl
theorem Try.cells_two : Try.prog.cellsOf 23 = 2 := by kernel_rfl
theorem Try.cells_ops : Try.prog.cellsOf 24 = 1 := by kernel_rfl
theorem Try.cells_u64 : Try.prog.cellsOf 53 = 1 := by kernel_rfl

section
variable {H : Type} {enc : TypeId × Value → H} {w : World} {base : Nat} {spare : Nat → Bool} {held : Bool} {fuel : Nat} {cs : List Value} {x : DataW H × List MemPlace}

set_option maxRecDepth 100000 in
/-- One step, opened. -/
theorem open_op (h : DataW.trod enc Try.prog w base spare held fuel 55 cs = some x) :
    ∃ o : COp, cs = [.int .i64 o.kind, .int .i64 o.which, .int .i64 o.m, .int .u64 o.n, .slice o.ao o.b.length o.cap] ∧ (∀ B, B ≤ 140737488351232 → (DataW.weights Try.prog 55 x.1).all (· ≤ B) = true → COp.Good o w) ∧
      o.b.length + 1 ≤ Rows.uptoBulk x.1 := by
  obtain ⟨xs, n, rfl, rfl, hlen, hxs, hf⟩ := DataW.trod_struct Try.underlying55 h
  rw [Try.cells_op] at hlen
  match cs, hlen with
  | [v0, v1, v2, v3, v4], _ =>
    have f0 := hf 0 _ rfl
    have f1 := hf 1 _ rfl
    have f2 := hf 2 _ rfl
    have f3 := hf 3 _ rfl
    have f4 := hf 4 _ rfl
    match xs, hxs with
    | [y0, y1, y2, y3, y4], _ =>
      simp [Try.cells_int, Try.cells_u64, Try.cells_bytes] at f0 f1 f2 f3 f4
      obtain ⟨a0, e0, rfl, w0⟩ := DataW.trod_int Try.underlying3 f0
      obtain ⟨a1, e1, rfl, w1⟩ := DataW.trod_int Try.underlying3 f1
      obtain ⟨a2, e2, rfl, w2⟩ := DataW.trod_int Try.underlying3 f2
      obtain ⟨a3, e3, rfl, w3⟩ := DataW.trod_int Try.underlying53 f3
      obtain ⟨ao, cap, ys, e4, hb, ho, hw, hk⟩ := open_bytes f4
      simp only [List.cons.injEq, and_true] at e0 e1 e2 e3 e4
      subst e0 e1 e2 e3 e4
      refine ⟨⟨a0, a1, a2, a3, ao, cap, ys⟩, rfl, fun B hB hall => ?_, ?_⟩
      · have q0 := i64_wf w0
        have q1 := i64_wf w1
        have q2 := i64_wf w2
        have q3 := u64_wf w3
        refine ⟨q0.1, q0.2, q1.1, q1.2, q2.1, q2.2, q3.1, q3.2, hb, ho, Nat.le_trans (hw B ?_) hB⟩
        simp only [DataW.weights, Try.underlying55, DataW.weightsEach, List.map_cons, List.map_nil, List.nil_append, List.append_nil] at hall
        exact hall
      · simp only [Rows.uptoBulk, Rows.uptoBulkAll, List.map_cons, List.map_nil]
        omega

def sumB (ops : List COp) : Nat := (ops.map fun o => o.b.length).sum

theorem sum_le (O : Nat → COp) (D : Nat → DataW H) : ∀ (l : List Nat), (∀ i, i ∈ l → (O i).b.length + 1 ≤ Rows.uptoBulk (D i)) → sumB (l.map O) + l.length ≤ Rows.uptoBulkAll (l.map D) := by
  intro l
  induction l with
  | nil => intro _; simp [sumB]
  | cons i l ih =>
    intro h
    have h1 := h i (by simp)
    have h2 := ih fun j hj => h j (by simp [hj])
    simp only [sumB, List.map_cons, List.sum_cons, List.length_cons, Rows.uptoBulkAll] at h2 ⊢
    omega

theorem weights_elem (e : TypeId) (l : List (DataW H)) (B : Nat) (h : (DataW.weightsAll Try.prog e l).all (· ≤ B) = true) : ∀ d, d ∈ l → (DataW.weights Try.prog e d).all (· ≤ B) = true := by
  induction l with
  | nil => intro d hd; simp at hd
  | cons a l ih =>
    intro d hd
    simp only [DataW.weightsAll, List.all_append, Bool.and_eq_true] at h
    rcases List.mem_cons.1 hd with rfl | hd
    · exact h.1
    · exact ih h.2 d hd

set_option maxRecDepth 100000 in
/-- The steps, opened. -/
theorem open_ops (h : DataW.trod enc Try.prog w base spare held fuel 24 cs = some x) (hB : (DataW.weights Try.prog 24 x.1).all (· ≤ 140737488351232) = true) :
    ∃ ao cap ops, cs = [.slice ao ops.length cap] ∧ OpsAt w (.slice ao ops.length cap) ops ∧ (∀ o, o ∈ ops → COp.Good o w) ∧ sumB ops + ops.length + 1 ≤ Rows.uptoBulk x.1 := by
  rcases open_slice Try.underlying24 h with ⟨rfl, rfl⟩ | ⟨a, len, cap, m, n, D, Pl, rfl, _, hl, hm, hmm, rfl, hel⟩
  · exact ⟨none, 0, [], rfl, ⟨none, 0, rfl, Nat.zero_le _, fun e => absurd rfl e⟩, fun o ho => by simp at ho, by simp [Rows.uptoBulk, sumB]⟩
  · have hlm : len ≤ m := by rw [hmm]; split <;> omega
    have hop : ∀ i, i < len → ∃ o : COp, w.cells? base (a.add (i * 5)) 5 = some [.int .i64 o.kind, .int .i64 o.which, .int .i64 o.m, .int .u64 o.n, .slice o.ao o.b.length o.cap] ∧
        (∀ B, B ≤ 140737488351232 → (DataW.weights Try.prog 55 (D i)).all (· ≤ B) = true → COp.Good o w) ∧ o.b.length + 1 ≤ Rows.uptoBulk (D i) := by
      intro i hi
      obtain ⟨cs', hc, ht⟩ := hel i (by omega)
      rw [Try.cells_op] at hc
      obtain ⟨o, rfl, hg, hk⟩ := open_op ht
      exact ⟨o, hc, hg, hk⟩
    have : Inhabited COp := ⟨⟨0, 0, 0, 0, none, 0, []⟩⟩
    obtain ⟨O, hO⟩ := choose_lt hop
    have hlen : ((List.range len).map O).length = len := by simp
    simp only [DataW.weights, Try.underlying24, Try.bytes_op, List.all_cons, List.all_append, Bool.and_eq_true, decide_eq_true_eq, List.length_map, List.length_range] at hB
    obtain ⟨hB1, hB2, _⟩ := hB
    refine ⟨some a, cap, (List.range len).map O, by rw [hlen], ?_, ?_, ?_⟩
    · refine ⟨some a, cap, rfl, by rw [hlen]; omega, fun hne => ?_⟩
      have hpos : 0 < len := by
        rcases Nat.eq_zero_or_pos len with h0 | h0
        · subst h0; simp at hne
        · exact h0
      obtain ⟨b, off, spot⟩ := a
      have hspot : spot = none := by
        have h1 := ((World.cells?_some (hO 0 hpos).1).2.2 0 (by decide))
        simpa [Addr.add] using World.cell?_spot (h1.trans rfl)
      subst hspot
      refine ⟨b, off, rfl, fun i o ho => ?_⟩
      have hi : i < len := by have := (List.getElem?_eq_some_iff.1 ho).1; omega
      have eo : O i = o := by simpa [hi] using ho
      have hc := World.cells?_some (hO i hi).1
      rw [eo] at hc
      have h0 := hc.2.2 0 (by decide)
      have h1 := hc.2.2 1 (by decide)
      have h2 := hc.2.2 2 (by decide)
      have h3 := hc.2.2 3 (by decide)
      have h4 := hc.2.2 4 (by decide)
      simp only [Addr.add_mid, Nat.add_zero] at h0 h1 h2 h3 h4
      exact ⟨h0, h1, h2, h3, h4⟩
    · intro o ho
      simp only [List.mem_map, List.mem_range] at ho
      obtain ⟨i, hi, rfl⟩ := ho
      exact (hO i hi).2.1 140737488351232 (Nat.le_refl _) (weights_elem _ _ _ hB2 _ (List.mem_map.2 ⟨i, List.mem_range.2 hi, rfl⟩))
    · have hs := sum_le O D (List.range len) fun i hi => (hO i (List.mem_range.1 hi)).2.2
      rw [List.length_range] at hs
      rw [hlen]
      simp only [Rows.uptoBulk]
      omega

set_option maxRecDepth 100000 in
/-- A script, opened. -/
theorem open_script {r : Reach} {b0 : Nat} {v : Value} {d : DataW H} {p : List MemPlace} (hv : Value.okWide Try.prog w r b0 26 v) (h : DataW.Trod enc Try.prog w base spare held 26 v d p)
    (hB : (DataW.weights Try.prog 26 d).all (· ≤ 140737488351232) = true) :
    ∃ ao0 c0 xs ao1 c1 ys ao2 c2 ops, v = .agg #[.slice ao0 xs.length c0, .slice ao1 ys.length c1, .slice ao2 ops.length c2] ∧ BytesAt w (.slice ao0 xs.length c0) xs ∧ Octs xs ∧ xs.length ≤ 140737488351232 ∧
      BytesAt w (.slice ao1 ys.length c1) ys ∧ Octs ys ∧ ys.length ≤ 140737488351232 ∧ OpsAt w (.slice ao2 ops.length c2) ops ∧ (∀ o, o ∈ ops → COp.Good o w) ∧
      xs.length + ys.length + sumB ops + ops.length ≤ Rows.uptoBulk d := by
  obtain ⟨cs, rfl, hsz⟩ := okWide_struct Try.underlying26 hv
  rw [Try.cells_script] at hsz
  obtain ⟨fuel, hf⟩ := h
  obtain ⟨zs, n, rfl, hx, hlen, hxs, hfl⟩ := DataW.trod_struct Try.underlying26 hf
  simp only [Prod.mk.injEq] at hx
  obtain ⟨rfl, _⟩ := hx
  obtain ⟨l⟩ := cs
  match l, hsz with
  | [v0, v1, v2], _ =>
    have f0 := hfl 0 _ rfl
    have f1 := hfl 1 _ rfl
    match zs, hxs with
    | [y0, y1], _ =>
      simp [Try.cells_two, Try.cells_ops, Value.cells] at f0 f1
      obtain ⟨us, m, rfl, rfl, hl2, hus, hel⟩ := DataW.trod_array Try.underlying23 f0
      have g0 := hel 0 (by decide)
      have g1 := hel 1 (by decide)
      match us, hus with
      | [u0, u1], _ =>
        simp [Try.cells_bytes] at g0 g1
        obtain ⟨ao0, c0, xs, e0, hb0, ho0, hw0, hk0⟩ := open_bytes g0
        obtain ⟨ao1, c1, ys, e1, hb1, ho1, hw1, hk1⟩ := open_bytes g1
        simp only [DataW.weights, Try.underlying26, Try.underlying23, DataW.weightsEach, DataW.weightsAll, List.map_cons, List.map_nil, List.append_nil, List.all_append, Bool.and_eq_true] at hB
        obtain ⟨⟨hB0, hB1⟩, hB2⟩ := hB
        obtain ⟨ao2, c2, ops, e2, hb2, hg2, hk2⟩ := open_ops f1 hB2
        simp only [List.cons.injEq, and_true] at e0 e1 e2
        subst e0 e1 e2
        refine ⟨ao0, c0, xs, ao1, c1, ys, ao2, c2, ops, rfl, hb0, ho0, hw0 _ hB0, hb1, ho1, hw1 _ hB1, hb2, hg2, ?_⟩
        simp only [Rows.uptoBulk, Rows.uptoBulkAll, List.map_cons, List.map_nil]
        omega
end
end Go.Proofs.Ytmambfdfkobjgaa
