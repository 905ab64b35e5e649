/-
  A DeltaEdge OPENED.
-/
import Derived.Test.YtoohomfnbkdhfaaOpenB
import Derived.Test.YtoohomfnbkdhfaaDs1
namespace Go.Proofs.Ytoohomfnbkdhfaa
open Go.ChangeShapes Go.WideShapes Go.ChangeAt Go.RowKit Go.Deep

theorem Try.cells_edge : Try.prog.cellsOf 43 = 4 := by kernel_rfl

section
variable {H : Type} {enc : TypeId × Value → H} {w : World} {base : Nat} {spare : Nat → Bool} {held : Bool}

set_option maxRecDepth 100000 in
theorem open_edge {r : Reach} {b0 : Nat} {v : Value} {d : DataW H} {p : List MemPlace} (hv : Value.okWide Try.prog w r b0 43 v) (h : DataW.Trod enc Try.prog w base spare held 43 v d p) :
    ∃ ab cb bs ad ct ts a am cm ms, v = .agg #[.slice ab bs.length cb, .slice ad ts.length ct, .int .i64 a, .slice am ms.length cm] ∧ BytesAt w (.slice ab bs.length cb) bs ∧ Octs bs ∧ BytesAt w (.slice ad ts.length ct) ts ∧ Octs ts ∧
      (-9223372036854775808 ≤ a ∧ a ≤ 9223372036854775807) ∧ BytesAt w (.slice am ms.length cm) ms ∧ Octs ms ∧ bs.length + ts.length + ms.length ≤ Rows.uptoBulk d := by
  obtain ⟨cs, rfl, hsz⟩ := okWide_struct Try.underlying43 hv
  rw [Try.cells_edge] at hsz
  obtain ⟨fuel, hf⟩ := h
  obtain ⟨zs, n, rfl, hx, hlen, hxs, hfl⟩ := DataW.trod_struct Try.underlying43 hf
  simp only [Prod.mk.injEq] at hx
  obtain ⟨rfl, _⟩ := hx
  obtain ⟨l⟩ := cs
  match l, hsz with
  | [v0, v1, v2, v3], _ =>
    have f0 := hfl 0 _ rfl
    have f1 := hfl 1 _ rfl
    have f2 := hfl 2 _ rfl
    have f3 := hfl 3 _ rfl
    match zs, hxs with
    | [y0, y1, y2, y3], _ =>
      simp [Try.cells_bytes, Try.cells_int, Value.cells] at f0 f1 f2 f3
      obtain ⟨ab, cb, bs, e0, hb0, ho0, _, hk0⟩ := open_bytes f0
      obtain ⟨ad, ct, ts, e1, hb1, ho1, _, hk1⟩ := open_bytes f1
      obtain ⟨a, e2, rfl, w2⟩ := DataW.trod_int Try.underlying3 f2
      obtain ⟨am, cm, ms, e3, hb3, ho3, _, hk3⟩ := open_bytes f3
      simp only [List.cons.injEq, and_true] at e0 e1 e2 e3
      subst e0 e1 e2 e3
      refine ⟨ab, cb, bs, ad, ct, ts, a, am, cm, ms, rfl, hb0, ho0, hb1, ho1, i64_wf w2, hb3, ho3, ?_⟩
      simp only [Rows.uptoBulk, Rows.uptoBulkAll, List.map_cons, List.map_nil]
      omega
end
end Go.Proofs.Ytoohomfnbkdhfaa
