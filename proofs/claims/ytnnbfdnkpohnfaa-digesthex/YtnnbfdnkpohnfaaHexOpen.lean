/-
  A text and an id OPENED: what a reading of a Digits says of memory.
-/
import Derived.Test.YtnnbfdnkpohnfaaOpen
import Derived.Test.YtnnbfdnkpohnfaaHex1
namespace Go.Proofs.Ytnnbfdnkpohnfaa
open Go.ChangeShapes Go.WideShapes Go.ChangeAt Go.RowKit Go.Deep

theorem Try.cells_id : Try.prog.cellsOf 79 = 32 := by kernel_rfl
theorem Try.cells_digits : Try.prog.cellsOf 81 = 33 := by kernel_rfl

section
variable {H : Type} {enc : TypeId × Value → H} {w : World} {base : Nat} {spare : Nat → Bool} {held : Bool} {fuel : Nat} {cs : List Value} {x : DataW H × List MemPlace}

theorem u8_wf {n : Int} (h : (Lit.int .u8 n).wf = true) : 0 ≤ n ∧ n ≤ 255 := by
  have e1 : IntKind.u8.min = 0 := rfl
  have e2 : IntKind.u8.max = 255 := rfl
  simp only [Lit.wf, Bool.and_eq_true, decide_eq_true_eq, e1, e2] at h
  omega

/-- An id, opened. -/
theorem open_id (h : DataW.trod enc Try.prog w base spare held fuel 79 cs = some x) : ∃ bs : List Int, cs = bs.map (Value.int .u8) ∧ bs.length = 32 ∧ Octs bs := by
  obtain ⟨xs, m, rfl, rfl, hlen, hxs, hel⟩ := DataW.trod_array Try.underlying79 h
  rw [Try.cells_id] at hlen
  have hop : ∀ i, i < 32 → ∃ a : Int, cs[i]? = some (.int .u8 a) ∧ 0 ≤ a ∧ a ≤ 255 := by
    intro i hi
    have h1 := hel i hi
    rw [Try.cells_u8, Nat.mul_one, List.getElem?_eq_getElem (show i < xs.length by omega)] at h1
    obtain ⟨a, e, _, hw⟩ := DataW.trod_int Try.underlying5 h1
    refine ⟨a, ?_, u8_wf hw⟩
    rw [List.drop_eq_getElem_cons (show i < cs.length by omega)] at e
    simp only [List.take_succ_cons, List.take_zero, List.cons.injEq, and_true] at e
    rw [List.getElem?_eq_getElem (show i < cs.length by omega), e]
  obtain ⟨A, hA⟩ := choose_lt hop
  refine ⟨(List.range 32).map A, ?_, by simp, ?_⟩
  · refine List.ext_getElem? fun i => ?_
    by_cases hi : i < 32
    · rw [(hA i hi).1]
      simp [hi]
    · rw [List.getElem?_eq_none (by omega), List.getElem?_eq_none (by simp; omega)]
  · intro u hu
    simp only [List.mem_map, List.mem_range] at hu
    obtain ⟨i, hi, rfl⟩ := hu
    have := (hA i hi).2
    omega

set_option maxRecDepth 100000 in
/-- A text and an id, opened. -/
theorem open_digits {r : Reach} {b0 : Nat} {v : Value} {d : DataW H} {p : List MemPlace} (hv : Value.okWide Try.prog w r b0 81 v) (h : DataW.Trod enc Try.prog w base spare held 81 v d p)
    (hB : (DataW.weights Try.prog 81 d).all (· ≤ 140737488351232) = true) :
    ∃ ao c xs bs, v = .agg (#[.slice ao xs.length c] ++ idC bs) ∧ BytesAt w (.slice ao xs.length c) xs ∧ Octs xs ∧ xs.length ≤ 140737488351232 ∧ bs.length = 32 ∧ Octs bs := by
  obtain ⟨cs, rfl, hsz⟩ := okWide_struct Try.underlying81 hv
  rw [Try.cells_digits] at hsz
  obtain ⟨fuel, hf⟩ := h
  obtain ⟨zs, n, rfl, hx, hlen, hxs, hfl⟩ := DataW.trod_struct Try.underlying81 hf
  simp only [Prod.mk.injEq] at hx
  obtain ⟨rfl, _⟩ := hx
  obtain ⟨l⟩ := cs
  match l, hsz with
  | v0 :: rest, hsz =>
    have hr : rest.length = 32 := by simpa using hsz
    have f0 := hfl 0 _ rfl
    have f1 := hfl 1 _ rfl
    match zs, hxs with
    | [y0, y1], _ =>
      simp [Try.cells_bytes, Try.cells_id, Value.cells] at f0 f1
      rw [List.take_of_length_le (by omega)] at f1
      obtain ⟨ao, c, xs, e0, hb0, ho0, hw0, hk0⟩ := open_bytes f0
      obtain ⟨bs, e1, hl, ho⟩ := open_id f1
      simp only [DataW.weights, Try.underlying81, DataW.weightsEach, List.map_cons, List.map_nil, List.append_nil, List.all_append, Bool.and_eq_true] at hB
      simp only [List.cons.injEq, and_true] at e0
      subst e0 e1
      exact ⟨ao, c, xs, bs, by simp [idC], hb0, ho0, hw0 _ hB.1, hl, ho⟩
end
end Go.Proofs.Ytnnbfdnkpohnfaa
