/-
  THREE LISTS OF STAMPS OPENED: what a reading of them says of memory, and how many they are.
-/
import Derived.Test.YtmjbaficdoehfaaOxRows
import Derived.Test.YtmjbaficdoehfaaMg3
namespace Go.Proofs.Ytmjbaficdoehfaa
open Go.ChangeShapes Go.WideShapes Go.ChangeAt Go.RowKit Go.Deep

theorem Try.cells_idM : Try.prog.cellsOf 29 = 32 := by kernel_rfl
theorem Try.cells_strM : Try.prog.cellsOf 9 = 1 := by kernel_rfl
theorem Try.cells_u64M : Try.prog.cellsOf 30 = 1 := by kernel_rfl
theorem Try.cells_stamp : Try.prog.cellsOf 32 = 34 := by kernel_rfl
theorem Try.cells_stamps : Try.prog.cellsOf 22 = 1 := by kernel_rfl
theorem Try.cells_stamped : Try.prog.cellsOf 24 = 3 := by kernel_rfl
theorem u8_wfM {n : Int} (h : (Lit.int .u8 n).wf = true) : 0 ≤ n ∧ n ≤ 255 := by
  have e1 : IntKind.u8.min = 0 := rfl
  have e2 : IntKind.u8.max = 255 := rfl
  simp only [Lit.wf, Bool.and_eq_true, decide_eq_true_eq, e1, e2] at h
  omega
theorem stamp_cut {α : Type} (cs : List α) (h : cs.length = 34) : cs = cs.take 1 ++ ((cs.drop 1).take 32 ++ (cs.drop 33).take 1) := by
  have h1 : cs.drop 1 = (cs.drop 1).take 32 ++ cs.drop (1 + 32) := drop_cut cs 1 32
  have h2 : (cs.drop 33).take 1 = cs.drop 33 := List.take_of_length_le (by rw [List.length_drop]; omega)
  rw [h2]
  conv => lhs; rw [← List.take_append_drop 1 cs, h1]
section
variable {H : Type} {enc : TypeId × Value → H} {w : World} {base : Nat} {spare : Nat → Bool} {held : Bool} {fuel : Nat} {cs : List Value} {x : DataW H × List MemPlace}
/-- An id, opened. -/
theorem open_idM (h : DataW.trod enc Try.prog w base spare held fuel 29 cs = some x) : ∃ bs : List Int, cs = bs.map (Value.int .u8) ∧ GoodID bs ∧ 33 ≤ Rows.uptoBulk x.1 := by
  obtain ⟨xs, m, rfl, rfl, hlen, hxs, hel⟩ := DataW.trod_array Try.underlying29 h
  rw [Try.cells_idM] at hlen
  have hop : ∀ i, i < 32 → ∃ a : Int, cs[i]? = some (.int .u8 a) ∧ 0 ≤ a ∧ a ≤ 255 := by
    intro i hi
    have h1 := hel i hi
    rw [Try.cells_u8, Nat.mul_one, List.getElem?_eq_getElem (show i < xs.length by omega)] at h1
    obtain ⟨a, e, _, hw⟩ := DataW.trod_int Try.underlying5 h1
    refine ⟨a, ?_, u8_wfM hw⟩
    rw [List.drop_eq_getElem_cons (show i < cs.length by omega)] at e
    simp only [List.take_succ_cons, List.take_zero, List.cons.injEq, and_true] at e
    rw [List.getElem?_eq_getElem (show i < cs.length by omega), e]
  obtain ⟨A, hA⟩ := choose_lt hop
  refine ⟨(List.range 32).map A, ?_, ⟨by simp, ?_⟩, ?_⟩
  · refine List.ext_getElem? fun i => ?_
    by_cases hi : i < 32
    · rw [(hA i hi).1]
      simp [hi]
    · rw [List.getElem?_eq_none (by omega), List.getElem?_eq_none (by simp; omega)]
  · intro u hu
    simp only [List.mem_map, List.mem_range] at hu
    obtain ⟨i, hi, rfl⟩ := hu
    have := (hA i hi).2
    omega
  · have h1 := bulk_length (xs.map (fun x => x.fst))
    simp only [Rows.uptoBulk]
    rw [List.length_map] at h1
    omega
theorem open_strM (h : DataW.trod enc Try.prog w base spare held fuel 9 cs = some x) : ∃ xs : List Int, cs = [.string (strOfNums xs)] ∧ Octs xs := by
  obtain ⟨s, e, rfl, _⟩ := DataW.trod_string Try.underlying9 h
  exact ⟨numsOf s, by rw [nums_str]; exact e, nums_octs s⟩
theorem open_u64M (h : DataW.trod enc Try.prog w base spare held fuel 30 cs = some x) : ∃ n : Int, cs = [.int .u64 n] ∧ 0 ≤ n ∧ n < 18446744073709551616 := by
  obtain ⟨a, e, _, hw⟩ := DataW.trod_int Try.underlying30 h
  have := u64_wf hw
  exact ⟨a, e, this.1, by omega⟩
theorem open_stamp (h : DataW.trod enc Try.prog w base spare held fuel 32 cs = some x) : ∃ a : StampE, cs = a.row ∧ ((DataW.weights Try.prog 32 x.1).all (· ≤ 140737488351232) = true → True) ∧ 34 ≤ Rows.uptoBulk x.1 := by
  obtain ⟨zs, n, rfl, rfl, hlen, hxs, hfl⟩ := DataW.trod_struct Try.underlying32 h
  rw [Try.cells_stamp] at hlen
  have f0 := hfl 0 _ rfl
  have f1 := hfl 1 _ rfl
  have f2 := hfl 2 _ rfl
  match zs, hxs with
  | [y0, y1, y2], _ =>
    simp [Try.cells_strM, Try.cells_idM, Try.cells_u64M] at f0 f1 f2
    obtain ⟨a, e0, o0⟩ := open_strM f0
    obtain ⟨b, e1, o1, b1⟩ := open_idM f1
    obtain ⟨c, e2, l2, h2⟩ := open_u64M f2
    have hc := stamp_cut cs hlen
    rw [List.drop_one] at hc
    rw [e0, e1, e2] at hc
    refine ⟨⟨a, b, c, o0, o1, l2, h2⟩, hc, fun _ => trivial, ?_⟩
    simp only [Rows.uptoBulk, Rows.uptoBulkAll, List.map_cons, List.map_nil]
    omega
theorem bulk_each {c : Nat} {D : Nat → DataW H} : ∀ (l : List Nat), (∀ i, i ∈ l → c ≤ Rows.uptoBulk (D i)) → l.length * c ≤ Rows.uptoBulkAll (l.map D)
  | [], _ => by simp
  | i :: l, h => by
    have h1 := h i (by simp)
    have h2 := bulk_each l (fun j hj => h j (by simp [hj]))
    simp only [List.map_cons, Rows.uptoBulkAll, List.length_cons, Nat.succ_mul]
    omega
theorem open_stampl (h : DataW.trod enc Try.prog w base spare held fuel 22 cs = some x) : ∃ v L, cs = [v] ∧ L.length * 34 ≤ Rows.uptoBulk x.1 ∧ (Rows.uptoBulk x.1 ≤ 140737488351232 → StampsAt w v L) := by
  obtain ⟨ao, cap, ls, rfl, h1, h0, hc, _, _⟩ := open_rowlU StampE.row (fun _ => True) (fun _ => 34) 140737488351232 Try.underlying22 Try.cells_stamp (by decide) h (fun _ _ _ => open_stamp)
  have hlen : ls.length * 34 ≤ Rows.uptoBulk x.1 := by
    rcases open_slice Try.underlying22 h with ⟨e, _⟩ | ⟨a, len, cap', m, n, D, Pl, e, _, hl, hm, hmm, rfl, hee⟩
    · injection e with e _
      injection e with _ e2 _
      rw [e2]
      simp
    · injection e with e _
      injection e with _ e2 _
      have hlm : len ≤ m := by rw [hmm]; split <;> omega
      have hb : ∀ i, i ∈ List.range len → 34 ≤ Rows.uptoBulk (D i) := fun i hi => by
        obtain ⟨cs', hc, hte⟩ := hee i (by have := List.mem_range.1 hi; omega)
        obtain ⟨_, _, _, hk⟩ := open_stamp hte
        exact hk
      have := bulk_each (List.range len) hb
      rw [List.length_range] at this
      simp only [Rows.uptoBulk]
      rw [e2]
      omega
  refine ⟨_, ls, rfl, hlen, fun hb => ⟨ao, cap, by rw [List.length_map], by rw [List.length_map]; exact h1, h0, by rw [List.length_map]; omega, fun hne => ?_⟩⟩
  obtain ⟨b, off, hao, hh⟩ := hc (fun e => hne (by rw [e]; rfl))
  refine ⟨b, off, hao, fun i r hr => ?_⟩
  rw [List.getElem?_map] at hr
  obtain ⟨e, he, rfl⟩ := Option.map_eq_some_iff.1 hr
  exact hh i e he
set_option maxRecDepth 100000 in
/-- Three lists of stamps, opened. -/
theorem open_stamped {r : Reach} {b0 : Nat} {v : Value} {d : DataW H} {p : List MemPlace} (hv : Value.okWide Try.prog w r b0 24 v) (h : DataW.Trod enc Try.prog w base spare held 24 v d p)
    (hB : Rows.uptoBulk d ≤ 1048576) :
    ∃ va vb vc A B C, v = .agg #[va, vb, vc] ∧ StampsAt w va A ∧ StampsAt w vb B ∧ StampsAt w vc C ∧ A.length + B.length + C.length ≤ 90000 := by
  obtain ⟨cs, rfl, hsz⟩ := okWide_struct Try.underlying24 hv
  rw [Try.cells_stamped] at hsz
  obtain ⟨fuel, hf⟩ := h
  obtain ⟨zs, n, rfl, hx, hlen, hxs, hfl⟩ := DataW.trod_struct Try.underlying24 hf
  simp only [Prod.mk.injEq] at hx
  obtain ⟨rfl, _⟩ := hx
  obtain ⟨l⟩ := cs
  match l, hsz with
  | [v0, v1, v2], _ =>
    have f0 := hfl 0 _ rfl
    have f1 := hfl 1 _ rfl
    have f2 := hfl 2 _ rfl
    match zs, hxs with
    | [y0, y1, y2], _ =>
      simp [Try.cells_stamps, Value.cells] at f0 f1 f2
      obtain ⟨va, A, e0, n0, h0⟩ := open_stampl f0
      obtain ⟨vb, B, e1, n1, h1⟩ := open_stampl f1
      obtain ⟨vc, C, e2, n2, h2⟩ := open_stampl f2
      simp only [List.cons.injEq, and_true] at e0 e1 e2
      subst e0 e1 e2
      simp only [Rows.uptoBulk, Rows.uptoBulkAll, List.map_cons, List.map_nil] at hB
      exact ⟨v0, v1, v2, A, B, C, rfl, h0 (by omega), h1 (by omega), h2 (by omega), by omega⟩
end
end Go.Proofs.Ytmjbaficdoehfaa
