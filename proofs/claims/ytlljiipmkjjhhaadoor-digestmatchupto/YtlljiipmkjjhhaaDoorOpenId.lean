/-
  IDS OPENED: what a reading of an id, of a list of ids, of an Ids says of memory.
-/
import Derived.Test.YtlljiipmkjjhhaaDoorOpenB
import Derived.Test.YtlljiipmkjjhhaaDoorShort2
namespace Go.Proofs.YtlljiipmkjjhhaaDoor
open Go.ChangeShapes Go.WideShapes Go.ChangeAt Go.RowKit Go.Deep

theorem Tryd.cells_id : Tryd.prog.cellsOf 24 = 32 := by kernel_rfl
theorem Tryd.cells_idl : Tryd.prog.cellsOf 22 = 1 := by kernel_rfl
theorem Tryd.cells_ids : Tryd.prog.cellsOf 27 = 34 := by kernel_rfl

section
variable {H : Type} {enc : TypeId × Value → H} {w : World} {base : Nat} {spare : Nat → Bool} {held : Bool} {fuel : Nat} {cs : List Value} {x : DataW H × List MemPlace}

theorem u8_wf {n : Int} (h : (Lit.int .u8 n).wf = true) : 0 ≤ n ∧ n ≤ 255 := by
  have e1 : IntKind.u8.min = 0 := rfl
  have e2 : IntKind.u8.max = 255 := rfl
  simp only [Lit.wf, Bool.and_eq_true, decide_eq_true_eq, e1, e2] at h
  omega

/-- An id, opened. -/
theorem open_id (h : DataW.trod enc Tryd.prog w base spare held fuel 24 cs = some x) : ∃ bs : List Int, cs = bs.map (Value.int .u8) ∧ GoodID bs := by
  obtain ⟨xs, m, rfl, rfl, hlen, hxs, hel⟩ := DataW.trod_array Tryd.underlying24 h
  rw [Tryd.cells_id] at hlen
  have hop : ∀ i, i < 32 → ∃ a : Int, cs[i]? = some (.int .u8 a) ∧ 0 ≤ a ∧ a ≤ 255 := by
    intro i hi
    have h1 := hel i hi
    rw [Tryd.cells_u8, Nat.mul_one, List.getElem?_eq_getElem (show i < xs.length by omega)] at h1
    obtain ⟨a, e, _, hw⟩ := DataW.trod_int Tryd.underlying5 h1
    refine ⟨a, ?_, u8_wf hw⟩
    rw [List.drop_eq_getElem_cons (show i < cs.length by omega)] at e
    simp only [List.take_succ_cons, List.take_zero, List.cons.injEq, and_true] at e
    rw [List.getElem?_eq_getElem (show i < cs.length by omega), e]
  obtain ⟨A, hA⟩ := choose_lt hop
  refine ⟨(List.range 32).map A, ?_, by simp, ?_⟩
  · refine List.ext_getElem? fun i => ?_
    by_cases hi : i < 32
    · rw [(hA i hi).1]
      simp [hi]
    · rw [List.getElem?_eq_none (by omega), List.getElem?_eq_none (by simp; omega)]
  · intro u hu
    simp only [List.mem_map, List.mem_range] at hu
    obtain ⟨i, hi, rfl⟩ := hu
    have := (hA i hi).2
    omega

theorem bulk_many (c : Nat) (l : List (DataW H)) (h : ∀ d, d ∈ l → c ≤ Rows.uptoBulk d) : c * l.length ≤ Rows.uptoBulkAll l := by
  induction l with
  | nil => simp
  | cons d r ih =>
    have h1 := h d (by simp)
    have h2 := ih fun x hx => h x (by simp [hx])
    rw [List.length_cons, Nat.mul_add]
    simp only [Rows.uptoBulkAll]
    omega
theorem open_id_bulk (h : DataW.trod enc Tryd.prog w base spare held fuel 24 cs = some x) : 33 ≤ Rows.uptoBulk x.1 := by
  obtain ⟨xs, m, rfl, rfl, hlen, hxs, hel⟩ := DataW.trod_array Tryd.underlying24 h
  simp only [Rows.uptoBulk]
  have h1 := bulk_length (xs.map (·.1))
  rw [List.length_map] at h1
  omega
set_option maxRecDepth 100000 in
/-- A list of ids, opened. -/
theorem open_idl (h : DataW.trod enc Tryd.prog w base spare held fuel 22 cs = some x) (hB : Rows.uptoBulk x.1 ≤ 140737488351232) :
    ∃ ao cap ids, cs = [.slice ao ids.length cap] ∧ IdsAt w (.slice ao ids.length cap) ids ∧ (∀ o, o ∈ ids → GoodID o) ∧ 33 * ids.length + 1 ≤ Rows.uptoBulk x.1 := by
  rcases open_slice Tryd.underlying22 h with ⟨rfl, rfl⟩ | ⟨a, len, cap, m, n, D, Pl, rfl, _, hl, hm, hmm, rfl, hel⟩
  · exact ⟨none, 0, [], rfl, ⟨none, 0, rfl, Nat.le_refl _, fun _ => rfl, by simp, fun e => absurd rfl e⟩, fun o ho => by simp at ho, by simp [Rows.uptoBulk]⟩
  · have hlm : len ≤ m := by rw [hmm]; split <;> omega
    have hop : ∀ i, i < len → ∃ o : List Int, w.cells? base (a.add (i * 32)) 32 = some (o.map (Value.int .u8)) ∧ GoodID o := by
      intro i hi
      obtain ⟨cs', hc, ht⟩ := hel i (by omega)
      rw [Tryd.cells_id] at hc
      obtain ⟨o, rfl, hg⟩ := open_id ht
      exact ⟨o, hc, hg⟩
    obtain ⟨O, hO⟩ := choose_lt hop
    have hlen : ((List.range len).map O).length = len := by simp
    have h1 := bulk_many 33 ((List.range len).map D) (fun d hd => by
      obtain ⟨i, hi, rfl⟩ := List.mem_map.1 hd
      have hi2 := List.mem_range.1 hi
      obtain ⟨cs', hc, ht⟩ := hel i (by omega)
      exact open_id_bulk ht)
    simp only [List.length_map, List.length_range] at h1
    simp only [Rows.uptoBulk] at hB
    refine ⟨some a, cap, (List.range len).map O, by rw [hlen], ?_, ?_, ?_⟩
    · refine ⟨some a, cap, rfl, by rw [hlen]; omega, fun e => by simp at e, ?_, fun hne => ?_⟩
      · rw [hlen]; omega
      · have hpos : 0 < len := by
          rcases Nat.eq_zero_or_pos len with h0 | h0
          · subst h0; simp at hne
          · exact h0
        obtain ⟨b, off, spot⟩ := a
        have hspot : spot = none := by
          have h1 := ((World.cells?_some (hO 0 hpos).1).2.2 0 (by decide))
          have h32 := (hO 0 hpos).2.1
          rw [List.getElem?_eq_getElem (by rw [List.length_map, h32]; decide)] at h1
          simpa [Addr.add] using World.cell?_spot h1
        subst hspot
        refine ⟨b, off, rfl, fun i o ho j v hv => ?_⟩
        have hi : i < len := by have := (List.getElem?_eq_some_iff.1 ho).1; omega
        have eo : O i = o := by simpa [hi] using ho
        have hc := World.cells?_some (hO i hi).1
        rw [eo] at hc
        have h32 := (hO i hi).2.1
        rw [eo] at h32
        have hj : j < 32 := by
          have := (List.getElem?_eq_some_iff.1 hv).1
          rw [List.length_map, h32] at this
          exact this
        have h0 := hc.2.2 j hj
        simp only [Addr.add_mid] at h0
        rw [h0]
        exact hv
    · intro o ho
      simp only [List.mem_map, List.mem_range] at ho
      obtain ⟨i, hi, rfl⟩ := ho
      exact (hO i hi).2
    · rw [hlen]
      simp only [Rows.uptoBulk]
      omega

set_option maxRecDepth 100000 in
/-- A list of ids, an id and a text, opened. -/
theorem open_ids {r : Reach} {b0 : Nat} {v : Value} {d : DataW H} {p : List MemPlace} (hv : Value.okWide Tryd.prog w r b0 27 v) (h : DataW.Trod enc Tryd.prog w base spare held 27 v d p) (hB : Rows.uptoBulk d ≤ 140737488351232) :
    ∃ ao c ids id cs0 po pc ps, v = .agg cs0 ∧ cs0[0]? = some (.slice ao ids.length c) ∧ (∀ j : Nat, j < 32 → cs0[1 + j]? = (id.map (Value.int .u8))[j]?) ∧ cs0[33]? = some (.slice po ps.length pc) ∧ IdsAt w (.slice ao ids.length c) ids ∧ (∀ o, o ∈ ids → GoodID o) ∧ GoodID id ∧
      BytesAt w (.slice po ps.length pc) ps ∧ Octs ps ∧ 33 * ids.length + ps.length ≤ Rows.uptoBulk d := by
  obtain ⟨cs, rfl, hsz⟩ := okWide_struct Tryd.underlying27 hv
  rw [Tryd.cells_ids] at hsz
  obtain ⟨fuel, hf⟩ := h
  obtain ⟨zs, n, rfl, hx, hlen, hxs, hfl⟩ := DataW.trod_struct Tryd.underlying27 hf
  simp only [Prod.mk.injEq] at hx
  obtain ⟨rfl, _⟩ := hx
  obtain ⟨l⟩ := cs
  match l, hsz with
  | v0 :: rest, hsz =>
    have hr : rest.length = 33 := by simpa using hsz
    have f0 := hfl 0 _ rfl
    have f1 := hfl 1 _ rfl
    have f2 := hfl 2 _ rfl
    match zs, hxs with
    | [y0, y1, y2], _ =>
      simp only [Rows.uptoBulk, Rows.uptoBulkAll, List.map_cons, List.map_nil] at hB
      simp [Tryd.cells_bytes, Tryd.cells_id, Tryd.cells_idl, Value.cells] at f0 f1 f2
      obtain ⟨ao, c, ids, e0, hb0, hg0, hk0⟩ := open_idl f0 (by omega)
      obtain ⟨id, e1, hgi⟩ := open_id f1
      obtain ⟨po, pc, ps, e2, hb2, ho2, _, hk2⟩ := open_bytes f2
      simp only [List.cons.injEq, and_true] at e0
      subst e0
      refine ⟨ao, c, ids, id, _, po, pc, ps, rfl, rfl, fun j hj => ?_, ?_, hb0, hg0, hgi, hb2, ho2, ?_⟩
      · rw [← e1]
        simp [Nat.add_comm 1 j, List.getElem?_take_of_lt hj]
      · have h := congrArg (fun l => l[0]?) e2
        simpa using h
      · simp only [Rows.uptoBulk, Rows.uptoBulkAll, List.map_cons, List.map_nil]
        omega
end
end Go.Proofs.YtlljiipmkjjhhaaDoor
