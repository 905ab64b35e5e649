/-
  ASKS OPENED: what a reading of them says of memory (their names).
-/
import Derived.Test.YtmambfdfkobjgaaGreatDoorConv
import Derived.Test.YtmambfdfkobjgaaGreatDoorNx0
namespace Go.Proofs.YtmambfdfkobjgaaGreatDoor
open Go.ChangeShapes Go.WideShapes Go.ChangeAt Go.RowKit Go.Deep

/-- A string's bytes aks numbers. -/
def numsOf (s : ByteArray) : List Int := s.data.toList.map fun b => (b.toNat : Int)
theorem nums_str (s : ByteArray) : strOfNums (numsOf s) = s := by
  have e : (numsOf s).map (fun n => UInt8.ofNat n.toNat) = s.data.toList := by
    unfold numsOf
    rw [List.map_map]
    conv => rhs; rw [← List.map_id s.data.toList]
    exact List.map_congr_left fun b _ => by simp
  show (⟨((numsOf s).map fun n => UInt8.ofNat n.toNat).toArray⟩ : ByteArray) = s
  rw [e]
theorem nums_octs (s : ByteArray) : Octs (numsOf s) := fun u hu => by
  obtain ⟨b, _, rfl⟩ := List.mem_map.1 hu
  have := b.toNat_lt
  omega

theorem Tryz.cells_ask : Tryz.prog.cellsOf 41 = 79 := by kernel_rfl
theorem Tryz.bytes_ask : Tryz.prog.bytesOf 41 = 296 := by kernel_rfl
theorem Tryz.cells_asks : Tryz.prog.cellsOf 24 = 1 := by kernel_rfl
theorem Tryz.cells_askl : Tryz.prog.cellsOf 22 = 1 := by kernel_rfl
theorem Tryz.cells_str : Tryz.prog.cellsOf 9 = 1 := by kernel_rfl

section
variable {H : Type} {enc : TypeId × Value → H} {w : World} {base : Nat} {spare : Nat → Bool} {held : Bool} {fuel : Nat} {cs : List Value} {x : DataW H × List MemPlace}
set_option maxRecDepth 100000 in
/-- One Ask, opened: its wish and its name. -/
theorem open_ask1 (h : DataW.trod enc Tryz.prog w base spare held fuel 41 cs = some x) :
    ∃ a : AskN, cs = a.row ∧ ((DataW.weights Tryz.prog 41 x.1).all (· ≤ 140737488351232) = true → a.Good) := by
  obtain ⟨zs, n, rfl, rfl, hlen, hxs, hfl⟩ := DataW.trod_struct Tryz.underlying41 h
  rw [Tryz.cells_ask] at hlen
  have f0 := hfl 0 _ rfl
  have f3 := hfl 3 _ rfl
  match zs, hxs with
  | [y0, y1, y2, y3], _ =>
    simp [Tryz.cells_str, Tryz.cells_int] at f0 f3
    obtain ⟨s, e3, rfl, _⟩ := DataW.trod_string Tryz.underlying9 f3
    obtain ⟨a0, e0, rfl, w0⟩ := DataW.trod_int Tryz.underlying3 f0
    refine ⟨⟨cs, a0, numsOf s⟩, rfl, fun hB => ⟨hlen, ?_, ?_, nums_octs s, ?_⟩⟩
    · have := congrArg (·[0]?) e0
      simpa [List.getElem?_take] using this
    · show cs[78]? = some (.string (strOfNums (numsOf s)))
      rw [nums_str]
      have := congrArg (·[0]?) e3
      simpa [List.getElem?_take, List.getElem?_drop] using this
    · simp only [DataW.weights, Tryz.underlying41, DataW.weightsEach, List.map_cons, List.map_nil, List.append_nil, List.all_append, Bool.and_eq_true] at hB
      have := hB.2.2.2
      simpa [numsOf] using this

theorem weights_each (e : TypeId) (l : List (DataW H)) (B : Nat) (h : (DataW.weightsAll Tryz.prog e l).all (· ≤ B) = true) : ∀ d, d ∈ l → (DataW.weights Tryz.prog e d).all (· ≤ B) = true := by
  induction l with
  | nil => intro d hd; simp at hd
  | cons a l ih =>
    intro d hd
    simp only [DataW.weightsAll, List.all_append, Bool.and_eq_true] at h
    rcases List.mem_cons.1 hd with rfl | hd
    · exact h.1
    · exact ih h.2 d hd

set_option maxRecDepth 100000 in
/-- The asks, opened. -/
theorem open_asks {r : Reach} {b0 : Nat} {v : Value} {d : DataW H} {p : List MemPlace} (hv : Value.okWide Tryz.prog w r b0 24 v) (h : DataW.Trod enc Tryz.prog w base spare held 24 v d p)
    (hB : (DataW.weights Tryz.prog 24 d).all (· ≤ 140737488351232) = true) :
    ∃ u aks, v = .agg #[u] ∧ AsksAt w u aks ∧ (∀ a, a ∈ aks → a.Good) := by
  obtain ⟨vs, rfl, hsz⟩ := okWide_struct Tryz.underlying24 hv
  rw [Tryz.cells_asks] at hsz
  obtain ⟨fuel, hf0⟩ := h
  obtain ⟨zs, n, rfl, hx, hlen, hxs, hfl⟩ := DataW.trod_struct Tryz.underlying24 hf0
  simp only [Prod.mk.injEq] at hx
  obtain ⟨rfl, _⟩ := hx
  obtain ⟨l⟩ := vs
  match l, hsz with
  | [u], _ =>
    have hf := hfl 0 _ rfl
    match zs, hxs with
    | [y0], _ =>
      simp [Tryz.cells_askl, Value.cells] at hf
      simp only [DataW.weights, Tryz.underlying24, DataW.weightsEach, List.map_cons, List.map_nil, List.append_nil] at hB
      rcases open_slice Tryz.underlying22 hf with ⟨hx, he⟩ | ⟨a, len, cap, m, n, D, Pl, hx, _, hl, hm, hmm, he, hel⟩
      · simp at hx
        subst hx
        exact ⟨_, [], rfl, ⟨none, 0, rfl, Nat.zero_le _, fun e => absurd rfl e⟩, fun o ho => by simp at ho⟩
      · simp at hx
        subst hx
        have hlm : len ≤ m := by rw [hmm]; split <;> omega
        have hop : ∀ i, i < len → ∃ o : AskN, w.cells? base (a.add (i * 79)) 79 = some o.row ∧ ((DataW.weights Tryz.prog 41 (D i)).all (· ≤ 140737488351232) = true → o.Good) := by
          intro i hi
          obtain ⟨cs', hc, ht⟩ := hel i (by omega)
          rw [Tryz.cells_ask] at hc
          obtain ⟨o, rfl, hg⟩ := open_ask1 ht
          exact ⟨o, hc, hg⟩
        have : Inhabited AskN := ⟨⟨[], 0, []⟩⟩
        obtain ⟨O, hO⟩ := choose_lt hop
        have hlen : ((List.range len).map O).length = len := by simp
        subst he
        simp only [DataW.weights, Tryz.underlying22, Tryz.bytes_ask, List.all_cons, List.all_append, Bool.and_eq_true, decide_eq_true_eq, List.length_map, List.length_range] at hB
        obtain ⟨hB1, hB2, _⟩ := hB
        refine ⟨_, (List.range len).map O, rfl, ?_, ?_⟩
        · refine ⟨some a, cap, by rw [hlen], by rw [hlen]; omega, fun hne => ?_⟩
          have hpos : 0 < len := by
            rcases Nat.eq_zero_or_pos len with h0 | h0
            · subst h0; simp at hne
            · exact h0
          obtain ⟨b, off, spot⟩ := a
          have hl0 := (World.cells?_some (hO 0 hpos).1)
          have hspot : spot = none := by
            have h1 := hl0.2.2 0 (by decide)
            have hg0 : (O 0).row.length = 79 := hl0.2.1
            obtain ⟨c0, hc0⟩ : ∃ c, (O 0).row[0]? = some c := ⟨(O 0).row[0], List.getElem?_eq_getElem (by omega)⟩
            rw [hc0] at h1
            simpa [Addr.add] using World.cell?_spot h1
          subst hspot
          refine ⟨b, off, rfl, fun i o ho => ?_⟩
          have hi : i < len := by have := (List.getElem?_eq_some_iff.1 ho).1; omega
          have eo : O i = o := by simpa [hi] using ho
          have hc := World.cells?_some (hO i hi).1
          rw [eo] at hc
          intro j c hj
          have hj79 : j < 79 := by have := (List.getElem?_eq_some_iff.1 hj).1; have := hc.2.1; omega
          have h1 := hc.2.2 j hj79
          rw [hj] at h1
          simpa [Addr.add_mid] using h1
        · intro o ho
          simp only [List.mem_map, List.mem_range] at ho
          obtain ⟨i, hi, rfl⟩ := ho
          exact (hO i hi).2 (weights_each _ _ _ hB2 _ (List.mem_map.2 ⟨i, List.mem_range.2 (by omega), rfl⟩))
end
end Go.Proofs.YtmambfdfkobjgaaGreatDoor
