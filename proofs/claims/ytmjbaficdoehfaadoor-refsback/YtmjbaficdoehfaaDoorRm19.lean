/-
  RULES AND NAMES OPENED: what a reading of a Mapped says of memory, and how much it weighs; the greatest length of an index out of the world's shape.
-/
import Derived.Test.YtmjbaficdoehfaaDoorOxRows
import Derived.Test.YtmjbaficdoehfaaDoorRm7
import Derived.Test.YtmjbaficdoehfaaDoorRm5
import Derived.Test.YtmjbaficdoehfaaDoorRm3
import Derived.Shelf.Vars
namespace Go.Proofs.YtmjbaficdoehfaaDoor
open Go.ChangeShapes Go.WideShapes Go.ChangeAt Go.RowKit Go.Deep

instance : Inhabited RuleL := ⟨⟨[], [], false, false⟩⟩
theorem Tryd.cells_strR : Tryd.prog.cellsOf 9 = 1 := by kernel_rfl
theorem Tryd.bytes_strR : Tryd.prog.bytesOf 9 = 16 := by kernel_rfl
theorem Tryd.cells_boolR : Tryd.prog.cellsOf 4 = 1 := by kernel_rfl
theorem Tryd.cells_rule : Tryd.prog.cellsOf 37 = 4 := by kernel_rfl
theorem Tryd.bytes_rule : Tryd.prog.bytesOf 37 = 40 := by kernel_rfl
theorem Tryd.cells_rules : Tryd.prog.cellsOf 22 = 1 := by kernel_rfl
theorem Tryd.cells_strs : Tryd.prog.cellsOf 23 = 1 := by kernel_rfl
theorem Tryd.cells_mapped : Tryd.prog.cellsOf 25 = 2 := by kernel_rfl
theorem four_cut {α : Type} (cs : List α) (h : cs.length = 4) : cs = cs.take 1 ++ ((cs.drop 1).take 1 ++ ((cs.drop 2).take 1 ++ (cs.drop 3).take 1)) := by
  match cs, h with
  | [_, _, _, _], _ => rfl
section
variable {H : Type} {enc : TypeId × Value → H} {w : World} {base : Nat} {spare : Nat → Bool} {held : Bool} {fuel : Nat} {cs : List Value} {x : DataW H × List MemPlace}
theorem open_strU (h : DataW.trod enc Tryd.prog w base spare held fuel 9 cs = some x) : ∃ xs : List Int, cs = [.string (strOfNums xs)] ∧ (Octs xs ∧ ∀ B, (DataW.weights Tryd.prog 9 x.1).all (· ≤ B) = true → xs.length ≤ B) ∧ xs.length ≤ Rows.uptoBulk x.1 := by
  obtain ⟨s, e, rfl, _⟩ := DataW.trod_string Tryd.underlying9 h
  refine ⟨numsOf s, by rw [nums_str]; exact e, ⟨nums_octs s, fun B hB => ?_⟩, ?_⟩
  · simp only [DataW.weights] at hB
    simpa [numsOf] using hB
  · simp [Rows.uptoBulk, numsOf]
theorem open_boolR (h : DataW.trod enc Tryd.prog w base spare held fuel 4 cs = some x) : ∃ b : Bool, cs = [.bool b] := by
  obtain ⟨b, e, _⟩ := DataW.trod_bool Tryd.underlying4 h
  exact ⟨b, e⟩
theorem open_rule (h : DataW.trod enc Tryd.prog w base spare held fuel 37 cs = some x) : ∃ r : RuleL, cs = r.row ∧ ((DataW.weights Tryd.prog 37 x.1).all (· ≤ 140737488351232) = true → r.Good) ∧ r.src.length + r.dst.length ≤ Rows.uptoBulk x.1 := by
  obtain ⟨zs, n, rfl, rfl, hlen, hxs, hfl⟩ := DataW.trod_struct Tryd.underlying37 h
  rw [Tryd.cells_rule] at hlen
  have f0 := hfl 0 _ rfl
  have f1 := hfl 1 _ rfl
  have f2 := hfl 2 _ rfl
  have f3 := hfl 3 _ rfl
  match zs, hxs with
  | [y0, y1, y2, y3], _ =>
    simp [Tryd.cells_strR, Tryd.cells_boolR] at f0 f1 f2 f3
    obtain ⟨a, e0, ⟨o0, k0⟩, b0⟩ := open_strU f0
    obtain ⟨b, e1, ⟨o1, k1⟩, b1⟩ := open_strU f1
    obtain ⟨c, e2⟩ := open_boolR f2
    obtain ⟨d, e3⟩ := open_boolR f3
    have hc := four_cut cs hlen
    rw [List.drop_one] at hc
    rw [e0, e1, e2, e3] at hc
    refine ⟨⟨a, b, c, d⟩, hc, fun hB => ?_, ?_⟩
    · simp only [DataW.weights, Tryd.underlying37, DataW.weightsEach, List.map_cons, List.map_nil, List.append_nil, List.all_append, Bool.and_eq_true] at hB
      have h0 := k0 _ hB.1
      have h1 := k1 _ hB.2.1
      exact ⟨o0, o1, by show a.length ≤ _; omega, by show b.length ≤ _; omega⟩
    · simp only [Rows.uptoBulk, Rows.uptoBulkAll, List.map_cons, List.map_nil]
      omega
theorem open_rules (h : DataW.trod enc Tryd.prog w base spare held fuel 22 cs = some x) : ∃ v rs, cs = [v] ∧ ((DataW.weights Tryd.prog 22 x.1).all (· ≤ 140737488351232) = true → RulesAt w v rs ∧ ∀ r, r ∈ rs → r.Good) ∧ ∀ r, r ∈ rs → r.src.length + r.dst.length ≤ Rows.uptoBulk x.1 := by
  obtain ⟨ao, cap, ls, rfl, h1, h0, hc, hB, hU⟩ := open_rowlU RuleL.row RuleL.Good (fun r => r.src.length + r.dst.length) 140737488351232 Tryd.underlying22 Tryd.cells_rule (by decide) h (fun _ _ _ => open_rule)
  rw [Tryd.bytes_rule] at hB
  refine ⟨_, ls, rfl, fun hb => ⟨⟨ao, cap, by rw [List.length_map], by rw [List.length_map]; exact h1, h0, by rw [List.length_map]; have := (hB hb).1; omega, fun hne => ?_⟩, (hB hb).2⟩, hU⟩
  obtain ⟨b, off, hao, hh⟩ := hc (by simpa using hne)
  refine ⟨b, off, hao, fun i r hr => ?_⟩
  rw [List.getElem?_map] at hr
  obtain ⟨e, he, rfl⟩ := Option.map_eq_some_iff.1 hr
  exact hh i e he
theorem open_strs (h : DataW.trod enc Tryd.prog w base spare held fuel 23 cs = some x) : ∃ v L, cs = [v] ∧ ((DataW.weights Tryd.prog 23 x.1).all (· ≤ 140737488351232) = true → StrsAt w v L ∧ ∀ p, p ∈ L → Octs p ∧ p.length ≤ 140737488351232) ∧ ∀ p, p ∈ L → p.length ≤ Rows.uptoBulk x.1 := by
  obtain ⟨ao, cap, ls, rfl, h1, h0, hc, hB, hU⟩ := open_rowlU (fun p : List Int => [.string (strOfNums p)]) (fun p => Octs p ∧ p.length ≤ 140737488351232) (fun p => p.length) 140737488351232 Tryd.underlying23 Tryd.cells_strR (by decide) h (fun _ _ _ h => by
    obtain ⟨a, e0, ⟨o0, k0⟩, b0⟩ := open_strU h
    exact ⟨a, e0, fun hb => ⟨o0, k0 _ hb⟩, b0⟩)
  rw [Tryd.bytes_strR] at hB
  refine ⟨_, ls, rfl, fun hb => ⟨⟨ao, cap, rfl, h1, h0, fun hne => ?_⟩, (hB hb).2⟩, hU⟩
  obtain ⟨b, off, hao, hh⟩ := hc hne
  refine ⟨b, off, hao, fun i p hp => ?_⟩
  have := hh i p hp 0 _ rfl
  simpa using this
set_option maxRecDepth 100000 in
/-- Rules and names, opened. -/
theorem open_mapped {r : Reach} {b0 : Nat} {v : Value} {d : DataW H} {p : List MemPlace} (hv : Value.okWide Tryd.prog w r b0 25 v) (h : DataW.Trod enc Tryd.prog w base spare held 25 v d p)
    (hB : (DataW.weights Tryd.prog 25 d).all (· ≤ 140737488351232) = true) :
    ∃ rv nv rs L, v = .agg #[rv, nv] ∧ RulesAt w rv rs ∧ StrsAt w nv L ∧ (∀ r, r ∈ rs → r.Good) ∧ (∀ p, p ∈ L → Octs p ∧ p.length ≤ 140737488351232) ∧ (∀ r, r ∈ rs → r.src.length + r.dst.length ≤ Rows.uptoBulk d) ∧ ∀ p, p ∈ L → p.length ≤ Rows.uptoBulk d := by
  obtain ⟨cs, rfl, hsz⟩ := okWide_struct Tryd.underlying25 hv
  rw [Tryd.cells_mapped] at hsz
  obtain ⟨fuel, hf⟩ := h
  obtain ⟨zs, n, rfl, hx, hlen, hxs, hfl⟩ := DataW.trod_struct Tryd.underlying25 hf
  simp only [Prod.mk.injEq] at hx
  obtain ⟨rfl, _⟩ := hx
  obtain ⟨l⟩ := cs
  match l, hsz with
  | [v0, v1], _ =>
    have f0 := hfl 0 _ rfl
    have f1 := hfl 1 _ rfl
    match zs, hxs with
    | [y0, y1], _ =>
      simp [Tryd.cells_rules, Tryd.cells_strs, Value.cells] at f0 f1
      simp only [DataW.weights, Tryd.underlying25, DataW.weightsEach, List.map_cons, List.map_nil, List.append_nil, List.all_append, Bool.and_eq_true] at hB
      obtain ⟨rv, rs, e0, h0, u0⟩ := open_rules f0
      obtain ⟨nv, L, e1, h1, u1⟩ := open_strs f1
      simp only [List.cons.injEq, and_true] at e0 e1
      subst e0 e1
      refine ⟨v0, v1, rs, L, rfl, (h0 hB.1).1, (h1 hB.2).1, (h0 hB.1).2, (h1 hB.2).2, fun r hr => ?_, fun p hp => ?_⟩
      · have := u0 r hr
        simp only [Rows.uptoBulk, Rows.uptoBulkAll, List.map_cons, List.map_nil]
        omega
      · have := u1 p hp
        simp only [Rows.uptoBulk, Rows.uptoBulkAll, List.map_cons, List.map_nil]
        omega
end
/-- A global integer, out of the world's shape. -/
theorem int_of_shaped {P : Program} {w : World} {g : Nat} (t : TypeId) (u0 : TypeId)
    (h : w.ShapedOpen P) (hg : g < P.globals.size) (h0 : (((begin P (fun _ _ => 0) default).world.heap[g]?).bind Obj.row?).map (fun p => (p.1.size, p.2)) = some (1, t))
    (hb : P.buildable t = true) (hc : P.cellTypes P.depth t = some [u0]) (hu : P.underlying u0 = some (.int .i64)) : ∃ m : Int, w.cell? ⟨g, 0, none⟩ = some (.int .i64 m) := by
  obtain ⟨⟨zero, t'⟩, h0', he⟩ := Option.map_eq_some_iff.1 h0
  obtain ⟨hz, rfl⟩ := Prod.mk.injEq .. ▸ he
  obtain ⟨cs, hh, hs, hr⟩ := h.1 g zero _ hg h0'
  obtain ⟨ts', hts, _, hall⟩ := hr hb
  rw [hc] at hts
  cases hts
  have hz2 : zero.size = 1 := hz
  have h1 : 0 < cs.size := by omega
  obtain ⟨u, hu', hok⟩ := hall 0 cs[0] (by simp [h1])
  have hcell : w.cell? ⟨g, 0, none⟩ = some cs[0] := by simp [World.cell?, hh, h1]
  rw [hcell]
  unfold Cell.ok at hok
  obtain rfl : u0 = u := by simpa using hu'
  rw [hu] at hok
  cases hv : cs[0] <;> rw [hv] at hok <;> simp at hok
  case int k' z =>
    obtain ⟨rfl, _⟩ := hok
    exact ⟨z, rfl⟩
theorem maxW_of_shaped {w : World} (h : w.ShapedOpen Tryd.prog) : MaxW w :=
  int_of_shaped (g := 2) 3 3 h (of_decide_eq_true (by kernel_rfl)) (by kernel_rfl) (by kernel_rfl) (by kernel_rfl) Tryd.underlying3
end Go.Proofs.YtmjbaficdoehfaaDoor
