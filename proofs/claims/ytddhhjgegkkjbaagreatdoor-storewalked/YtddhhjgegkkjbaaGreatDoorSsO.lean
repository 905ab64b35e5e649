/-
  A SET OPENED: what a reading of a StoreSet says of memory; and the two tables of UTF-8 out of the world's shape.
-/
import Derived.Test.YtddhhjgegkkjbaaGreatDoorFl1
import Derived.Test.YtddhhjgegkkjbaaGreatDoorRt1
import Derived.Shelf.Vars
namespace Go.Proofs.YtddhhjgegkkjbaaGreatDoor
open Go.ChangeShapes Go.WideShapes Go.ChangeAt Go.RowKit Go.Deep

theorem Tryz.bytes_bl : Tryz.prog.bytesOf 37 = 24 := by kernel_rfl
theorem Tryz.cells_bl : Tryz.prog.cellsOf 37 = 1 := by kernel_rfl
theorem Tryz.cells_lists : Tryz.prog.cellsOf 22 = 1 := by kernel_rfl
theorem Tryz.bytes_intR : Tryz.prog.bytesOf 3 = 8 := by kernel_rfl
theorem Tryz.cells_ints : Tryz.prog.cellsOf 23 = 1 := by kernel_rfl
theorem Tryz.cells_set : Tryz.prog.cellsOf 25 = 3 := by kernel_rfl
/-- A list in a list. -/
structure SlE where
  ao : Option Addr
  cap : Nat
  b : List Int
instance : Inhabited SlE := ⟨⟨none, 0, []⟩⟩
section
variable {H : Type} {enc : TypeId × Value → H} {w : World} {base : Nat} {spare : Nat → Bool} {held : Bool} {fuel : Nat} {cs : List Value} {x : DataW H × List MemPlace}
theorem open_lists (h : DataW.trod enc Tryz.prog w base spare held fuel 22 cs = some x) : ∃ v L, cs = [v] ∧ ((DataW.weights Tryz.prog 22 x.1).all (· ≤ 140737488351232) = true → LsAt w v L) := by
  obtain ⟨ao, cap, ls, rfl, h1, h0, hc, hB⟩ := open_rowl (fun y : SlE => [.slice y.ao y.b.length y.cap]) (fun y => BytesAt w (.slice y.ao y.b.length y.cap) y.b ∧ Octs y.b ∧ y.b.length ≤ 140737488351232) 140737488351232 Tryz.underlying22 Tryz.cells_bl (by decide) h (fun _ _ _ h => by
    obtain ⟨ao, cap', ys, rfl, h1, h2, h3, _⟩ := open_bytes h
    exact ⟨⟨ao, cap', ys⟩, rfl, fun hb => ⟨h1, h2, h3 _ hb⟩⟩)
  rw [Tryz.bytes_bl] at hB
  refine ⟨_, ls.map (·.b), rfl, fun hb => ⟨ao, cap, by rw [List.length_map], by rw [List.length_map]; have := (hB hb).1; omega, fun xs hx => ?_, fun hne => ?_⟩⟩
  · obtain ⟨y, hy, rfl⟩ := List.mem_map.1 hx
    exact ((hB hb).2 y hy).2
  · obtain ⟨b, off, rfl, hh⟩ := hc (fun e => hne (by rw [e]; rfl))
    refine ⟨b, off, rfl, fun i xs hi => ?_⟩
    rw [List.getElem?_map] at hi
    obtain ⟨y, hy, rfl⟩ := Option.map_eq_some_iff.1 hi
    refine ⟨.slice y.ao y.b.length y.cap, ?_, ((hB hb).2 y (List.mem_of_getElem? hy)).1⟩
    have := hh i y hy 0 _ rfl
    simpa using this
theorem open_numbers (h : DataW.trod enc Tryz.prog w base spare held fuel 23 cs = some x) : ∃ v G, cs = [v] ∧ ((DataW.weights Tryz.prog 23 x.1).all (· ≤ 140737488351232) = true → NsAt w v G) := by
  obtain ⟨ao, cap, ls, rfl, h1, h0, hc, hB⟩ := open_rowl (fun z : Int => [.int .i64 z]) (fun z => -9223372036854775808 ≤ z ∧ z ≤ 9223372036854775807) 140737488351232 Tryz.underlying23 Tryz.cells_int (by decide) h (fun _ _ _ h => by
    obtain ⟨z, h1, h2⟩ := open_int h
    exact ⟨z, h1, fun _ => h2⟩)
  rw [Tryz.bytes_intR] at hB
  refine ⟨_, ls, rfl, fun hb => ⟨ao, cap, rfl, by have := (hB hb).1; omega, (hB hb).2, fun hne => ?_⟩⟩
  obtain ⟨b, off, rfl, hh⟩ := hc hne
  refine ⟨b, off, rfl, fun i z hi => ?_⟩
  have := hh i z hi 0 _ rfl
  simpa using this
set_option maxRecDepth 100000 in
/-- A set, opened. -/
theorem open_set {r : Reach} {b0 : Nat} {v : Value} {d : DataW H} {p : List MemPlace} (hv : Value.okWide Tryz.prog w r b0 25 v) (h : DataW.Trod enc Tryz.prog w base spare held 25 v d p)
    (hB : (DataW.weights Tryz.prog 25 d).all (· ≤ 140737488351232) = true) :
    ∃ ev gv nn L G, v = .agg #[ev, gv, .int .i64 nn] ∧ LsAt w ev L ∧ NsAt w gv G ∧ -9223372036854775808 ≤ nn ∧ nn ≤ 9223372036854775807 := by
  obtain ⟨cs, rfl, hsz⟩ := okWide_struct Tryz.underlying25 hv
  rw [Tryz.cells_set] at hsz
  obtain ⟨fuel, hf⟩ := h
  obtain ⟨zs, n, rfl, hx, hlen, hxs, hfl⟩ := DataW.trod_struct Tryz.underlying25 hf
  simp only [Prod.mk.injEq] at hx
  obtain ⟨rfl, _⟩ := hx
  obtain ⟨l⟩ := cs
  match l, hsz with
  | [v0, v1, v2], _ =>
    have f0 := hfl 0 _ rfl
    have f1 := hfl 1 _ rfl
    have f2 := hfl 2 _ rfl
    match zs, hxs with
    | [y0, y1, y2], _ =>
      simp [Tryz.cells_int, Tryz.cells_lists, Tryz.cells_ints, Value.cells] at f0 f1 f2
      simp only [DataW.weights, Tryz.underlying25, DataW.weightsEach, List.map_cons, List.map_nil, List.append_nil, List.all_append, Bool.and_eq_true] at hB
      obtain ⟨ev, L, e0, h0⟩ := open_lists f0
      obtain ⟨gv, G, e1, h1⟩ := open_numbers f1
      obtain ⟨nn, e2, h2⟩ := open_int f2
      simp only [List.cons.injEq, and_true] at e0 e1 e2
      subst e0 e1 e2
      exact ⟨v0, v1, nn, L, G, rfl, h0 hB.1, h1 hB.2.1, h2⟩
end
/-- A global row of bytes, out of the world's shape. -/
theorem bytes_of_shaped {P : Program} {w : World} {g n : Nat} (t : TypeId) (m : Nat) (u0 : TypeId)
    (h : w.ShapedOpen P) (hg : g < P.globals.size) (h0 : (((begin P (fun _ _ => 0) default).world.heap[g]?).bind Obj.row?).map (fun p => (p.1.size, p.2)) = some (n, t))
    (hb : P.buildable t = true) (hc : P.cellTypes P.depth t = some (List.replicate m u0)) (hu : P.underlying u0 = some (.int .u8)) :
    ∃ f : Nat → Nat, (∀ i, f i < 256) ∧ ∀ i, i < n → w.cell? ⟨g, i, none⟩ = some (.int .u8 (f i : Nat)) := by
  obtain ⟨⟨zero, t'⟩, h0', he⟩ := Option.map_eq_some_iff.1 h0
  obtain ⟨rfl, rfl⟩ := Prod.mk.injEq .. ▸ he
  obtain ⟨cs, hh, hs, hr⟩ := h.1 g zero _ hg h0'
  obtain ⟨ts', hts, _, hall⟩ := hr hb
  rw [hc] at hts
  cases hts
  have key : ∀ i, i < zero.size → ∃ m : Nat, m < 256 ∧ w.cell? ⟨g, i, none⟩ = some (.int .u8 (m : Nat)) := fun i hi => by
    have h1 : i < cs.size := by omega
    obtain ⟨u, hu', hok⟩ := hall i cs[i] (by simp [h1])
    have hcell : w.cell? ⟨g, i, none⟩ = some cs[i] := by simp [World.cell?, hh, h1]
    rw [hcell]
    unfold Cell.ok at hok
    rw [(List.mem_replicate.1 (List.mem_of_getElem? hu')).2, hu] at hok
    cases hv : cs[i] <;> rw [hv] at hok <;> simp at hok
    case int k' z =>
      obtain ⟨rfl, h2⟩ := hok
      have h3 : 0 ≤ z ∧ z ≤ 255 := by simpa [IntKind.has, IntKind.min, IntKind.max, IntKind.bits, IntKind.signed] using h2
      exact ⟨z.toNat, by omega, by rw [Int.toNat_of_nonneg h3.1]⟩
  refine ⟨fun i => if hi : i < zero.size then (key i hi).choose else 0, fun i => ?_, fun i hi => ?_⟩
  · show (if hi : i < zero.size then (key i hi).choose else 0) < 256
    by_cases hi : i < zero.size
    · rw [dif_pos hi]
      exact (key i hi).choose_spec.1
    · rw [dif_neg hi]
      decide
  · show _ = some (Value.int .u8 ((if hi : i < zero.size then (key i hi).choose else 0 : Nat) : Int))
    rw [dif_pos hi]
    exact (key i hi).choose_spec.2
/-- The two tables lie in memory, whatever they hold. -/
theorem tabs_of_shaped {w : World} (h : w.ShapedOpen Tryz.prog) : ∃ T : FT, FTat T w := by
  obtain ⟨f, hf, h1⟩ := bytes_of_shaped (g := 3) (n := 256) 188 256 5 h (of_decide_eq_true (by kernel_rfl)) (by kernel_rfl) (by kernel_rfl) (by kernel_rfl) Tryz.underlying5
  obtain ⟨q, _, h2⟩ := bytes_of_shaped (g := 4) (n := 32) 191 32 5 h (of_decide_eq_true (by kernel_rfl)) (by kernel_rfl) (by kernel_rfl) (by kernel_rfl) Tryz.underlying5
  exact ⟨⟨f, fun i => q (i * 2), fun i => q (i * 2 + 1), hf⟩, h1, fun i hi => h2 (i * 2) (by omega), fun i hi => h2 (i * 2 + 1) (by omega)⟩
end Go.Proofs.YtddhhjgegkkjbaaGreatDoor
