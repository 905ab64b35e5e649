/-
  A Text OPENED; the package's variables as the rows list them.
-/
import Derived.Test.YtdjfcackiclepaaDoorOpenB
import Derived.Test.YtdjfcackiclepaaDoorDCp
import Derived.Lib.LaidTab
import Derived.Stop.LaidErr
import Derived.LaidHandle
namespace Go.Proofs.YtdjfcackiclepaaDoor
open Go.ChangeShapes Go.WideShapes Go.ChangeAt Go.RowKit Go.Deep

theorem Tryd.cells_text : Tryd.prog.cellsOf 35 = 3 := by kernel_rfl
theorem Tryd.cells_ints : Tryd.prog.cellsOf 33 = 1 := by kernel_rfl

section
variable {H : Type} {enc : TypeId × Value → H} {w : World} {base : Nat} {spare : Nat → Bool} {held : Bool} {fuel : Nat} {cs : List Value} {x : DataW H × List MemPlace}

theorem open_ints64 (h : DataW.trod enc Tryd.prog w base spare held fuel 33 cs = some x) :
    ∃ ao cap ys, cs = [.slice ao (ys : List Int).length cap] ∧ IntsAt w ao ys := by
  rcases open_ints Tryd.underlying33 Tryd.underlying3 Tryd.cells_int h with ⟨rfl, rfl⟩ | ⟨a, len, cap, zs, rfl, _, hl, hm, hz, rfl, hcell, hwz⟩
  · exact ⟨none, 0, [], rfl, fun hne => absurd rfl hne⟩
  · have hlz : len ≤ zs.length := by rw [hz]; split <;> omega
    have hy : (zs.take len).length = len := by simp; omega
    refine ⟨some a, cap, zs.take len, by rw [hy], fun hne => ?_⟩
    have hpos : 0 < zs.length := by
      rcases Nat.eq_zero_or_pos zs.length with h0 | h0
      · rw [List.eq_nil_of_length_eq_zero h0] at hne; simp at hne
      · exact h0
    obtain ⟨b, off, rfl, hc⟩ := ints_at hcell hpos
    refine ⟨b, off, rfl, fun i u hu => ?_⟩
    have hi : i < (zs.take len).length := (List.getElem?_eq_some_iff.1 hu).1
    rw [hy] at hi
    rw [hc i (by omega)]
    rw [List.getElem?_take_of_lt hi] at hu
    simp [List.getD, hu]

set_option maxRecDepth 100000 in
/-- A text, a key and cuts, opened. -/
theorem open_text {r : Reach} {b0 : Nat} {v : Value} {d : DataW H} {p : List MemPlace} (hv : Value.okWide Tryd.prog w r b0 35 v) (h : DataW.Trod enc Tryd.prog w base spare held 35 v d p)
    (hB : (DataW.weights Tryd.prog 35 d).all (· ≤ 140737488351232) = true) :
    ∃ ao c xs ko kc ks co cc cs, v = .agg #[.slice ao (xs : List Int).length c, .slice ko (ks : List Int).length kc, .slice co (cs : List Int).length cc] ∧ BytesAt w (.slice ao xs.length c) xs ∧ Octs xs ∧ xs.length ≤ 140737488351232 ∧
      BytesAt w (.slice ko ks.length kc) ks ∧ Octs ks ∧ ks.length ≤ 140737488351232 ∧ IntsAt w co cs := by
  obtain ⟨cs, rfl, hsz⟩ := okWide_struct Tryd.underlying35 hv
  rw [Tryd.cells_text] at hsz
  obtain ⟨fuel, hf⟩ := h
  obtain ⟨zs, n, rfl, hx, hlen, hxs, hfl⟩ := DataW.trod_struct Tryd.underlying35 hf
  simp only [Prod.mk.injEq] at hx
  obtain ⟨rfl, _⟩ := hx
  obtain ⟨l⟩ := cs
  match l, hsz with
  | [v0, v1, v2], _ =>
    have f0 := hfl 0 _ rfl
    have f1 := hfl 1 _ rfl
    have f2 := hfl 2 _ rfl
    match zs, hxs with
    | [y0, y1, y2], _ =>
      simp [Tryd.cells_bytes, Tryd.cells_ints, Value.cells] at f0 f1 f2
      obtain ⟨ao, c, xs, e0, hb0, ho0, hw0, hk0⟩ := open_bytes f0
      obtain ⟨ko, kc, ks, e1, hb1, ho1, hw1, hk1⟩ := open_bytes f1
      obtain ⟨co, cc, cs, e2, hc⟩ := open_ints64 f2
      simp only [DataW.weights, Tryd.underlying35, DataW.weightsEach, List.map_cons, List.map_nil, List.append_nil, List.all_append, Bool.and_eq_true] at hB
      simp only [List.cons.injEq, and_true] at e0 e1 e2
      subst e0 e1 e2
      exact ⟨ao, c, xs, ko, kc, ks, co, cc, cs, rfl, hb0, ho0, hw0 _ hB.1, hb1, ho1, hw1 _ hB.2.1, hc⟩

end

theorem firstAt : Tryd.prog.globalNamed "satchel/digest.firstWords" = some 0 := by kernel_rfl
theorem turnAt : Tryd.prog.globalNamed "satchel/digest.turnWords" = some 2 := by kernel_rfl
abbrev listed : List (String × DataW Unit) := [("satchel/digest.firstWords", Rows.laid_satchel_digest_firstWords), ("satchel/digest.turnWords", Rows.laid_satchel_digest_turnWords)]

theorem block_of_var {w : World} {name : String} {g : Nat} {c : Array Value} (hg : Tryd.prog.globalNamed name = some g) (h : w.var? Tryd.prog name = some c) : ∃ ty fr, w.heap[g]? = some (.cells c ty fr) := by
  unfold World.var? at h
  rw [hg, Option.bind_some] at h
  split at h
  · rename_i cs ty fr hh
    cases h
    exact ⟨ty, fr, hh⟩
  · cases h

theorem vars_of_laid {W : World} (h : laidMetH Tryd.prog listed W) : Vars W := by
  have h' : laidMet Tryd.prog [("satchel/digest.firstWords", Lib.tabData .u32 firstL), ("satchel/digest.turnWords", Lib.tabData .u32 turnK)] W := h
  have t0 := Lib.tabIs_of_head (t := 40) (e := 39) (n := 8) firstAt (by kernel_rfl) Tryd.underlying40 Tryd.underlying39 (by kernel_rfl) (by kernel_rfl) h'
  have t1 := Lib.tabIs_of_head (t := 54) (e := 39) (n := 64) turnAt (by kernel_rfl) Tryd.underlying54 Tryd.underlying39 (by kernel_rfl) (by kernel_rfl) h'.tail
  exact ⟨block_of_var firstAt t0, block_of_var turnAt t1⟩

/-- A world in which they lie so. -/
noncomputable def worldLaid (os : Os) (args : Array Value) : World :=
  let w0 := World.holding Tryd.prog os ⟨#[], args, []⟩
  { w0 with heap := (w0.heap.modify 0 fun
      | .cells _ t fr => .cells (wC firstL) t fr
      | o => o).modify 2 fun
      | .cells _ t fr => .cells (wC turnK) t fr
      | o => o }
end Go.Proofs.YtdjfcackiclepaaDoor
