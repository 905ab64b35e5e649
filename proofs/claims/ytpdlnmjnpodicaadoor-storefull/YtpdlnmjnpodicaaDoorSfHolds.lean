/-
  PROVED: whatever the seed and the number, satchellaw4.StoreFull answers true and changes nothing that was handed in: a store takes blobs as far as it has room, and what is full takes no other.
  Its condition: the variables digest.firstWords and digest.turnWords hold what the program's text lays (the card ties them to the text of a pruned copy of the project: of the project's other packages it says nothing).
-/
import Derived.Test.YtpdlnmjnpodicaaDoorSk7
import Derived.Test.YtpdlnmjnpodicaaDoorOpenB
import Derived.Test.YtpdlnmjnpodicaaDoorRows
import Derived.Test.YtpdlnmjnpodicaaDoorCards
import Derived.Test.YtpdlnmjnpodicaaDoorTie
import Derived.Lib.LaidTab
import Derived.Stop.LaidErr
import Derived.LaidHandle
import Derived.ChangeSame
import Derived.ChangeVars
import Derived.JoinedOf
import Derived.RowKit
import Derived.LaidLaws
import Derived.Stop.Joined
import Derived.SevenTiedAt
namespace Go.Proofs.YtpdlnmjnpodicaaDoor
open Go.ChangeShapes Go.WideShapes Go.ChangeAt Go.RowKit Go.Deep

theorem Tryd.cells_room : Tryd.prog.cellsOf 24 = 2 := by kernel_rfl
theorem Tryd.cells_u64r : Tryd.prog.cellsOf 22 = 1 := by kernel_rfl
section
variable {H : Type} {enc : TypeId × Value → H} {w : World} {base : Nat} {spare : Nat → Bool} {held : Bool}
set_option maxRecDepth 100000 in
/-- A seed and a number, opened. -/
theorem open_room {r : Reach} {b0 : Nat} {v : Value} {d : DataW H} {p : List MemPlace} (hv : Value.okWide Tryd.prog w r b0 24 v) (h : DataW.Trod enc Tryd.prog w base spare held 24 v d p) :
    ∃ sd nn, v = .agg #[.int .u64 sd, .int .i64 nn] ∧ (-9223372036854775808 ≤ nn ∧ nn ≤ 9223372036854775807) := by
  obtain ⟨cs, rfl, hsz⟩ := okWide_struct Tryd.underlying24 hv
  rw [Tryd.cells_room] at hsz
  obtain ⟨fuel, hf⟩ := h
  obtain ⟨zs, n, rfl, hx, hlen, hxs, hfl⟩ := DataW.trod_struct Tryd.underlying24 hf
  obtain ⟨l⟩ := cs
  match l, hsz with
  | [v0, v1], _ =>
    have f0 := hfl 0 _ rfl
    have f1 := hfl 1 _ rfl
    match zs, hxs with
    | [y0, y1], _ =>
      simp [Tryd.cells_u64r, Tryd.cells_int, Value.cells] at f0 f1
      obtain ⟨a0, e0, _, w0⟩ := DataW.trod_int Tryd.underlying22 f0
      obtain ⟨a1, e1, _, w1⟩ := DataW.trod_int Tryd.underlying3 f1
      simp only [List.cons.injEq, and_true] at e0 e1
      subst e0 e1
      exact ⟨a0, a1, rfl, i64_wf w1⟩
end

theorem firstAt : Tryd.prog.globalNamed "satchel/digest.firstWords" = some 0 := by kernel_rfl
theorem turnAt : Tryd.prog.globalNamed "satchel/digest.turnWords" = some 1 := by kernel_rfl
abbrev listed : List (String × DataW Unit) := [("satchel/digest.firstWords", Rows.laid_satchel_digest_firstWords), ("satchel/digest.turnWords", Rows.laid_satchel_digest_turnWords)]

theorem block_of_var {w : World} {name : String} {g : Nat} {c : Array Value} (hg : Tryd.prog.globalNamed name = some g) (h : w.var? Tryd.prog name = some c) : ∃ ty fr, w.heap[g]? = some (.cells c ty fr) := by
  unfold World.var? at h
  rw [hg, Option.bind_some] at h
  split at h
  · rename_i cs ty fr hh
    cases h
    exact ⟨ty, fr, hh⟩
  · cases h

theorem vars_of_laid {W : World} (h : laidMetH Tryd.prog listed W) : Vars W := by
  have h' : laidMet Tryd.prog [("satchel/digest.firstWords", Lib.tabData .u32 firstL), ("satchel/digest.turnWords", Lib.tabData .u32 turnK)] W := h
  have t0 := Lib.tabIs_of_head (t := 70) (e := 69) (n := 8) firstAt (by kernel_rfl) Tryd.underlying70 Tryd.underlying69 (by kernel_rfl) (by kernel_rfl) h'
  have t1 := Lib.tabIs_of_head (t := 86) (e := 69) (n := 64) turnAt (by kernel_rfl) Tryd.underlying86 Tryd.underlying69 (by kernel_rfl) (by kernel_rfl) h'.tail
  exact ⟨block_of_var firstAt t0, block_of_var turnAt t1⟩

/-- A world in which they lie so. -/
noncomputable def worldLaid (os : Os) (args : Array Value) : World :=
  let w0 := World.holding Tryd.prog os ⟨#[], args, []⟩
  { w0 with heap := (w0.heap.modify 0 fun
      | .cells _ t fr => .cells (wC firstL) t fr
      | o => o).modify 1 fun
      | .cells _ t fr => .cells (wC turnK) t fr
      | o => o }

theorem Tryd.own : ownKnob Tryd.prog.godebug = none := by kernel_rfl
theorem Tryd.laidOut : laidOutB Tryd.prog = true := by kernel_rfl
theorem worldLaid_met (os : Os) : laidMetH Tryd.prog listed ((worldLaid os #[.agg #[.int .u64 0, .int .i64 0]]).forCall (fun _ _ => 0) ⟨#[], #[.agg #[.int .u64 0, .int .i64 0]], []⟩).memory :=
  show laidMet _ _ _ from laidMet_of_run' 8 (by kernel_rfl) (by kernel_rfl)

set_option maxRecDepth 100000 in
theorem storeFull_lifted (os : Os) (started : os.Started) (H : Type) (enc : TypeId × Value → H) :
    ReturnsInHanded {} Tryd.checked os 3 .any (fun w args => (Rows.storeFullSpec.pre enc Tryd.prog Tryd.f3 [] false w args ∧ laidMetH Tryd.prog listed w) ∧ sizedMet enc Tryd.prog Tryd.f3 (OpenSpec.ofChange Rows.storeFullSpec) false w args)
      (Rows.storeFullSpec.post enc Tryd.prog Tryd.f3 false true false false) := by
  refine returnsInHanded_of_change_and (C := Tryd.checked) (X := fun w _ => laidMetH Tryd.prog listed w) (fun _ _ _ hh h => h.of_heap hh) Tryd.own started (by kernel_rfl) Tryd.func3
    (ChangeSpec.witness_at (enc := enc) (C := Tryd.checked) (os := os) (X := fun w _ => laidMetH Tryd.prog listed w) false (worldLaid os #[.agg #[.int .u64 0, .int .i64 0]]) #[.agg #[.int .u64 0, .int .i64 0]] 8 rfl (by kernel_rfl) (by kernel_rfl) (by kernel_rfl) (by kernel_rfl) (by kernel_rfl) (worldLaid_met os)) ?_
  intro W base args ds gs before hval0 hW _ _ hL _
  have hval : ∀ (j : Nat) t v, Tryd.f3.params[j]? = some t → args[j]? = some v → Value.okWide Tryd.prog W .any base t v := hval0
  have hW' := hW
  obtain ⟨p, q, hA0, hV, rfl, hfz, hnd⟩ := hW
  have hA : DataW.TrodAll enc Tryd.prog W 0 (fun _ => true) true Tryd.f3.params.toList args.toList ds p := hA0
  rw [Tryd.params3] at hA hval
  obtain ⟨v0, d0, rfl, rfl, h0⟩ := trodAll_one hA
  obtain ⟨rfl, rfl⟩ := trodVars_none hV
  have h0k := h0
  obtain ⟨sd, nn, rfl, hn⟩ := open_room (hval 0 24 v0 rfl rfl) h0
  clear hA0 hval0
  simp only [List.append_nil] at hW'
  have hlt : ∀ x ∈ p, x.block < W.heap.size := fun x hx => by simpa using hW'.lt x hx
  refine (full_any sd nn W (vars_of_laid hL) hn.1 hn.2).mono fun e W' ⟨he, hk⟩ => ?_
  subst he
  have hbel : Below W.heap.size W W' := hk.below (Nat.le_refl _) (by simp)
  refine ⟨_, rfl, _, _, _, [], p, [], hW', ?_, ?_, rfl, hbel.frame _, fun h => by cases h⟩
  · exact trodAll_mk1 (shut_bool Tryd.underlying4 _)
  · exact trodAll_mk1 (Below.trod Tryd.laidOut (by kernel_rfl) (of_decide_eq_true (by kernel_rfl)) h0k hbel hlt)

theorem storeFull_row : Rows.StoreFullSaid :=
  OpenClaim.holds_of_wide 3 Tryd.f3 rfl rfl rfl rfl rfl rfl rfl ⟨rfl, rfl, rfl, rfl, rfl⟩ rfl rfl rfl rfl rfl (by kernel_rfl) Tryd.func3 (by kernel_rfl)
    (of_decide_eq_true (by kernel_rfl)) (by unfold Func.isWrapper; rw [if_neg (of_decide_eq_false (by kernel_rfl))]; exact ⟨rfl, rfl⟩)
    (fun os started H enc _ => storeFull_lifted os started H enc)

theorem noStand : Tryd.prog.wantsStandIn 24 = false := by kernel_rfl
theorem storeFull_holds : Rows.StoreFullCardSaid :=
  Claim7.holds_tied_plain_at .later [] _ _ _ _
    storeFull_row (fun _ h => by cases h) (by kernel_rfl) (fun _ h => by cases h) storeFull_row_tie rfl ⟨rfl, rfl⟩ (by kernel_rfl) rfl
    (fun f fn hf hfn => by
      obtain rfl : f = 3 := Option.some.inj ((show Tryd.prog.funcNamed "satchel/satchellaw4.StoreFull" = some 3 by kernel_rfl).symm.trans hf) |>.symm
      obtain rfl : fn = Tryd.f3 := (Option.some.inj (Tryd.func3.symm.trans hfn)).symm
      exact ⟨by kernel_rfl, fun j t ht => by
        rw [Tryd.params3] at ht
        match j, ht with
        | 0, ht =>
          obtain rfl : 24 = t := by simpa using ht
          exact noStand
        | j + 1, ht => simp at ht⟩)
    (by kernel_rfl)
#print axioms storeFull_holds
end Go.Proofs.YtpdlnmjnpodicaaDoor
