/-
  PROVED: whatever the number and the seed, satchellaw4.StoreMany answers true and changes nothing that was handed in: any number of stores live side by side, each with its own object.
  Its condition: the variables digest.firstWords and digest.turnWords hold what the program's text lays (the card ties them to the text of a pruned copy of the project: of the project's other packages it says nothing).
-/
import Derived.Test.YtmhbadkejhbbmaaGreatDoorSm1
import Derived.Test.YtmhbadkejhbbmaaGreatDoorOpenB
import Derived.Test.YtmhbadkejhbbmaaGreatDoorRows
import Derived.Test.YtmhbadkejhbbmaaGreatDoorCards
import Derived.Test.YtmhbadkejhbbmaaGreatDoorTie
import Derived.Lib.LaidTab
import Derived.Stop.LaidErr
import Derived.LaidHandle
import Derived.ChangeSame
import Derived.ChangeVars
import Derived.JoinedOf
import Derived.RowKit
import Derived.LaidLaws
import Derived.Stop.Joined
import Derived.SevenTiedAt
namespace Go.Proofs.YtmhbadkejhbbmaaGreatDoor
open Go.ChangeShapes Go.WideShapes Go.ChangeAt Go.RowKit Go.Deep

theorem Tryz.cells_crowd : Tryz.prog.cellsOf 23 = 2 := by kernel_rfl
theorem Tryz.cells_u8r : Tryz.prog.cellsOf 5 = 1 := by kernel_rfl
section
variable {H : Type} {enc : TypeId × Value → H} {w : World} {base : Nat} {spare : Nat → Bool} {held : Bool}
set_option maxRecDepth 100000 in
/-- A number and a seed, opened. -/
theorem open_crowd {r : Reach} {b0 : Nat} {v : Value} {d : DataW H} {p : List MemPlace} (hv : Value.okWide Tryz.prog w r b0 23 v) (h : DataW.Trod enc Tryz.prog w base spare held 23 v d p) :
    ∃ nn sd, v = .agg #[.int .i64 nn, .int .u8 sd] ∧ (-9223372036854775808 ≤ nn ∧ nn ≤ 9223372036854775807) ∧ 0 ≤ sd ∧ sd ≤ 255 := by
  obtain ⟨cs, rfl, hsz⟩ := okWide_struct Tryz.underlying23 hv
  rw [Tryz.cells_crowd] at hsz
  obtain ⟨fuel, hf⟩ := h
  obtain ⟨zs, n, rfl, hx, hlen, hxs, hfl⟩ := DataW.trod_struct Tryz.underlying23 hf
  obtain ⟨l⟩ := cs
  match l, hsz with
  | [v0, v1], _ =>
    have f0 := hfl 0 _ rfl
    have f1 := hfl 1 _ rfl
    match zs, hxs with
    | [y0, y1], _ =>
      simp [Tryz.cells_u8r, Tryz.cells_int, Value.cells] at f0 f1
      obtain ⟨a0, e0, _, w0⟩ := DataW.trod_int Tryz.underlying3 f0
      obtain ⟨a1, e1, _, w1⟩ := DataW.trod_int Tryz.underlying5 f1
      simp only [List.cons.injEq, and_true] at e0 e1
      subst e0 e1
      refine ⟨a0, a1, rfl, i64_wf w0, ?_⟩
      have e1 : IntKind.u8.min = 0 := rfl
      have e2 : IntKind.u8.max = 255 := rfl
      simp only [Lit.wf, Bool.and_eq_true, decide_eq_true_eq, e1, e2] at w1
      exact w1
end

theorem firstAt : Tryz.prog.globalNamed "satchel/digest.firstWords" = some 0 := by kernel_rfl
theorem turnAt : Tryz.prog.globalNamed "satchel/digest.turnWords" = some 1 := by kernel_rfl
abbrev listed : List (String × DataW Unit) := [("satchel/digest.firstWords", Rows.laid_satchel_digest_firstWords), ("satchel/digest.turnWords", Rows.laid_satchel_digest_turnWords)]

theorem block_of_var {w : World} {name : String} {g : Nat} {c : Array Value} (hg : Tryz.prog.globalNamed name = some g) (h : w.var? Tryz.prog name = some c) : ∃ ty fr, w.heap[g]? = some (.cells c ty fr) := by
  unfold World.var? at h
  rw [hg, Option.bind_some] at h
  split at h
  · rename_i cs ty fr hh
    cases h
    exact ⟨ty, fr, hh⟩
  · cases h

theorem vars_of_laid {W : World} (h : laidMetH Tryz.prog listed W) : Vars W := by
  have h' : laidMet Tryz.prog [("satchel/digest.firstWords", Lib.tabData .u32 firstL), ("satchel/digest.turnWords", Lib.tabData .u32 turnK)] W := h
  have t0 := Lib.tabIs_of_head (t := 120) (e := 119) (n := 8) firstAt (by kernel_rfl) Tryz.underlying120 Tryz.underlying119 (by kernel_rfl) (by kernel_rfl) h'
  have t1 := Lib.tabIs_of_head (t := 143) (e := 119) (n := 64) turnAt (by kernel_rfl) Tryz.underlying143 Tryz.underlying119 (by kernel_rfl) (by kernel_rfl) h'.tail
  exact ⟨block_of_var firstAt t0, block_of_var turnAt t1⟩

/-- A world in which they lie so. -/
noncomputable def worldLaid (os : Os) (args : Array Value) : World :=
  let w0 := World.holding Tryz.prog os ⟨#[], args, []⟩
  { w0 with heap := (w0.heap.modify 0 fun
      | .cells _ t fr => .cells (wC firstL) t fr
      | o => o).modify 1 fun
      | .cells _ t fr => .cells (wC turnK) t fr
      | o => o }

theorem Tryz.own : ownKnob Tryz.prog.godebug = none := by kernel_rfl
theorem Tryz.laidOut : laidOutB Tryz.prog = true := by kernel_rfl
theorem worldLaid_met (os : Os) : laidMetH Tryz.prog listed ((worldLaid os #[.agg #[.int .i64 0, .int .u8 0]]).forCall (fun _ _ => 0) ⟨#[], #[.agg #[.int .i64 0, .int .u8 0]], []⟩).memory :=
  show laidMet _ _ _ from laidMet_of_run' 8 (by kernel_rfl) (by kernel_rfl)

set_option maxRecDepth 100000 in
theorem storeMany_lifted (os : Os) (started : os.Started) (H : Type) (enc : TypeId × Value → H) :
    ReturnsInHanded {} Tryz.checked os 3 .any (fun w args => (Rows.storeManySpec.pre enc Tryz.prog Tryz.f3 [] false w args ∧ laidMetH Tryz.prog listed w) ∧ sizedMet enc Tryz.prog Tryz.f3 (OpenSpec.ofChange Rows.storeManySpec) false w args)
      (Rows.storeManySpec.post enc Tryz.prog Tryz.f3 false true false false) := by
  refine returnsInHanded_of_change_and (C := Tryz.checked) (X := fun w _ => laidMetH Tryz.prog listed w) (fun _ _ _ hh h => h.of_heap hh) Tryz.own started (by kernel_rfl) Tryz.func3
    (ChangeSpec.witness_at (enc := enc) (C := Tryz.checked) (os := os) (X := fun w _ => laidMetH Tryz.prog listed w) false (worldLaid os #[.agg #[.int .i64 0, .int .u8 0]]) #[.agg #[.int .i64 0, .int .u8 0]] 8 rfl (by kernel_rfl) (by kernel_rfl) (by kernel_rfl) (by kernel_rfl) (by kernel_rfl) (worldLaid_met os)) ?_
  intro W base args ds gs before hval0 hW _ _ hL _
  have hval : ∀ (j : Nat) t v, Tryz.f3.params[j]? = some t → args[j]? = some v → Value.okWide Tryz.prog W .any base t v := hval0
  have hW' := hW
  obtain ⟨p, q, hA0, hV, rfl, hfz, hnd⟩ := hW
  have hA : DataW.TrodAll enc Tryz.prog W 0 (fun _ => true) true Tryz.f3.params.toList args.toList ds p := hA0
  rw [Tryz.params3] at hA hval
  obtain ⟨v0, d0, rfl, rfl, h0⟩ := trodAll_one hA
  obtain ⟨rfl, rfl⟩ := trodVars_none hV
  have h0k := h0
  obtain ⟨nn, sd, rfl, hn, hsd⟩ := open_crowd (hval 0 23 v0 rfl rfl) h0
  clear hA0 hval0
  simp only [List.append_nil] at hW'
  have hlt : ∀ x ∈ p, x.block < W.heap.size := fun x hx => by simpa using hW'.lt x hx
  refine (many4_any nn sd W (vars_of_laid hL) hn.1 hn.2 hsd.1 hsd.2).mono fun e W' ⟨he, hk⟩ => ?_
  subst he
  have hbel : Below W.heap.size W W' := hk.below (Nat.le_refl _) (by simp)
  refine ⟨_, rfl, _, _, _, [], p, [], hW', ?_, ?_, rfl, hbel.frame _, fun h => by cases h⟩
  · exact trodAll_mk1 (shut_bool Tryz.underlying4 _)
  · exact trodAll_mk1 (Below.trod Tryz.laidOut (by kernel_rfl) (of_decide_eq_true (by kernel_rfl)) h0k hbel hlt)

theorem storeMany_row : Rows.StoreManySaid :=
  OpenClaim.holds_of_wide 3 Tryz.f3 rfl rfl rfl rfl rfl rfl rfl ⟨rfl, rfl, rfl, rfl, rfl⟩ rfl rfl rfl rfl rfl (by kernel_rfl) Tryz.func3 (by kernel_rfl)
    (of_decide_eq_true (by kernel_rfl)) (by unfold Func.isWrapper; rw [if_neg (of_decide_eq_false (by kernel_rfl))]; exact ⟨rfl, rfl⟩)
    (fun os started H enc _ => storeMany_lifted os started H enc)

theorem noStand : Tryz.prog.wantsStandIn 23 = false := by kernel_rfl
theorem storeMany_holds : Rows.StoreManyCardSaid :=
  Claim7.holds_tied_plain_at .later [] _ _ _ _
    storeMany_row (fun _ h => by cases h) (by kernel_rfl) (fun _ h => by cases h) storeMany_row_tie rfl ⟨rfl, rfl⟩ (by kernel_rfl) rfl
    (fun f fn hf hfn => by
      obtain rfl : f = 3 := Option.some.inj ((show Tryz.prog.funcNamed "satchel/satchellaw4.StoreMany" = some 3 by kernel_rfl).symm.trans hf) |>.symm
      obtain rfl : fn = Tryz.f3 := (Option.some.inj (Tryz.func3.symm.trans hfn)).symm
      exact ⟨by kernel_rfl, fun j t ht => by
        rw [Tryz.params3] at ht
        match j, ht with
        | 0, ht =>
          obtain rfl : 23 = t := by simpa using ht
          exact noStand
        | j + 1, ht => simp at ht⟩)
    (by kernel_rfl)
#print axioms storeMany_holds
end Go.Proofs.YtmhbadkejhbbmaaGreatDoor
