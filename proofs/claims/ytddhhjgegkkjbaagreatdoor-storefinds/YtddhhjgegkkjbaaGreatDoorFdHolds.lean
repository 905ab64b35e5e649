/-
  PROVED: whatever the encodings and the numbers, satchellaw4.StoreFinds answers true and changes nothing that was handed in: every object is found by the shortest digits that tell it from the others and by all of its digits; by one digit less than the shortest (if that is more than four) several are found; by three digits and by sixty-five none may be asked for.
  Its condition: the variables digest.firstWords and digest.turnWords hold what the program's text lays (the card ties them to the text of a pruned copy of the project: of the project's other packages it says nothing). Of the library's two tables of UTF-8 nothing is asked.
-/
import Derived.Test.YtddhhjgegkkjbaaGreatDoorSsO
import Derived.Test.YtddhhjgegkkjbaaGreatDoorHdS
import Derived.Test.YtddhhjgegkkjbaaGreatDoorRows
import Derived.Test.YtddhhjgegkkjbaaGreatDoorCards
import Derived.Test.YtddhhjgegkkjbaaGreatDoorTie
import Derived.Lib.LaidTab
import Derived.Stop.LaidErr
import Derived.LaidHandle
import Derived.ChangeSame
import Derived.ChangeVars
import Derived.JoinedOf
import Derived.RowKit
import Derived.LaidLaws
import Derived.Stop.Joined
import Derived.SevenTiedAt
namespace Go.Proofs.YtddhhjgegkkjbaaGreatDoor
open Go.ChangeShapes Go.WideShapes Go.ChangeAt Go.RowKit Go.Deep

theorem firstAt : Tryz.prog.globalNamed "satchel/digest.firstWords" = some 0 := by kernel_rfl
theorem turnAt : Tryz.prog.globalNamed "satchel/digest.turnWords" = some 2 := by kernel_rfl
abbrev listed : List (String × DataW Unit) := [("satchel/digest.firstWords", Rows.laid_satchel_digest_firstWords), ("satchel/digest.turnWords", Rows.laid_satchel_digest_turnWords)]

theorem block_of_var {w : World} {name : String} {g : Nat} {c : Array Value} (hg : Tryz.prog.globalNamed name = some g) (h : w.var? Tryz.prog name = some c) : ∃ ty fr, w.heap[g]? = some (.cells c ty fr) := by
  unfold World.var? at h
  rw [hg, Option.bind_some] at h
  split at h
  · rename_i cs ty fr hh
    cases h
    exact ⟨ty, fr, hh⟩
  · cases h

theorem vars_of_laid {W : World} (h : laidMetH Tryz.prog listed W) : Vars W := by
  have h' : laidMet Tryz.prog [("satchel/digest.firstWords", Lib.tabData .u32 firstL), ("satchel/digest.turnWords", Lib.tabData .u32 turnK)] W := h
  have t0 := Lib.tabIs_of_head (t := 110) (e := 109) (n := 8) firstAt (by kernel_rfl) Tryz.underlying110 Tryz.underlying109 (by kernel_rfl) (by kernel_rfl) h'
  have t1 := Lib.tabIs_of_head (t := 141) (e := 109) (n := 64) turnAt (by kernel_rfl) Tryz.underlying141 Tryz.underlying109 (by kernel_rfl) (by kernel_rfl) h'.tail
  exact ⟨block_of_var firstAt t0, block_of_var turnAt t1⟩

/-- A world in which they lie so. -/
noncomputable def worldLaid (os : Os) (args : Array Value) : World :=
  let w0 := World.holding Tryz.prog os ⟨#[], args, []⟩
  { w0 with heap := (w0.heap.modify 0 fun
      | .cells _ t fr => .cells (wC firstL) t fr
      | o => o).modify 2 fun
      | .cells _ t fr => .cells (wC turnK) t fr
      | o => o }

theorem Tryz.own : ownKnob Tryz.prog.godebug = none := by kernel_rfl
theorem Tryz.laidOut : laidOutB Tryz.prog = true := by kernel_rfl
theorem worldLaid_met (os : Os) : laidMetH Tryz.prog listed ((worldLaid os #[.agg #[.slice none 0 0, .slice none 0 0, .int .i64 0]]).forCall (fun _ _ => 0) ⟨#[], #[.agg #[.slice none 0 0, .slice none 0 0, .int .i64 0]], []⟩).memory :=
  show laidMet _ _ _ from laidMet_of_run' 8 (by kernel_rfl) (by kernel_rfl)

set_option maxRecDepth 100000 in
theorem storeFinds_lifted (os : Os) (started : os.Started) (H : Type) (enc : TypeId × Value → H) :
    ReturnsInHanded {} Tryz.checked os 4 .any (fun w args => (Rows.storeFindsSpec.pre enc Tryz.prog Tryz.f4 [] false w args ∧ laidMetH Tryz.prog listed w) ∧ sizedMet enc Tryz.prog Tryz.f4 (OpenSpec.ofChange Rows.storeFindsSpec) false w args)
      (Rows.storeFindsSpec.post enc Tryz.prog Tryz.f4 false true false false) := by
  refine handed_shapedX (C := Tryz.checked) (X := fun w _ => laidMetH Tryz.prog listed w) (fun _ _ _ hh h => h.of_heap hh) Tryz.own started (by kernel_rfl) Tryz.func4
    (ChangeSpec.witness_at (enc := enc) (C := Tryz.checked) (os := os) (X := fun w _ => laidMetH Tryz.prog listed w) false (worldLaid os #[.agg #[.slice none 0 0, .slice none 0 0, .int .i64 0]]) #[.agg #[.slice none 0 0, .slice none 0 0, .int .i64 0]] 8 rfl (by kernel_rfl) (by kernel_rfl) (by kernel_rfl) (by kernel_rfl) (by kernel_rfl) (worldLaid_met os)) ?_
  intro W base args ds gs before hval0 hW hsz0 hL hShape
  have hsz : (DataW.weightsEach Tryz.prog (Tryz.f4.params.toList ++ Rows.storeFindsSpec.plain.varTypes Tryz.prog) (ds ++ gs)).all (· ≤ reachBytes) = true := hsz0
  have hval : ∀ (j : Nat) t v, Tryz.f4.params[j]? = some t → args[j]? = some v → Value.okWide Tryz.prog W .any base t v := hval0
  have hW' := hW
  obtain ⟨p, q, hA0, hV, rfl, hfz, hnd⟩ := hW
  have hA : DataW.TrodAll enc Tryz.prog W 0 (fun _ => true) true Tryz.f4.params.toList args.toList ds p := hA0
  rw [Tryz.params4] at hA hval hsz
  obtain ⟨v0, d0, rfl, rfl, h0⟩ := trodAll_one hA
  obtain ⟨rfl, rfl⟩ := trodVars_none hV
  have hB : (DataW.weights Tryz.prog 25 d0).all (· ≤ 140737488351232) = true := by
    simp only [List.cons_append, List.nil_append, DataW.weightsEach, List.all_append, Bool.and_eq_true, reachBytes] at hsz
    exact hsz.1
  have h0k := h0
  obtain ⟨ev, gv, nn, L, G, rfl, hLs, hGs, _⟩ := open_set (hval 0 25 v0 rfl rfl) h0 hB
  obtain ⟨T, hT⟩ := tabs_of_shaped hShape
  letI : TabC := ⟨T⟩
  clear hA0 hval0 hsz0
  simp only [List.append_nil] at hW'
  have hlt : ∀ x ∈ p, x.block < W.heap.size := fun x hx => by simpa using hW'.lt x hx
  refine (finds4_any ev gv nn L G W (vars_of_laid hL) hT hLs hGs).mono fun e W' ⟨he, hk⟩ => ?_
  subst he
  have hbel : Below W.heap.size W W' := hk.below (Nat.le_refl _) (by simp)
  refine ⟨_, rfl, _, _, _, [], p, [], hW', ?_, ?_, rfl, hbel.frame _, fun h => by cases h⟩
  · exact trodAll_mk1 (shut_bool Tryz.underlying4 _)
  · exact trodAll_mk1 (Below.trod Tryz.laidOut (by kernel_rfl) (of_decide_eq_true (by kernel_rfl)) h0k hbel hlt)

theorem storeFinds_row : Rows.StoreFindsSaid :=
  OpenClaim.holds_of_wide 4 Tryz.f4 rfl rfl rfl rfl rfl rfl rfl ⟨rfl, rfl, rfl, rfl, rfl⟩ rfl rfl rfl rfl rfl (by kernel_rfl) Tryz.func4 (by kernel_rfl)
    (of_decide_eq_true (by kernel_rfl)) (by unfold Func.isWrapper; rw [if_neg (of_decide_eq_false (by kernel_rfl))]; exact ⟨rfl, rfl⟩)
    (fun os started H enc _ => storeFinds_lifted os started H enc)

theorem noStand : Tryz.prog.wantsStandIn 25 = false := by kernel_rfl
theorem storeFinds_holds : Rows.StoreFindsCardSaid :=
  Claim7.holds_tied_plain_at .later [] _ _ _ _
    storeFinds_row (fun _ h => by cases h) (by kernel_rfl) (fun _ h => by cases h) storeFinds_row_tie rfl ⟨rfl, rfl⟩ (by kernel_rfl) rfl
    (fun f fn hf hfn => by
      obtain rfl : f = 4 := Option.some.inj ((show Tryz.prog.funcNamed "satchel/satchellaw4.StoreFinds" = some 4 by kernel_rfl).symm.trans hf) |>.symm
      obtain rfl : fn = Tryz.f4 := (Option.some.inj (Tryz.func4.symm.trans hfn)).symm
      exact ⟨by kernel_rfl, fun j t ht => by
        rw [Tryz.params4] at ht
        match j, ht with
        | 0, ht =>
          obtain rfl : 25 = t := by simpa using ht
          exact noStand
        | j + 1, ht => simp at ht⟩)
    (by kernel_rfl)
#print axioms storeFinds_holds
end Go.Proofs.YtddhhjgegkkjbaaGreatDoor
