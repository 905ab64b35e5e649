/-
  PROVED: satchellaw3.ObjectParses answers true and changes nothing that was handed in: whatever the asks, object.Parse reads all bytes that are asked just as the document's own does: the same object, or the same error.
  Its condition: the variables unicode/utf8.first and unicode/utf8.acceptRanges, satchelref2.H and K, digest.firstWords and turnWords hold what the program's text lays (the card ties them to the text of a pruned copy of the project: of the project's other packages it says nothing).
-/
import Derived.Test.YtmjakhmkddgffaaGreatDoorOp3
import Derived.Test.YtmjakhmkddgffaaGreatDoorRows
import Derived.Test.YtmjakhmkddgffaaGreatDoorCards
import Derived.Test.YtmjakhmkddgffaaGreatDoorTie
import Derived.ChangeSame
import Derived.ChangeVars
import Derived.JoinedOf
import Derived.RowKit
import Derived.RowKitTokens
import Derived.LaidLaws
import Derived.LaidHandle
import Derived.Stop.Joined
import Derived.SevenTiedAt
import Derived.ProofKit
import Derived.OpenShut
import Derived.Lib.LaidU8T
namespace Go.Proofs.YtmjakhmkddgffaaGreatDoor
open Go.ChangeShapes Go.WideShapes Go.ChangeAt Go.RowKit

theorem Tryz.own : ownKnob Tryz.prog.godebug = none := by kernel_rfl
theorem Tryz.laidOut : laidOutB Tryz.prog = true := by kernel_rfl
theorem first_is : Rows.laid_unicode_utf8_first = Lib.firstData := by kernel_rfl
theorem accept_is : Rows.laid_unicode_utf8_acceptRanges (H := Unit) = Lib.acceptData := by kernel_rfl
theorem u8extra : U8Extra Tryz.prog Tryz.laysValid_ren := ⟨by kernel_rfl, by kernel_rfl, by kernel_rfl, by kernel_rfl, by kernel_rfl, by kernel_rfl, by kernel_rfl⟩
theorem tabs_of_laid {W : World} (h : laidMetH Tryz.prog Rows.objectParsesRow.laid W) : Tabs W := by
  have h' : laidMet Tryz.prog [("unicode/utf8.acceptRanges", Rows.laid_unicode_utf8_acceptRanges), ("satchel/satchelref2.H", Rows.laid_satchel_satchelref2_H), ("satchel/satchelref2.K", Rows.laid_satchel_satchelref2_K), ("satchel/digest.firstWords", Rows.laid_satchel_digest_firstWords), ("satchel/digest.turnWords", Rows.laid_satchel_digest_turnWords), ("unicode/utf8.first", Rows.laid_unicode_utf8_first)] W := h
  rw [first_is, accept_is] at h'
  exact utf8Tabs_of_readsT (U8Types.of196 Tryz.laysValid) u8extra (Lib.laidMet.reads h' (.tail _ (.tail _ (.tail _ (.tail _ (.tail _ (.head _))))))) (Lib.laidMet.reads h' (.head _))

/-- A table of numbers as cells. -/
def litsOf : DataW Unit → List Value
  | .agg l => l.map fun d => match d with
    | .lit (.int k n) => .int k n
    | _ => .int .i64 0
  | _ => []
def setRow (c : List Value) : Obj → Obj
  | .cells _ t fr => .cells c.toArray t fr
  | o => o
/-- A world in which the six variables lie so. -/
noncomputable def worldLaid (os : Os) (args : Array Value) : World :=
  let w0 := World.holding Tryz.prog os ⟨#[], args, []⟩
  { w0 with heap := (((((w0.heap.modify (Tryz.laysValid_ren.g 3) (setRow (Lib.firstTab.map (Value.int .u8)))).modify (Tryz.laysValid_ren.g 4) (setRow ((List.range 16).flatMap fun i => [Value.int .u8 (Lib.accLo i : Int), .int .u8 (Lib.accHi i : Int)]))).modify 0 (setRow (litsOf Rows.laid_satchel_satchelref2_H))).modify 4 (setRow (litsOf Rows.laid_satchel_satchelref2_K))).modify 3 (setRow (litsOf Rows.laid_satchel_digest_firstWords))).modify 6 (setRow (litsOf Rows.laid_satchel_digest_turnWords)) }
def askV : Value := .agg #[.slice none 0 0]
theorem worldLaid_met (os : Os) : laidMetH Tryz.prog Rows.objectParsesRow.laid ((worldLaid os #[askV]).forCall (fun _ _ => 0) ⟨#[], #[askV], []⟩).memory :=
  show laidMet _ _ _ from laidMet_of_run' 8 (by kernel_rfl) (by kernel_rfl)

set_option maxRecDepth 100000 in
theorem objectParses_lifted (os : Os) (started : os.Started) (H : Type) (enc : TypeId × Value → H) :
    ReturnsInHanded {} Tryz.checked os 5 .any (fun w args => (Rows.objectParsesSpec.pre enc Tryz.prog Tryz.f5 [] false w args ∧ laidMetH Tryz.prog Rows.objectParsesRow.laid w) ∧ sizedMet enc Tryz.prog Tryz.f5 (OpenSpec.ofChange Rows.objectParsesSpec) false w args)
      (Rows.objectParsesSpec.post enc Tryz.prog Tryz.f5 false true false false) := by
  refine returnsInHanded_of_change_and (C := Tryz.checked) (X := fun w _ => laidMetH Tryz.prog Rows.objectParsesRow.laid w) (fun _ _ _ hh h => h.of_heap hh) Tryz.own started (by kernel_rfl) Tryz.func5
    (ChangeSpec.witness_at (enc := enc) (C := Tryz.checked) (os := os) (X := fun w _ => laidMetH Tryz.prog Rows.objectParsesRow.laid w) false (worldLaid os #[askV]) #[askV] 8 rfl (by kernel_rfl) (by kernel_rfl) (by kernel_rfl) (by kernel_rfl) (by kernel_rfl) (worldLaid_met os)) ?_
  intro W base args ds gs before hval0 hW _ hsz0 hL _
  have hsz : (DataW.weightsEach Tryz.prog (Tryz.f5.params.toList ++ Rows.objectParsesSpec.plain.varTypes Tryz.prog) (ds ++ gs)).all (· ≤ reachBytes) = true := hsz0
  have hval : ∀ (j : Nat) t v, Tryz.f5.params[j]? = some t → args[j]? = some v → Value.okWide Tryz.prog W .any base t v := hval0
  have hW' := hW
  obtain ⟨p, q, hA0, hV, rfl, hfz, hnd⟩ := hW
  have hA : DataW.TrodAll enc Tryz.prog W 0 (fun _ => true) true Tryz.f5.params.toList args.toList ds p := hA0
  rw [Tryz.params5] at hA hval hsz
  obtain ⟨v0, d0, rfl, rfl, h0⟩ := trodAll_one hA
  obtain ⟨rfl, rfl⟩ := trodVars_none hV
  have hB : (DataW.weights Tryz.prog 24 d0).all (· ≤ 140737488351232) = true := by
    simp only [List.cons_append, List.nil_append, DataW.weightsEach, List.all_append, Bool.and_eq_true, reachBytes] at hsz
    exact hsz.1
  have h0k := h0
  obtain ⟨u, aks, rfl, hau, hga⟩ := open_asksL (hval 0 24 v0 rfl rfl) h0 hB
  clear hA0 hval0 hsz0
  simp only [List.append_nil] at hW'
  have hlt : ∀ x ∈ p, x.block < W.heap.size := fun x hx => by simpa using hW'.lt x hx
  refine (parses_any hau hga (tabs_of_laid hL)).mono fun e W' ⟨he, hk⟩ => ?_
  subst he
  have hbel : Below W.heap.size W W' := hk.below (Nat.le_refl _) (by simp)
  refine ⟨_, rfl, _, _, _, [], p, [], hW', ?_, ?_, rfl, hbel.frame _, fun h => by cases h⟩
  · exact trodAll_mk1 (shut_bool Tryz.underlying4 _)
  · exact trodAll_mk1 (Below.trod Tryz.laidOut (by kernel_rfl) (of_decide_eq_true (by kernel_rfl)) h0k hbel hlt)

theorem objectParses_row : Rows.ObjectParsesSaid :=
  OpenClaim.holds_of_wide 5 Tryz.f5 rfl rfl rfl rfl rfl rfl rfl ⟨rfl, rfl, rfl, rfl, rfl⟩ rfl rfl rfl rfl rfl (by kernel_rfl) Tryz.func5 (by kernel_rfl)
    (of_decide_eq_true (by kernel_rfl)) (by unfold Func.isWrapper; rw [if_neg (of_decide_eq_false (by kernel_rfl))]; exact ⟨rfl, rfl⟩)
    (fun os started H enc _ => objectParses_lifted os started H enc)

theorem objectParses_holds : Rows.ObjectParsesCardSaid :=
  Claim7.holds_tied_plain_at .later [] _ _ _ _
    objectParses_row (fun _ h => by cases h) (by kernel_rfl) (fun _ h => by cases h) objectParses_row_tie rfl ⟨rfl, rfl⟩ (by kernel_rfl) rfl
    (fun f fn hf hfn => by
      obtain rfl : f = 5 := Option.some.inj ((show Tryz.prog.funcNamed "satchel/satchellaw3.ObjectParses" = some 5 by kernel_rfl).symm.trans hf) |>.symm
      obtain rfl : fn = Tryz.f5 := (Option.some.inj (Tryz.func5.symm.trans hfn)).symm
      refine ⟨by kernel_rfl, fun j t ht => ?_⟩
      rw [Tryz.params5] at ht
      obtain rfl : t = 24 := by simpa using Array.mem_of_getElem? ht
      exact (show Tryz.prog.wantsStandIn 24 = false by kernel_rfl))
    (by kernel_rfl)
#print axioms objectParses_holds
end Go.Proofs.YtmjakhmkddgffaaGreatDoor
