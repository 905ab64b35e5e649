/-
  PROVED: satchellaw0.ApiChains answers true: api.Code tells 0 of nil, the number of an Errno, the number that lies one or two Faults down, and -1 of a Fault that wraps nothing.
  Its condition: the variable errors.errorType holds what the program's text lays (the card ties it to the text of a pruned copy of the project: of the project's other packages it says nothing).
-/
import Derived.Test.YtbflokiijfomeaaDoorChains3
import Derived.Test.YtbflokiijfomeaaDoorRows
import Derived.Test.YtbflokiijfomeaaDoorCards
import Derived.Test.YtbflokiijfomeaaDoorTie
import Derived.ChangeSame
import Derived.ChangeVars
import Derived.JoinedOf
import Derived.RowKit
import Derived.RowKitTokens
import Derived.LaidLaws
import Derived.LaidHandle
import Derived.Stop.Joined
import Derived.SevenTiedAt
namespace Go.Proofs.YtbflokiijfomeaaDoor
open Go.ChangeShapes Go.WideShapes Go.RowKit

theorem own : ownKnob Tryd.prog.godebug = none := by kernel_rfl
theorem varAt : Tryd.prog.globalNamed "errors.errorType" = some 0 := by kernel_rfl
theorem rtypeAt : (Tryd.prog.cutTypes.find? (·.1 == "internal/reflectlite.rtype")).map (·.2) = some 47 := by kernel_rfl
theorem errorAlone : ((List.range 92).filter fun t => Tryd.prog.rowNamed t [101, 114, 114, 111, 114]) = [26] := by kernel_rfl
theorem howMany : Tryd.prog.types.size = 92 := by kernel_rfl

abbrev listed : List (String × DataW Unit) := [("errors.errorType", Rows.laid_errors_errorType)]

/-- The cell of the listed variable. -/
theorem cell_of_laid {W : World} (h : laidMetH Tryd.prog listed W) : W.cell? ⟨0, 0, none⟩ = some (hnd 26) := by
  have h' : laidMet Tryd.prog [] W ∧ handlesMet Tryd.prog listed W := h
  obtain ⟨name, u, ty, e1, e2, e3, e4, e5⟩ := h'.2 _ (List.mem_singleton.2 rfl)
  obtain rfl : name = [101, 114, 114, 111, 114] := (Option.some.inj e1).symm
  obtain rfl := Option.some.inj (rtypeAt.symm.trans e2)
  have hm : ty ∈ (List.range 92).filter fun t => Tryd.prog.rowNamed t [101, 114, 114, 111, 114] := List.mem_filter.2 ⟨List.mem_range.2 (howMany ▸ e3), e4⟩
  rw [errorAlone] at hm
  obtain rfl := List.mem_singleton.1 hm
  rw [show typeHandle Tryd.prog 26 = .pointer (some ⟨1, 26, none⟩) by kernel_rfl] at e5
  simpa using World.var?_cell varAt e5 0

/-- A world in which it holds. -/
noncomputable def worldLaid (os : Os) : World :=
  let w0 := World.holding Tryd.prog os ⟨#[], #[], []⟩
  { w0 with heap := w0.heap.modify 0 fun
      | .cells _ t fr => .cells #[hnd 26] t fr
      | o => o }
theorem worldLaid_met (os : Os) : laidMetH Tryd.prog listed ((worldLaid os).forCall (fun _ _ => 0) ⟨#[], #[], []⟩).memory :=
  laidMetH_of_parts (laidMet_nil _ _) (by kernel_rfl)

set_option maxRecDepth 100000 in
theorem apiChains_lifted (os : Os) (started : os.Started) (H : Type) (enc : TypeId × Value → H) :
    ReturnsInHanded {} Tryd.checked os 3 .any (fun w args => (Rows.apiChainsSpec.pre enc Tryd.prog Tryd.f3 [] false w args ∧ laidMetH Tryd.prog listed w) ∧ sizedMet enc Tryd.prog Tryd.f3 (OpenSpec.ofChange Rows.apiChainsSpec) false w args)
      (Rows.apiChainsSpec.post enc Tryd.prog Tryd.f3 false true false false) := by
  refine returnsInHanded_of_change_and (C := Tryd.checked) (X := fun w _ => laidMetH Tryd.prog listed w) (fun _ _ _ hh h => h.of_heap hh) own started (by kernel_rfl) Tryd.func3
    (ChangeSpec.witness_at (enc := enc) (C := Tryd.checked) (os := os) (X := fun w _ => laidMetH Tryd.prog listed w) false (worldLaid os) #[] 8 rfl (by kernel_rfl) (by kernel_rfl) (by kernel_rfl) (by kernel_rfl) (by kernel_rfl) (worldLaid_met os)) ?_
  intro W base args ds gs before _ hW _ _ hL _
  have hW' := hW
  obtain ⟨p, q, hA0, hV, rfl, hfz, hnd⟩ := hW
  have hA : DataW.TrodAll enc Tryd.prog W 0 (fun _ => true) true Tryd.f3.params.toList args.toList ds p := hA0
  rw [Tryd.params3] at hA
  obtain ⟨e0, rfl, rfl⟩ : args.toList = [] ∧ ds = [] ∧ p = [] := by
    cases h : args.toList with
    | nil => rw [h] at hA; cases ds with
      | nil => exact ⟨rfl, rfl, hA⟩
      | cons d r => exact absurd hA (by intro k; cases k)
    | cons a r => rw [h] at hA; exact absurd hA (by intro k; cases k)
  obtain rfl : args = #[] := by rw [← Array.toArray_toList (xs := args), e0]
  obtain ⟨rfl, rfl⟩ := trodVars_none hV
  refine (chains_any W (cell_of_laid hL)).mono fun e W' ⟨he, hk⟩ => ?_
  subst he
  have hbel : Below W.heap.size W W' := hk.below (Nat.le_refl _) (by simp)
  refine ⟨_, rfl, _, _, _, [], [], [], hW', ?_, ?_, rfl, hbel.frame _, fun h => by cases h⟩
  · exact trodAll_mk1 (shut_bool Tryd.underlying4 _)
  · exact rfl

theorem apiChains_row : Rows.ApiChainsSaid :=
  OpenClaim.holds_of_wide 3 Tryd.f3 rfl rfl rfl rfl rfl rfl rfl ⟨rfl, rfl, rfl, rfl, rfl⟩ rfl rfl rfl rfl rfl (by kernel_rfl) Tryd.func3 (by kernel_rfl)
    (of_decide_eq_true (by kernel_rfl)) (by unfold Func.isWrapper; rw [if_neg (of_decide_eq_false (by kernel_rfl))]; exact ⟨rfl, rfl⟩)
    (fun os started H enc _ => apiChains_lifted os started H enc)

theorem apiChains_holds : Rows.ApiChainsCardSaid :=
  Claim7.holds_tied_plain_at .later [] [.handle] true _ true
    apiChains_row (fun _ h => by cases h) (by kernel_rfl) (fun _ h => by cases h) apiChains_row_tie rfl ⟨rfl, rfl⟩ (by kernel_rfl) rfl
    (fun f fn hf hfn => by
      obtain rfl : f = 3 := Option.some.inj ((show Tryd.prog.funcNamed "satchel/satchellaw0.ApiChains" = some 3 by kernel_rfl).symm.trans hf) |>.symm
      obtain rfl : fn = Tryd.f3 := (Option.some.inj (Tryd.func3.symm.trans hfn)).symm
      exact ⟨by kernel_rfl, fun j t ht => by rw [Tryd.params3] at ht; simp at ht⟩)
    (by kernel_rfl)
#print axioms apiChains_holds
end Go.Proofs.YtbflokiijfomeaaDoor
