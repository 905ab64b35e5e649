/-
  PROVED: satchellaw3.ObjectExact answers true and changes nothing that was handed in: whatever the asks, each (Encode, Parse, Kind, Children, Id, Name) is answered just as the document's own answers it, again and again. Condition: what is handed in is of bulk at most 1048576 (the second form); the walk needs of it only that the bytes of each ask are at most 10 to the 12.
  And: the variables unicode/utf8.first and unicode/utf8.acceptRanges, satchelref2.H and K, digest.firstWords and turnWords hold what the program's text lays (the card ties them to the text of a pruned copy of the project: of the project's other packages it says nothing).
-/
import Derived.Test.YtfcoeinhfdbcgaaGreatDoorOw1
import Derived.Test.YtfcoeinhfdbcgaaGreatDoorRows
import Derived.Test.YtfcoeinhfdbcgaaGreatDoorCards
import Derived.Test.YtfcoeinhfdbcgaaGreatDoorTie
import Derived.ProofKit
import Derived.OpenShut
import Derived.Deep.DeepHandedRow
import Derived.Lib.LaidTab
import Derived.Lib.LaidU8T
import Derived.Stop.LaidErr
namespace Go.Proofs.YtfcoeinhfdbcgaaGreatDoor
open Go.ChangeShapes Go.WideShapes Go.ChangeAt Go.RowKit

theorem Tryz.own : ownKnob Tryz.prog.godebug = none := by kernel_rfl
theorem Tryz.laidOut : laidOutB Tryz.prog = true := by kernel_rfl
theorem first_is : Rows.laid_unicode_utf8_first = Lib.firstData := by kernel_rfl
theorem accept_is : Rows.laid_unicode_utf8_acceptRanges (H := Unit) = Lib.acceptData := by kernel_rfl
theorem u8extra : U8Extra Tryz.prog Tryz.laysValid_ren := ⟨by kernel_rfl, by kernel_rfl, by kernel_rfl, by kernel_rfl, by kernel_rfl, by kernel_rfl, by kernel_rfl⟩
theorem tabs_of_laid {W : World} (h : laidMetH Tryz.prog Rows.objectExactUptoRow.laid W) : Tabs W := by
  have h' : laidMet Tryz.prog [("unicode/utf8.acceptRanges", Rows.laid_unicode_utf8_acceptRanges), ("satchel/satchelref2.H", Rows.laid_satchel_satchelref2_H), ("satchel/satchelref2.K", Rows.laid_satchel_satchelref2_K), ("satchel/digest.firstWords", Rows.laid_satchel_digest_firstWords), ("satchel/digest.turnWords", Rows.laid_satchel_digest_turnWords), ("unicode/utf8.first", Rows.laid_unicode_utf8_first)] W := h
  rw [first_is, accept_is] at h'
  exact utf8Tabs_of_readsT (U8Types.of196 Tryz.laysValid) u8extra (Lib.laidMet.reads h' (.tail _ (.tail _ (.tail _ (.tail _ (.tail _ (.head _))))))) (Lib.laidMet.reads h' (.head _))

theorem firstAt : Tryz.prog.globalNamed "satchel/digest.firstWords" = some 3 := by kernel_rfl
theorem turnAt : Tryz.prog.globalNamed "satchel/digest.turnWords" = some 6 := by kernel_rfl
theorem refHAt : Tryz.prog.globalNamed "satchel/satchelref2.H" = some 0 := by kernel_rfl
theorem refKAt : Tryz.prog.globalNamed "satchel/satchelref2.K" = some 4 := by kernel_rfl
theorem block_of_var {w : World} {name : String} {g : Nat} {c : Array Value} (hg : Tryz.prog.globalNamed name = some g) (h : w.var? Tryz.prog name = some c) : ∃ ty fr, w.heap[g]? = some (.cells c ty fr) := by
  unfold World.var? at h
  rw [hg, Option.bind_some] at h
  split at h
  · rename_i cs ty fr hh
    cases h
    exact ⟨ty, fr, hh⟩
  · cases h
theorem varsX_of_laid {W : World} (h : laidMetH Tryz.prog Rows.objectExactUptoRow.laid W) : Vars W ∧ VarsR W := by
  have h' : laidMet Tryz.prog [("unicode/utf8.acceptRanges", Rows.laid_unicode_utf8_acceptRanges), ("satchel/satchelref2.H", Lib.tabData .u64 firstL), ("satchel/satchelref2.K", Lib.tabData .u64 turnK), ("satchel/digest.firstWords", Lib.tabData .u32 firstL), ("satchel/digest.turnWords", Lib.tabData .u32 turnK), ("unicode/utf8.first", Rows.laid_unicode_utf8_first)] W := h
  have t0 := Lib.tabIs_of_head (t := 119) (e := 31) (n := 8) refHAt (by kernel_rfl) Tryz.underlying119 Tryz.underlying31 (by kernel_rfl) (by kernel_rfl) h'.tail
  have t1 := Lib.tabIs_of_head (t := 145) (e := 31) (n := 64) refKAt (by kernel_rfl) Tryz.underlying145 Tryz.underlying31 (by kernel_rfl) (by kernel_rfl) h'.tail.tail
  have t2 := Lib.tabIs_of_head (t := 141) (e := 140) (n := 8) firstAt (by kernel_rfl) Tryz.underlying141 Tryz.underlying140 (by kernel_rfl) (by kernel_rfl) h'.tail.tail.tail
  have t3 := Lib.tabIs_of_head (t := 153) (e := 140) (n := 64) turnAt (by kernel_rfl) Tryz.underlying153 Tryz.underlying140 (by kernel_rfl) (by kernel_rfl) h'.tail.tail.tail.tail
  exact ⟨⟨block_of_var firstAt t2, block_of_var turnAt t3⟩, ⟨block_of_var refHAt t0, block_of_var refKAt t1⟩⟩

/-- A table of numbers as cells. -/
def litsOf : DataW Unit → List Value
  | .agg l => l.map fun d => match d with
    | .lit (.int k n) => .int k n
    | _ => .int .i64 0
  | _ => []
def setRow (c : List Value) : Obj → Obj
  | .cells _ t fr => .cells c.toArray t fr
  | o => o
/-- A world in which the six variables lie so. -/
noncomputable def worldLaid (os : Os) (args : Array Value) : World :=
  let w0 := World.holding Tryz.prog os ⟨#[], args, []⟩
  { w0 with heap := (((((w0.heap.modify (Tryz.laysValid_ren.g 3) (setRow (Lib.firstTab.map (Value.int .u8)))).modify (Tryz.laysValid_ren.g 4) (setRow ((List.range 16).flatMap fun i => [Value.int .u8 (Lib.accLo i : Int), .int .u8 (Lib.accHi i : Int)]))).modify 0 (setRow (litsOf Rows.laid_satchel_satchelref2_H))).modify 4 (setRow (litsOf Rows.laid_satchel_satchelref2_K))).modify 3 (setRow (litsOf Rows.laid_satchel_digest_firstWords))).modify 6 (setRow (litsOf Rows.laid_satchel_digest_turnWords)) }
def askV : Value := .agg #[.slice none 0 0]
theorem worldLaid_met (os : Os) : laidMet Tryz.prog Rows.objectExactUptoRow.laid ((worldLaid os #[askV]).forCall (fun _ _ => 0) ⟨#[], #[askV], []⟩).memory :=
  laidMet_of_run' 8 (by kernel_rfl) (by kernel_rfl)
theorem askReads (os : Os) {H : Type} (enc : TypeId × Value → H) : ∃ places, DataW.whole enc Tryz.prog ((worldLaid os #[askV]).forCall (fun _ _ => 0) ⟨#[], #[askV], []⟩).memory Tryz.f3.params.toList Rows.objectExactSpec.vars false #[askV].toList 8 = some ([.agg [.nil]], [], places) :=
  ⟨[], by kernel_rfl⟩

set_option maxRecDepth 100000 in
theorem objectExact_contract (H : Type) (enc : TypeId × Value → H) (W : World) (base : Nat) (args : Array Value) (ds gs : List (DataW H)) (before : List MemPlace)
    (hval0 : ∀ (j : Nat) t v, Tryz.f3.params[j]? = some t → args[j]? = some v → Value.okWide Tryz.prog W .any base t v)
    (hW : DataW.Whole enc Tryz.prog Tryz.f3.params.toList Rows.objectExactSpec.vars false W args.toList ds gs before) (hk : Rows.uptoSmall H (ds ++ gs) = true)
    (hsz0 : (DataW.weightsEach Tryz.prog (Tryz.f3.params.toList ++ Rows.objectExactSpec.plain.varTypes Tryz.prog) (ds ++ gs)).all (· ≤ reachBytes) = true) (hL : laidMetH Tryz.prog Rows.objectExactUptoRow.laid W) :
    Calls Tryz.prog 3 args W fun e W' => ∃ v, e = .returned v ∧ Rows.objectExactSpec.post enc Tryz.prog Tryz.f3 false true false false W args v W' := by
  have hsz := hsz0
  have hval := hval0
  have hW' := hW
  obtain ⟨p, q, hA0, hV, rfl, hfz, hnd⟩ := hW
  have hA : DataW.TrodAll enc Tryz.prog W 0 (fun _ => true) true Tryz.f3.params.toList args.toList ds p := hA0
  rw [Tryz.params3] at hA hval hsz
  obtain ⟨v0, d0, rfl, rfl, h0⟩ := trodAll_one hA
  obtain ⟨rfl, rfl⟩ := trodVars_none hV
  have hB : (DataW.weights Tryz.prog 24 d0).all (· ≤ 140737488351232) = true := by
    simp only [List.cons_append, List.nil_append, DataW.weightsEach, List.all_append, Bool.and_eq_true, reachBytes] at hsz
    exact hsz.1
  have h0k := h0
  obtain ⟨u, aks, rfl, hau, hga, hbu⟩ := open_asksU (hval 0 24 v0 rfl rfl) h0 hB
  have hsm : ∀ a, a ∈ aks → a.bs.length ≤ 1000000000000 := fun a ha => by
    have h := of_decide_eq_true hk
    have h2 := hbu a ha
    simp only [List.cons_append, List.nil_append, Rows.uptoBulkAll] at h
    omega
  obtain ⟨hV1, hR1⟩ := varsX_of_laid hL
  clear hA0 hval0 hsz0
  simp only [List.append_nil] at hW'
  have hlt : ∀ x ∈ p, x.block < W.heap.size := fun x hx => by simpa using hW'.lt x hx
  refine (exact_any hau hga (tabs_of_laid hL) hV1 hR1 hsm).mono fun e W' ⟨he, hk'⟩ => ?_
  subst he
  have hbel : Below W.heap.size W W' := hk'.below (Nat.le_refl _) (by simp)
  refine ⟨_, rfl, _, _, _, [], p, [], hW', ?_, ?_, rfl, hbel.frame _, fun h => by cases h⟩
  · exact trodAll_mk1 (shut_bool Tryz.underlying4 _)
  · exact trodAll_mk1 (Below.trod Tryz.laidOut (by kernel_rfl) (of_decide_eq_true (by kernel_rfl)) h0k hbel hlt)

set_option maxRecDepth 100000 in
theorem objectExact_lifted (os : Os) (started : os.Started) (H : Type) (enc : TypeId × Value → H) (F : Stop.Interp) :
    ReturnsInHanded {} Tryz.checked os 3 .any ((Rows.OpenSpec.upto Rows.objectExactSpec).preRow enc Tryz.prog Tryz.f3 Rows.objectExactUptoRow.domain false Rows.objectExactUptoRow.laid) (((Rows.OpenSpec.upto Rows.objectExactSpec).at F).post enc Tryz.prog Tryz.f3 false true false false) := by
  obtain ⟨places, hx⟩ := askReads os enc
  refine returnsInHanded_of_row (C := Tryz.checked) (s := Rows.OpenSpec.upto Rows.objectExactSpec) Tryz.own started (by kernel_rfl) Tryz.func3
    (witness_row_at (enc := enc) (C := Tryz.checked) false (worldLaid os #[askV]) #[askV] rfl (by kernel_rfl) (by kernel_rfl) (by kernel_rfl)
      (OpenSpec.preRow_of_cond 8 hx (by kernel_rfl) (fun k hk => by cases hk; kernel_rfl) (by kernel_rfl) (worldLaid_met os))) ?_
  intro W base args ds gs before hval hW _ hcond hsz hL _ _
  exact objectExact_contract H enc W base args ds gs before hval hW (hcond _ rfl) hsz hL

theorem objectExact_said : Rows.ObjectExactUptoSaid :=
  OpenClaim.holds_of_cond 3 Tryz.f3 rfl rfl rfl rfl rfl rfl rfl ⟨rfl, rfl, rfl, rfl, rfl⟩ rfl rfl rfl rfl rfl (by kernel_rfl) Tryz.func3 (by kernel_rfl)
    (of_decide_eq_true (by kernel_rfl)) (by unfold Func.isWrapper; first | (rw [if_pos (by decide +kernel)]; kernel_rfl) | (rw [if_neg (by decide +kernel)]; exact ⟨rfl, rfl⟩))
    (fun os started H enc _ F => by rw [OpenClaim.pre_eq_preRow]; exact objectExact_lifted os started H enc F)

theorem objectExact_holds : Rows.ObjectExactUptoCardSaid :=
  Claim7.holds_tied_plain_at .later [] _ _ _ _ objectExact_said (fun _ h => by cases h) (by kernel_rfl) (fun _ h => by cases h) objectExactUpto_row_tie rfl ⟨rfl, rfl⟩ (by kernel_rfl) rfl
    (fun f fn hf hfn => by
      obtain rfl : f = 3 := Option.some.inj ((show Tryz.prog.funcNamed "satchel/satchellaw3.ObjectExact" = some 3 by kernel_rfl).symm.trans hf) |>.symm
      obtain rfl : fn = Tryz.f3 := (Option.some.inj (Tryz.func3.symm.trans hfn)).symm
      refine ⟨by kernel_rfl, fun j t ht => ?_⟩
      rw [Tryz.params3] at ht
      obtain rfl : t = 24 := by simpa using Array.mem_of_getElem? ht
      exact (show Tryz.prog.wantsStandIn 24 = false by kernel_rfl))
    (by kernel_rfl)
#print axioms objectExact_holds
end Go.Proofs.YtfcoeinhfdbcgaaGreatDoor
