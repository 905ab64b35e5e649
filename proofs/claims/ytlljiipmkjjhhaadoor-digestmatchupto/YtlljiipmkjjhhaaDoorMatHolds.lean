/-
  PROVED: satchellaw2.DigestMatch answers true and changes nothing that was handed in: of a list of ids digest.Match tells just those that begin so, sorted, each once; a beginning that is none is refused by its error; the list is neither changed nor kept, and what is told is the caller's own (a book of the lists that were told finds each as it was written to); with other ids in it the answer is that of the document's own Match (satchelref2). Condition: what is handed in is of bulk at most 1048576 (the second form); the walk needs of it only that the list has at most 100000 ids and the beginning at most 10 to the 9 letters.
  And: the variables digest.firstWords and digest.turnWords hold what the program's text lays (the card ties them to the text of a pruned copy of the project: of the project's other packages it says nothing).
-/
import Derived.Test.YtlljiipmkjjhhaaDoorDm7
import Derived.Test.YtlljiipmkjjhhaaDoorOpenId
import Derived.Test.YtlljiipmkjjhhaaDoorRows
import Derived.Test.YtlljiipmkjjhhaaDoorCards
import Derived.Test.YtlljiipmkjjhhaaDoorTie
import Derived.ProofKit
import Derived.OpenShut
import Derived.Deep.DeepHandedRow
import Derived.Lib.LaidTab
import Derived.Stop.LaidErr
import Derived.LaidHandle
namespace Go.Proofs.YtlljiipmkjjhhaaDoor
open Go.ChangeShapes Go.WideShapes Go.ChangeAt Go.RowKit

theorem matOwn : ownKnob Tryd.prog.godebug = none := by kernel_rfl
theorem matLaidOut : laidOutB Tryd.prog = true := by kernel_rfl
theorem firstAt : Tryd.prog.globalNamed "satchel/digest.firstWords" = some 1 := by kernel_rfl
theorem turnAt : Tryd.prog.globalNamed "satchel/digest.turnWords" = some 2 := by kernel_rfl
abbrev listed : List (String × DataW Unit) := [("satchel/digest.firstWords", Rows.laid_satchel_digest_firstWords), ("satchel/digest.turnWords", Rows.laid_satchel_digest_turnWords)]

theorem block_of_var {w : World} {name : String} {g : Nat} {c : Array Value} (hg : Tryd.prog.globalNamed name = some g) (h : w.var? Tryd.prog name = some c) : ∃ ty fr, w.heap[g]? = some (.cells c ty fr) := by
  unfold World.var? at h
  rw [hg, Option.bind_some] at h
  split at h
  · rename_i cs ty fr hh
    cases h
    exact ⟨ty, fr, hh⟩
  · cases h

theorem vars_of_laid {W : World} (h : laidMetH Tryd.prog listed W) : Vars W := by
  have h' : laidMet Tryd.prog [("satchel/digest.firstWords", Lib.tabData .u32 firstL), ("satchel/digest.turnWords", Lib.tabData .u32 turnK)] W := h
  have t0 := Lib.tabIs_of_head (t := 92) (e := 89) (n := 8) firstAt (by kernel_rfl) Tryd.underlying92 Tryd.underlying89 (by kernel_rfl) (by kernel_rfl) h'
  have t1 := Lib.tabIs_of_head (t := 134) (e := 89) (n := 64) turnAt (by kernel_rfl) Tryd.underlying134 Tryd.underlying89 (by kernel_rfl) (by kernel_rfl) h'.tail
  exact ⟨block_of_var firstAt t0, block_of_var turnAt t1⟩

/-- A world in which they lie so. -/
noncomputable def worldLaid (os : Os) (args : Array Value) : World :=
  let w0 := World.holding Tryd.prog os ⟨#[], args, []⟩
  { w0 with heap := (w0.heap.modify 1 fun
      | .cells _ t fr => .cells (wC firstL) t fr
      | o => o).modify 2 fun
      | .cells _ t fr => .cells (wC turnK) t fr
      | o => o }
set_option maxRecDepth 100000 in
theorem matContract (H : Type) (enc : TypeId × Value → H) (W : World) (base : Nat) (args : Array Value) (ds gs : List (DataW H)) (before : List MemPlace)
    (hval0 : ∀ (j : Nat) t v, Tryd.f3.params[j]? = some t → args[j]? = some v → Value.okWide Tryd.prog W .any base t v)
    (hW : DataW.Whole enc Tryd.prog Tryd.f3.params.toList Rows.digestMatchSpec.vars false W args.toList ds gs before) (hk : Rows.uptoSmall H (ds ++ gs) = true) (hL : laidMetH Tryd.prog Rows.digestMatchUptoRow.laid W) :
    Calls Tryd.prog 3 args W fun e W' => ∃ v, e = .returned v ∧ Rows.digestMatchSpec.post enc Tryd.prog Tryd.f3 false true false false W args v W' := by
  have hval : ∀ (j : Nat) t v, Tryd.f3.params[j]? = some t → args[j]? = some v → Value.okWide Tryd.prog W .any base t v := hval0
  have hW' := hW
  obtain ⟨p, q, hA0, hV, rfl, hfz, hnd⟩ := hW
  have hA : DataW.TrodAll enc Tryd.prog W 0 (fun _ => true) true Tryd.f3.params.toList args.toList ds p := hA0
  rw [Tryd.params3] at hA hval
  obtain ⟨v0, d0, rfl, rfl, h0⟩ := trodAll_one hA
  obtain ⟨rfl, rfl⟩ := trodVars_none hV
  have h0k := h0
  have hB : Rows.uptoBulk d0 ≤ 1048576 := by
    have h := of_decide_eq_true hk
    simp only [List.cons_append, List.nil_append, Rows.uptoBulkAll] at h
    omega
  obtain ⟨ao, c, ids, id, cs0, po, pc, ps, rfl, hc0, hc1, hc33, hv, hg, hid, hx, hp, hbulk⟩ := open_ids (hval 0 27 v0 rfl rfl) h0 (by omega)
  have hV1 := vars_of_laid hL
  clear hA0 hval0
  simp only [List.append_nil] at hW'
  have hlt : ∀ x ∈ p, x.block < W.heap.size := fun x hx => by simpa using hW'.lt x hx
  refine (digestMatch_any W hV1 ao c ids po pc ps cs0 hv hg (by omega) hx hp (by omega) hc0 hc33).mono fun e W' ⟨he, hk'⟩ => ?_
  subst he
  have hbel : Below W.heap.size W W' := hk'.below (Nat.le_refl _) (by simp)
  refine ⟨_, rfl, _, _, _, [], p, [], hW', ?_, ?_, rfl, hbel.frame _, fun h => by cases h⟩
  · exact trodAll_mk1 (shut_bool Tryd.underlying4 _)
  · exact trodAll_mk1 (Below.trod matLaidOut (by kernel_rfl) (of_decide_eq_true (by kernel_rfl)) h0k hbel hlt)

noncomputable def matArg : Value := .agg (#[.slice none 0 0] ++ idC (List.replicate 32 0) ++ #[.slice none 0 0])
theorem matLaid (os : Os) : laidMet Tryd.prog Rows.digestMatchUptoRow.laid ((worldLaid os #[matArg]).forCall (fun _ _ => 0) ⟨#[], #[matArg], []⟩).memory :=
  laidMet_of_run' 8 (by kernel_rfl) (by kernel_rfl)
theorem matReads (os : Os) {H : Type} (enc : TypeId × Value → H) : ∃ places, DataW.whole enc Tryd.prog ((worldLaid os #[matArg]).forCall (fun _ _ => 0) ⟨#[], #[matArg], []⟩).memory Tryd.f3.params.toList Rows.digestMatchSpec.vars false #[matArg].toList 8 = some ([.agg [.nil, .agg (List.replicate 32 (.lit (.int .u8 0))), .nil]], [], places) :=
  ⟨[], by kernel_rfl⟩

set_option maxRecDepth 100000 in
theorem matLifted (os : Os) (started : os.Started) (H : Type) (enc : TypeId × Value → H) (F : Stop.Interp) :
    ReturnsInHanded {} Tryd.checked os 3 .any ((Rows.OpenSpec.upto Rows.digestMatchSpec).preRow enc Tryd.prog Tryd.f3 Rows.digestMatchUptoRow.domain false Rows.digestMatchUptoRow.laid) (((Rows.OpenSpec.upto Rows.digestMatchSpec).at F).post enc Tryd.prog Tryd.f3 false true false false) := by
  obtain ⟨places, hx⟩ := matReads os enc
  refine returnsInHanded_of_row (C := Tryd.checked) (s := Rows.OpenSpec.upto Rows.digestMatchSpec) matOwn started (by kernel_rfl) Tryd.func3
    (witness_row_at (enc := enc) (C := Tryd.checked) false (worldLaid os #[matArg]) #[matArg] rfl (by kernel_rfl) (by kernel_rfl) (by kernel_rfl)
      (OpenSpec.preRow_of_cond 8 hx (by kernel_rfl) (fun k hk => by cases hk; kernel_rfl) (by kernel_rfl) (matLaid os))) ?_
  intro W base args ds gs before hval hW _ hcond _ hL _ _
  exact matContract H enc W base args ds gs before hval hW (hcond _ rfl) hL

theorem matSaid : Rows.DigestMatchUptoSaid :=
  OpenClaim.holds_of_cond 3 Tryd.f3 rfl rfl rfl rfl rfl rfl rfl ⟨rfl, rfl, rfl, rfl, rfl⟩ rfl rfl rfl rfl rfl (by kernel_rfl) Tryd.func3 (by kernel_rfl)
    (of_decide_eq_true (by kernel_rfl)) (by unfold Func.isWrapper; first | (rw [if_pos (by decide +kernel)]; kernel_rfl) | (rw [if_neg (by decide +kernel)]; exact ⟨rfl, rfl⟩))
    (fun os started H enc _ F => by rw [OpenClaim.pre_eq_preRow]; exact matLifted os started H enc F)

theorem matPlain (f : FuncId) (fn : Func) (hf : Tryd.pinned.checked.prog.funcNamed "satchel/satchellaw2.DigestMatch" = some f) (hfn : Tryd.pinned.checked.prog.funcs[f]? = some fn) :
    false = Tryd.pinned.checked.prog.looks [] ∧ ∀ (j : Nat) t, fn.params[j]? = some t → Tryd.pinned.checked.prog.wantsStandIn t = false := by
  obtain rfl : f = 3 := Option.some.inj ((show Tryd.prog.funcNamed "satchel/satchellaw2.DigestMatch" = some 3 by kernel_rfl).symm.trans hf) |>.symm
  obtain rfl : fn = Tryd.f3 := (Option.some.inj (Tryd.func3.symm.trans hfn)).symm
  refine ⟨by kernel_rfl, fun j t ht => ?_⟩
  rw [Tryd.params3] at ht
  obtain rfl : t = 27 := by simpa using Array.mem_of_getElem? ht
  exact (show Tryd.prog.wantsStandIn 27 = false by kernel_rfl)

theorem digestMatch_holds : Rows.DigestMatchUptoCardSaid :=
  Claim7.holds_tied_plain_at .later [] _ _ _ _ matSaid (fun _ h => by cases h) (by kernel_rfl) (fun _ h => by cases h) digestMatchUpto_row_tie rfl ⟨rfl, rfl⟩ (by kernel_rfl) rfl matPlain (by kernel_rfl)
#print axioms digestMatch_holds
end Go.Proofs.YtlljiipmkjjhhaaDoor
