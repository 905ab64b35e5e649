/-
  PROVED: satchellaw1.CodeFresh answers true and changes nothing that was handed in: what a Writer and a Reader of package code hand out is left as it is for a while and holds what it must; then it is written full by the caller and appended to, and nothing else is changed by that, then or later: not the Writer, not the Reader, not another answer. Condition: what is handed in is of bulk at most 1048576 (the second form); the walk needs of it only that the list that is read and all the lists of the steps together have at most 49999995000 bytes each.
-/
import Derived.Test.YtmambfdfkobjgaaCf1
import Derived.Test.YtmambfdfkobjgaaOpen
import Derived.Deep.CondSized
namespace Go.Proofs.Ytmambfdfkobjgaa
open Go.ChangeShapes Go.WideShapes Go.ChangeAt Go.RowKit

theorem cfreshOwn : ownKnob Try.prog.godebug = none := by kernel_rfl
theorem cfreshLaidOut : laidOutB Try.prog = true := by kernel_rfl

set_option maxRecDepth 100000 in
theorem codeFresh_lifted (os : Os) (started : os.Started) (H : Type) (enc : TypeId × Value → H) (F : Stop.Interp) :
    ReturnsInHanded {} Try.checked os 3 .any ((Rows.OpenSpec.upto Rows.codeFreshSpec).pre6 enc Try.prog Try.f3 Rows.codeFreshUptoRow.domain false) (((Rows.OpenSpec.upto Rows.codeFreshSpec).at F).post enc Try.prog Try.f3 false true false false) := by
  refine returnsInHanded_of_cond_sized (C := Try.checked) (s := Rows.OpenSpec.upto Rows.codeFreshSpec) (k := Rows.uptoSmall) rfl cfreshOwn started (by kernel_rfl) Try.func3
    (OpenSpec.witness (enc := enc) (C := Try.checked) (s := Rows.OpenSpec.upto Rows.codeFreshSpec) (k := Rows.uptoSmall) rfl false ⟨#[], #[.agg #[.slice none 0 0, .slice none 0 0, .slice none 0 0]], []⟩ 8 (by kernel_rfl) (by kernel_rfl) (by kernel_rfl)
      (x := ([.agg [.agg [.nil, .nil], .nil]], [], [])) (by kernel_rfl) rfl (by kernel_rfl)) ?_
  intro W base args ds gs before hval0 hW _ hk hsz0 _
  have hsz : (DataW.weightsEach Try.prog (Try.f3.params.toList ++ Rows.codeFreshSpec.plain.varTypes Try.prog) (ds ++ gs)).all (· ≤ reachBytes) = true := hsz0
  have hval : ∀ (j : Nat) t v, Try.f3.params[j]? = some t → args[j]? = some v → Value.okWide Try.prog W .any base t v := hval0
  have hW' := hW
  obtain ⟨p, q, hA0, hV, rfl, hfz, hnd⟩ := hW
  have hA : DataW.TrodAll enc Try.prog W 0 (fun _ => true) true Try.f3.params.toList args.toList ds p := hA0
  rw [Try.params3] at hA hval hsz
  obtain ⟨v0, d0, rfl, rfl, h0⟩ := trodAll_one hA
  obtain ⟨rfl, rfl⟩ := trodVars_none hV
  have hB : (DataW.weights Try.prog 26 d0).all (· ≤ 140737488351232) = true := by
    simp only [List.cons_append, List.nil_append, DataW.weightsEach, List.all_append, Bool.and_eq_true, reachBytes] at hsz
    exact hsz.1
  have h0k := h0
  obtain ⟨ao0, c0, xs, ao1, c1, ys, ao2, c2, ops, rfl, hb0, ho0, hs0, hb1, ho1, hs1, hb2, hg2, hbulk⟩ := open_script (hval 0 26 v0 rfl rfl) h0 hB
  have hsum : sumB ops + 5000 ≤ 50000000000 ∧ xs.length ≤ 50000000000 := by
    have h := of_decide_eq_true hk
    simp only [List.cons_append, List.nil_append, Rows.uptoBulkAll] at h
    omega
  clear hA0 hval0 hsz0
  simp only [List.append_nil] at hW'
  have hlt : ∀ x ∈ p, x.block < W.heap.size := fun x hx => by simpa using hW'.lt x hx
  refine (cfresh_any W ao0 c0 xs _ ao2 c2 ops hb0 ho0 hsum.2 hb2 hg2 hsum.1).mono fun e W' ⟨he, hk'⟩ => ?_
  subst he
  have hbel : Below W.heap.size W W' := hk'.below (Nat.le_refl _) (by simp)
  refine ⟨_, rfl, _, _, _, [], p, [], hW', ?_, ?_, rfl, hbel.frame _, fun h => by cases h⟩
  · exact trodAll_mk1 (shut_bool Try.underlying4 _)
  · exact trodAll_mk1 (Below.trod cfreshLaidOut (by kernel_rfl) (of_decide_eq_true (by kernel_rfl)) h0k hbel hlt)

theorem codeFresh_holds : Rows.CodeFreshUptoSaid :=
  OpenClaim.holds_of_cond 3 Try.f3 rfl rfl rfl rfl rfl rfl rfl ⟨rfl, rfl, rfl, rfl, rfl⟩ rfl rfl rfl rfl rfl (by kernel_rfl) Try.func3 (by kernel_rfl)
    (of_decide_eq_true (by kernel_rfl)) (by unfold Func.isWrapper; first | (rw [if_pos (by decide +kernel)]; kernel_rfl) | (rw [if_neg (by decide +kernel)]; exact ⟨rfl, rfl⟩))
    (fun os started H enc _ F => codeFresh_lifted os started H enc F)
#print axioms codeFresh_holds

end Go.Proofs.Ytmambfdfkobjgaa
