/-
  PROVED: satchellaw1.CodeMany answers true and changes nothing that was handed in: up to 64 Writers of package code that are laid to in turns hold just what was laid into each, by the document's own forms, and as many Readers over that read each their own number first and have the rest left. Condition: what is handed in is of bulk at most 1048576 (the second form); the walk needs of it only that all the lists together have at most 140737488341232 bytes.
-/
import Derived.Test.YtnnbfdnkpohnfaaMany
import Derived.Test.YtnnbfdnkpohnfaaManyOpen
import Derived.Deep.CondSized
namespace Go.Proofs.Ytnnbfdnkpohnfaa
open Go.ChangeShapes Go.WideShapes Go.ChangeAt Go.RowKit

theorem manyOwn : ownKnob Try.prog.godebug = none := by kernel_rfl
theorem manyLaidOut : laidOutB Try.prog = true := by kernel_rfl

set_option maxRecDepth 100000 in
theorem codeMany_lifted (os : Os) (started : os.Started) (H : Type) (enc : TypeId × Value → H) (F : Stop.Interp) :
    ReturnsInHanded {} Try.checked os 4 .any ((Rows.OpenSpec.upto Rows.codeManySpec).pre6 enc Try.prog Try.f4 Rows.codeManyUptoRow.domain false) (((Rows.OpenSpec.upto Rows.codeManySpec).at F).post enc Try.prog Try.f4 false true false false) := by
  refine returnsInHanded_of_cond_sized (C := Try.checked) (s := Rows.OpenSpec.upto Rows.codeManySpec) (k := Rows.uptoSmall) rfl manyOwn started (by kernel_rfl) Try.func4
    (OpenSpec.witness (enc := enc) (C := Try.checked) (s := Rows.OpenSpec.upto Rows.codeManySpec) (k := Rows.uptoSmall) rfl false ⟨#[], #[.agg #[.int .i64 0, .slice none 0 0]], []⟩ 8 (by kernel_rfl) (by kernel_rfl) (by kernel_rfl)
      (x := ([.agg [.lit (.int .i64 0), .nil]], [], [])) (by kernel_rfl) rfl (by kernel_rfl)) ?_
  intro W base args ds gs before hval0 hW _ hk hsz0 _
  have hsz : (DataW.weightsEach Try.prog (Try.f4.params.toList ++ Rows.codeManySpec.plain.varTypes Try.prog) (ds ++ gs)).all (· ≤ reachBytes) = true := hsz0
  have hval : ∀ (j : Nat) t v, Try.f4.params[j]? = some t → args[j]? = some v → Value.okWide Try.prog W .any base t v := hval0
  have hW' := hW
  obtain ⟨p, q, hA0, hV, rfl, hfz, hnd⟩ := hW
  have hA : DataW.TrodAll enc Try.prog W 0 (fun _ => true) true Try.f4.params.toList args.toList ds p := hA0
  rw [Try.params4] at hA hval hsz
  obtain ⟨v0, d0, rfl, rfl, h0⟩ := trodAll_one hA
  obtain ⟨rfl, rfl⟩ := trodVars_none hV
  have hB : (DataW.weights Try.prog 42 d0).all (· ≤ 140737488351232) = true := by
    simp only [List.cons_append, List.nil_append, DataW.weightsEach, List.all_append, Bool.and_eq_true, reachBytes] at hsz
    exact hsz.1
  have h0k := h0
  obtain ⟨n0, ao, c, ls, rfl, hn0, hn1, hls, hgd, hll, hbulk⟩ := open_crowd (hval 0 42 v0 rfl rfl) h0 hB
  have hsum : sumL ls + 10000 ≤ 140737488351232 := by
    have h := of_decide_eq_true hk
    simp only [List.cons_append, List.nil_append, Rows.uptoBulkAll] at h
    omega
  clear hA0 hval0 hsz0
  simp only [List.append_nil] at hW'
  have hlt : ∀ x ∈ p, x.block < W.heap.size := fun x hx => by simpa using hW'.lt x hx
  refine (many_any W n0 hn0 hn1 ao c ls hls hgd hll hsum).mono fun e W' ⟨he, hk'⟩ => ?_
  subst he
  have hbel : Below W.heap.size W W' := hk'.below (Nat.le_refl _) (by simp)
  refine ⟨_, rfl, _, _, _, [], p, [], hW', ?_, ?_, rfl, hbel.frame _, fun h => by cases h⟩
  · exact trodAll_mk1 (shut_bool Try.underlying4 _)
  · exact trodAll_mk1 (Below.trod manyLaidOut (by kernel_rfl) (of_decide_eq_true (by kernel_rfl)) h0k hbel hlt)

theorem codeMany_holds : Rows.CodeManyUptoSaid :=
  OpenClaim.holds_of_cond 4 Try.f4 rfl rfl rfl rfl rfl rfl rfl ⟨rfl, rfl, rfl, rfl, rfl⟩ rfl rfl rfl rfl rfl (by kernel_rfl) Try.func4 (by kernel_rfl)
    (of_decide_eq_true (by kernel_rfl)) (by unfold Func.isWrapper; first | (rw [if_pos (by decide +kernel)]; kernel_rfl) | (rw [if_neg (by decide +kernel)]; exact ⟨rfl, rfl⟩))
    (fun os started H enc _ F => codeMany_lifted os started H enc F)
#print axioms codeMany_holds

end Go.Proofs.Ytnnbfdnkpohnfaa
