/-
  PROVED: satchellaw2.DigestShort answers true and changes nothing that was handed in: an abbreviation by digest.Short has four digits at least, is a beginning of its id's digits and of no other id's of the list, and one digit less, if it has more than four, would be another one's too; the list is neither changed nor kept: with other ids in it the abbreviation is that among these. Condition: what is handed in is of bulk at most 1048576 (the second form); the walk needs of it only that the list has at most 4398046511102 ids.
-/
import Derived.Test.YtonnapjbplknlaaShort10
import Derived.Test.YtonnapjbplknlaaOpenId
import Derived.Deep.CondSized
namespace Go.Proofs.Ytonnapjbplknlaa
open Go.ChangeShapes Go.WideShapes Go.ChangeAt Go.RowKit

theorem shortOwn : ownKnob Try.prog.godebug = none := by kernel_rfl
theorem shortLaidOut : laidOutB Try.prog = true := by kernel_rfl

set_option maxRecDepth 100000 in
theorem digestShort_lifted (os : Os) (started : os.Started) (H : Type) (enc : TypeId × Value → H) (F : Stop.Interp) :
    ReturnsInHanded {} Try.checked os 3 .any ((Rows.OpenSpec.upto Rows.digestShortSpec).pre6 enc Try.prog Try.f3 Rows.digestShortUptoRow.domain false) (((Rows.OpenSpec.upto Rows.digestShortSpec).at F).post enc Try.prog Try.f3 false true false false) := by
  refine returnsInHanded_of_cond_sized (C := Try.checked) (s := Rows.OpenSpec.upto Rows.digestShortSpec) (k := Rows.uptoSmall) rfl shortOwn started (by kernel_rfl) Try.func3
    (OpenSpec.witness (enc := enc) (C := Try.checked) (s := Rows.OpenSpec.upto Rows.digestShortSpec) (k := Rows.uptoSmall) rfl false ⟨#[], #[.agg (#[.slice none 0 0] ++ idC (List.replicate 32 0) ++ #[.slice none 0 0])], []⟩ 8 (by kernel_rfl) (by kernel_rfl) (by kernel_rfl)
      (x := ([.agg [.nil, .agg (List.replicate 32 (.lit (.int .u8 0))), .nil]], [], [])) (by kernel_rfl) rfl (by kernel_rfl)) ?_
  intro W base args ds gs before hval0 hW _ hk hsz0 _
  have hsz : (DataW.weightsEach Try.prog (Try.f3.params.toList ++ Rows.digestShortSpec.plain.varTypes Try.prog) (ds ++ gs)).all (· ≤ reachBytes) = true := hsz0
  have hval : ∀ (j : Nat) t v, Try.f3.params[j]? = some t → args[j]? = some v → Value.okWide Try.prog W .any base t v := hval0
  have hW' := hW
  obtain ⟨p, q, hA0, hV, rfl, hfz, hnd⟩ := hW
  have hA : DataW.TrodAll enc Try.prog W 0 (fun _ => true) true Try.f3.params.toList args.toList ds p := hA0
  rw [Try.params3] at hA hval hsz
  obtain ⟨v0, d0, rfl, rfl, h0⟩ := trodAll_one hA
  obtain ⟨rfl, rfl⟩ := trodVars_none hV
  have hB : Rows.uptoBulk d0 ≤ 1048576 := by
    have h := of_decide_eq_true hk
    simp only [List.cons_append, List.nil_append, Rows.uptoBulkAll] at h
    omega
  have h0k := h0
  obtain ⟨ao, c, ids, id, cs0, po, pc, ps, rfl, hc0, hc1, _, hv, hg, hid, _, _, hbulk⟩ := open_ids (hval 0 27 v0 rfl rfl) h0 (by omega)
  clear hA0 hval0 hsz0
  simp only [List.append_nil] at hW'
  have hlt : ∀ x ∈ p, x.block < W.heap.size := fun x hx => by simpa using hW'.lt x hx
  refine (digestShort_any W ao c ids id cs0 hv hg hid (by omega) hc0 hc1).mono fun e W' ⟨he, hk'⟩ => ?_
  subst he
  have hbel : Below W.heap.size W W' := hk'.below (Nat.le_refl _) (by simp)
  refine ⟨_, rfl, _, _, _, [], p, [], hW', ?_, ?_, rfl, hbel.frame _, fun h => by cases h⟩
  · exact trodAll_mk1 (shut_bool Try.underlying4 _)
  · exact trodAll_mk1 (Below.trod shortLaidOut (by kernel_rfl) (of_decide_eq_true (by kernel_rfl)) h0k hbel hlt)

theorem digestShort_holds : Rows.DigestShortUptoSaid :=
  OpenClaim.holds_of_cond 3 Try.f3 rfl rfl rfl rfl rfl rfl rfl ⟨rfl, rfl, rfl, rfl, rfl⟩ rfl rfl rfl rfl rfl (by kernel_rfl) Try.func3 (by kernel_rfl)
    (of_decide_eq_true (by kernel_rfl)) (by unfold Func.isWrapper; first | (rw [if_pos (by decide +kernel)]; kernel_rfl) | (rw [if_neg (by decide +kernel)]; exact ⟨rfl, rfl⟩))
    (fun os started H enc _ F => digestShort_lifted os started H enc F)
#print axioms digestShort_holds

end Go.Proofs.Ytonnapjbplknlaa
