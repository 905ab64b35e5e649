/-
  PROVED: satchellaw7.DeltaStrict answers true and changes nothing that was handed in: of a delta that Make gives no part that ends earlier gives anything by Apply, with bytes behind it it is no delta, and on a base of another length it is refused as such. Condition: what is handed in is of bulk at most 1048576 (the second form).
-/
import Derived.Test.YtoohomfnbkdhfaaDsOpen
import Derived.Deep.CondSized
namespace Go.Proofs.Ytoohomfnbkdhfaa
open Go.ChangeShapes Go.WideShapes Go.ChangeAt Go.RowKit

theorem strict7Own : ownKnob Try.prog.godebug = none := by kernel_rfl
theorem strict7LaidOut : laidOutB Try.prog = true := by kernel_rfl

set_option maxRecDepth 100000 in
theorem deltaStrict_lifted (os : Os) (started : os.Started) (H : Type) (enc : TypeId × Value → H) (F : Stop.Interp) :
    ReturnsInHanded {} Try.checked os 4 .any ((Rows.OpenSpec.upto Rows.deltaStrictSpec).pre6 enc Try.prog Try.f4 Rows.deltaStrictUptoRow.domain false) (((Rows.OpenSpec.upto Rows.deltaStrictSpec).at F).post enc Try.prog Try.f4 false true false false) := by
  refine returnsInHanded_of_cond_sized (C := Try.checked) (s := Rows.OpenSpec.upto Rows.deltaStrictSpec) (k := Rows.uptoSmall) rfl strict7Own started (by kernel_rfl) Try.func4
    (OpenSpec.witness (enc := enc) (C := Try.checked) (s := Rows.OpenSpec.upto Rows.deltaStrictSpec) (k := Rows.uptoSmall) rfl false ⟨#[], #[.agg #[.slice none 0 0, .slice none 0 0, .int .i64 0, .slice none 0 0]], []⟩ 8 (by kernel_rfl) (by kernel_rfl) (by kernel_rfl)
      (x := ([.agg [.nil, .nil, .lit (.int .i64 0), .nil]], [], [])) (by kernel_rfl) rfl (by kernel_rfl)) ?_
  intro W base args ds gs before hval0 hW _ hk hsz0 _
  have hval : ∀ (j : Nat) t v, Try.f4.params[j]? = some t → args[j]? = some v → Value.okWide Try.prog W .any base t v := hval0
  have hW' := hW
  obtain ⟨p, q, hA0, hV, rfl, hfz, hnd⟩ := hW
  have hA : DataW.TrodAll enc Try.prog W 0 (fun _ => true) true Try.f4.params.toList args.toList ds p := hA0
  rw [Try.params4] at hA hval
  obtain ⟨v0, d0, rfl, rfl, h0⟩ := trodAll_one hA
  obtain ⟨rfl, rfl⟩ := trodVars_none hV
  have h0k := h0
  obtain ⟨ab, cb, bs, ad, ct, ts, a, am, cm, ms, rfl, hb0, ho0, hb1, ho1, ha, hb3, ho3, hbulk⟩ := open_edge (hval 0 43 v0 rfl rfl) h0
  have hsum : bs.length + ts.length + ms.length ≤ 1048576 := by
    have h := of_decide_eq_true hk
    simp only [List.cons_append, List.nil_append, Rows.uptoBulkAll] at h
    omega
  clear hA0 hval0 hsz0
  simp only [List.append_nil] at hW'
  have hlt : ∀ x ∈ p, x.block < W.heap.size := fun x hx => by simpa using hW'.lt x hx
  refine (strict_any hb0 ho0 (by omega) hb1 ho1 (by omega) ha.1 ha.2 hb3 ho3 (by omega)).mono fun e W' ⟨he, hk'⟩ => ?_
  subst he
  have hbel : Below W.heap.size W W' := hk'.below (Nat.le_refl _) (by simp)
  refine ⟨_, rfl, _, _, _, [], p, [], hW', ?_, ?_, rfl, hbel.frame _, fun h => by cases h⟩
  · exact trodAll_mk1 (shut_bool Try.underlying4 _)
  · exact trodAll_mk1 (Below.trod strict7LaidOut (by kernel_rfl) (of_decide_eq_true (by kernel_rfl)) h0k hbel hlt)

theorem deltaStrict_holds : Rows.DeltaStrictUptoSaid :=
  OpenClaim.holds_of_cond 4 Try.f4 rfl rfl rfl rfl rfl rfl rfl ⟨rfl, rfl, rfl, rfl, rfl⟩ rfl rfl rfl rfl rfl (by kernel_rfl) Try.func4 (by kernel_rfl)
    (of_decide_eq_true (by kernel_rfl)) (by unfold Func.isWrapper; first | (rw [if_pos (by decide +kernel)]; kernel_rfl) | (rw [if_neg (by decide +kernel)]; exact ⟨rfl, rfl⟩))
    (fun os started H enc _ F => deltaStrict_lifted os started H enc F)
#print axioms deltaStrict_holds

end Go.Proofs.Ytoohomfnbkdhfaa
