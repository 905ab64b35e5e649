/-
  PROVED: satchellaw1.CodePlace answers true and changes nothing that was handed in: neither a Reader nor a Writer of package code keeps the list that it is given: other bytes in the very same list are read, and written, as what they are, and what was read or written ahead of that stays. Condition: what is handed in is of bulk at most 1048576 (the second form); the walk needs of it only that the first list has at most so many bytes.
-/
import Derived.Test.YtkhcofdcokngkaaPlace
import Derived.Test.YtkhcofdcokngkaaOpen
import Derived.Deep.CondSized
namespace Go.Proofs.Ytkhcofdcokngkaa
open Go.ChangeShapes Go.WideShapes Go.ChangeAt Go.RowKit

theorem placeOwn : ownKnob Try.prog.godebug = none := by kernel_rfl
theorem placeLaidOut : laidOutB Try.prog = true := by kernel_rfl

set_option maxRecDepth 100000 in
theorem codePlace_lifted (os : Os) (started : os.Started) (H : Type) (enc : TypeId × Value → H) (F : Stop.Interp) :
    ReturnsInHanded {} Try.checked os 6 .any ((Rows.OpenSpec.upto Rows.codePlaceSpec).pre6 enc Try.prog Try.f6 Rows.codePlaceUptoRow.domain false) (((Rows.OpenSpec.upto Rows.codePlaceSpec).at F).post enc Try.prog Try.f6 false true false false) := by
  refine returnsInHanded_of_cond_sized (C := Try.checked) (s := Rows.OpenSpec.upto Rows.codePlaceSpec) (k := Rows.uptoSmall) rfl placeOwn started (by kernel_rfl) Try.func6
    (OpenSpec.witness (enc := enc) (C := Try.checked) (s := Rows.OpenSpec.upto Rows.codePlaceSpec) (k := Rows.uptoSmall) rfl false ⟨#[], #[.agg #[.slice none 0 0, .slice none 0 0, .slice none 0 0]], []⟩ 8 (by kernel_rfl) (by kernel_rfl) (by kernel_rfl)
      (x := ([.agg [.agg [.nil, .nil], .nil]], [], [])) (by kernel_rfl) rfl (by kernel_rfl)) ?_
  intro W base args ds gs before hval0 hW _ hk hsz0 _
  have hsz : (DataW.weightsEach Try.prog (Try.f6.params.toList ++ Rows.codePlaceSpec.plain.varTypes Try.prog) (ds ++ gs)).all (· ≤ reachBytes) = true := hsz0
  have hval : ∀ (j : Nat) t v, Try.f6.params[j]? = some t → args[j]? = some v → Value.okWide Try.prog W .any base t v := hval0
  have hW' := hW
  obtain ⟨p, q, hA0, hV, rfl, hfz, hnd⟩ := hW
  have hA : DataW.TrodAll enc Try.prog W 0 (fun _ => true) true Try.f6.params.toList args.toList ds p := hA0
  rw [Try.params6] at hA hval hsz
  obtain ⟨v0, d0, rfl, rfl, h0⟩ := trodAll_one hA
  obtain ⟨rfl, rfl⟩ := trodVars_none hV
  have hB : (DataW.weights Try.prog 46 d0).all (· ≤ 140737488351232) = true := by
    simp only [List.cons_append, List.nil_append, DataW.weightsEach, List.all_append, Bool.and_eq_true, reachBytes] at hsz
    exact hsz.1
  have h0k := h0
  obtain ⟨ao0, c0, xs, ao1, c1, ys, ao2, c2, ops, rfl, hb0, ho0, hs0, hb1, ho1, hs1, hb2, hg2, hbulk⟩ := open_script (hval 0 46 v0 rfl rfl) h0 hB
  have hsum : xs.length ≤ 1048576 := by
    have h := of_decide_eq_true hk
    simp only [List.cons_append, List.nil_append, Rows.uptoBulkAll] at h
    omega
  clear hA0 hval0 hsz0
  simp only [List.append_nil] at hW'
  have hlt : ∀ x ∈ p, x.block < W.heap.size := fun x hx => by simpa using hW'.lt x hx
  refine (place_any W ao0 ao1 ao2 ys.length c0 c1 c2 xs ops hb0 ho0 hsum hb2 hg2).mono fun e W' ⟨he, hk'⟩ => ?_
  subst he
  have hbel : Below W.heap.size W W' := hk'.below (Nat.le_refl _) (by simp)
  refine ⟨_, rfl, _, _, _, [], p, [], hW', ?_, ?_, rfl, hbel.frame _, fun h => by cases h⟩
  · exact trodAll_mk1 (shut_bool Try.underlying4 _)
  · exact trodAll_mk1 (Below.trod placeLaidOut (by kernel_rfl) (of_decide_eq_true (by kernel_rfl)) h0k hbel hlt)

theorem codePlace_holds : Rows.CodePlaceUptoSaid :=
  OpenClaim.holds_of_cond 6 Try.f6 rfl rfl rfl rfl rfl rfl rfl ⟨rfl, rfl, rfl, rfl, rfl⟩ rfl rfl rfl rfl rfl (by kernel_rfl) Try.func6 (by kernel_rfl)
    (of_decide_eq_true (by kernel_rfl)) (by unfold Func.isWrapper; first | (rw [if_pos (by decide +kernel)]; kernel_rfl) | (rw [if_neg (by decide +kernel)]; exact ⟨rfl, rfl⟩))
    (fun os started H enc _ F => codePlace_lifted os started H enc F)
#print axioms codePlace_holds

end Go.Proofs.Ytkhcofdcokngkaa
