/-
  PROVED: satchellaw2.DigestExact answers true and changes nothing that was handed in: the program's Sum, Keyed and Hex are the document's own (satchelref2) at any bytes and key; what is handed in is neither changed nor kept. Condition: what is handed in is of bulk at most 1048576 (the second form); the walk needs of it only that each list has at most ten million bytes.
  And: the variables digest.firstWords, digest.turnWords, satchelref2.H and satchelref2.K hold what the program's text lays (the card ties them to the text of a pruned copy of the project: of the project's other packages it says nothing).
-/
import Derived.Test.YtdjfcackiclepaaDoorDEx1
import Derived.Test.YtdjfcackiclepaaDoorDOpT
import Derived.Test.YtdjfcackiclepaaDoorRows
import Derived.Test.YtdjfcackiclepaaDoorCards
import Derived.Test.YtdjfcackiclepaaDoorTie
import Derived.ProofKit
import Derived.OpenShut
import Derived.Deep.DeepHandedRow
import Derived.Lib.LaidTab
namespace Go.Proofs.YtdjfcackiclepaaDoor
open Go.ChangeShapes Go.WideShapes Go.ChangeAt Go.RowKit

theorem exOwn : ownKnob Tryd.prog.godebug = none := by kernel_rfl
theorem exLaidOut : laidOutB Tryd.prog = true := by kernel_rfl
theorem refHAt : Tryd.prog.globalNamed "satchel/satchelref2.H" = some 1 := by kernel_rfl
theorem refKAt : Tryd.prog.globalNamed "satchel/satchelref2.K" = some 3 := by kernel_rfl

theorem varsX_of_laid {W : World} (h : laidMetH Tryd.prog Rows.digestExactUptoRow.laid W) : Vars W ∧ VarsR W := by
  have h' : laidMet Tryd.prog [("satchel/satchelref2.H", Lib.tabData .u64 firstL), ("satchel/satchelref2.K", Lib.tabData .u64 turnK), ("satchel/digest.firstWords", Lib.tabData .u32 firstL), ("satchel/digest.turnWords", Lib.tabData .u32 turnK)] W := h
  have t0 := Lib.tabIs_of_head (t := 49) (e := 42) (n := 8) refHAt (by kernel_rfl) Tryd.underlying49 Tryd.underlying42 (by kernel_rfl) (by kernel_rfl) h'
  have t1 := Lib.tabIs_of_head (t := 58) (e := 42) (n := 64) refKAt (by kernel_rfl) Tryd.underlying58 Tryd.underlying42 (by kernel_rfl) (by kernel_rfl) h'.tail
  have t2 := Lib.tabIs_of_head (t := 40) (e := 39) (n := 8) firstAt (by kernel_rfl) Tryd.underlying40 Tryd.underlying39 (by kernel_rfl) (by kernel_rfl) h'.tail.tail
  have t3 := Lib.tabIs_of_head (t := 54) (e := 39) (n := 64) turnAt (by kernel_rfl) Tryd.underlying54 Tryd.underlying39 (by kernel_rfl) (by kernel_rfl) h'.tail.tail.tail
  exact ⟨⟨block_of_var firstAt t2, block_of_var turnAt t3⟩, ⟨block_of_var refHAt t0, block_of_var refKAt t1⟩⟩

section
variable {H : Type} {enc : TypeId × Value → H} {w : World} {base : Nat} {spare : Nat → Bool} {held : Bool}
set_option maxRecDepth 100000 in
/-- A text, a key and cuts, opened; their bulk. -/
theorem open_textU {r : Reach} {b0 : Nat} {v : Value} {d : DataW H} {p : List MemPlace} (hv : Value.okWide Tryd.prog w r b0 35 v) (h : DataW.Trod enc Tryd.prog w base spare held 35 v d p) :
    ∃ ao c xs ko kc ks co cc cs, v = .agg #[.slice ao (xs : List Int).length c, .slice ko (ks : List Int).length kc, .slice co (cs : List Int).length cc] ∧ BytesAt w (.slice ao xs.length c) xs ∧ Octs xs ∧
      BytesAt w (.slice ko ks.length kc) ks ∧ Octs ks ∧ xs.length + ks.length ≤ Rows.uptoBulk d := by
  obtain ⟨cs, rfl, hsz⟩ := okWide_struct Tryd.underlying35 hv
  rw [Tryd.cells_text] at hsz
  obtain ⟨fuel, hf⟩ := h
  obtain ⟨zs, n, rfl, hx, hlen, hxs, hfl⟩ := DataW.trod_struct Tryd.underlying35 hf
  simp only [Prod.mk.injEq] at hx
  obtain ⟨rfl, _⟩ := hx
  obtain ⟨l⟩ := cs
  match l, hsz with
  | [v0, v1, v2], _ =>
    have f0 := hfl 0 _ rfl
    have f1 := hfl 1 _ rfl
    have f2 := hfl 2 _ rfl
    match zs, hxs with
    | [y0, y1, y2], _ =>
      simp [Tryd.cells_bytes, Tryd.cells_ints, Value.cells] at f0 f1 f2
      obtain ⟨ao, c, xs, e0, hb0, ho0, hw0, hk0⟩ := open_bytes f0
      obtain ⟨ko, kc, ks, e1, hb1, ho1, hw1, hk1⟩ := open_bytes f1
      obtain ⟨co, cc, cs, e2, hc⟩ := open_ints64 f2
      simp only [List.cons.injEq, and_true] at e0 e1 e2
      subst e0 e1 e2
      refine ⟨ao, c, xs, ko, kc, ks, co, cc, cs, rfl, hb0, ho0, hb1, ho1, ?_⟩
      simp only [Rows.uptoBulk, Rows.uptoBulkAll, List.map_cons, List.map_nil]
      omega
end

set_option maxRecDepth 100000 in
theorem exContract (H : Type) (enc : TypeId × Value → H) (W : World) (base : Nat) (args : Array Value) (ds gs : List (DataW H)) (before : List MemPlace)
    (hval0 : ∀ (j : Nat) t v, Tryd.f4.params[j]? = some t → args[j]? = some v → Value.okWide Tryd.prog W .any base t v)
    (hW : DataW.Whole enc Tryd.prog Tryd.f4.params.toList Rows.digestExactSpec.vars false W args.toList ds gs before) (hk : Rows.uptoSmall H (ds ++ gs) = true) (hL : laidMetH Tryd.prog Rows.digestExactUptoRow.laid W) :
    Calls Tryd.prog 4 args W fun e W' => ∃ v, e = .returned v ∧ Rows.digestExactSpec.post enc Tryd.prog Tryd.f4 false true false false W args v W' := by
  have hval : ∀ (j : Nat) t v, Tryd.f4.params[j]? = some t → args[j]? = some v → Value.okWide Tryd.prog W .any base t v := hval0
  have hW' := hW
  obtain ⟨p, q, hA0, hV, rfl, hfz, hnd⟩ := hW
  have hA : DataW.TrodAll enc Tryd.prog W 0 (fun _ => true) true Tryd.f4.params.toList args.toList ds p := hA0
  rw [Tryd.params4] at hA hval
  obtain ⟨v0, d0, rfl, rfl, h0⟩ := trodAll_one hA
  obtain ⟨rfl, rfl⟩ := trodVars_none hV
  have h0k := h0
  obtain ⟨ao, c, xs, ko, kc, ks, co, cc, cs, rfl, hb0, ho0, hb1, ho1, hbulk⟩ := open_textU (hval 0 35 v0 rfl rfl) h0
  have hsm : xs.length + ks.length ≤ 1048576 := by
    have h := of_decide_eq_true hk
    simp only [List.cons_append, List.nil_append, Rows.uptoBulkAll] at h
    omega
  obtain ⟨hV1, hR1⟩ := varsX_of_laid hL
  clear hA0 hval0
  simp only [List.append_nil] at hW'
  have hlt : ∀ x ∈ p, x.block < W.heap.size := fun x hx => by simpa using hW'.lt x hx
  refine (digestExact_any W hV1 hR1 ao c xs hb0 ho0 (by omega) ko kc ks hb1 ho1 (by omega) _).mono fun e W' ⟨he, hk'⟩ => ?_
  subst he
  have hbel : Below W.heap.size W W' := hk'.below (Nat.le_refl _) (by simp)
  refine ⟨_, rfl, _, _, _, [], p, [], hW', ?_, ?_, rfl, hbel.frame _, fun h => by cases h⟩
  · exact trodAll_mk1 (shut_bool Tryd.underlying4 _)
  · exact trodAll_mk1 (Below.trod exLaidOut (by kernel_rfl) (of_decide_eq_true (by kernel_rfl)) h0k hbel hlt)

/-- A world in which the four variables lie so. -/
noncomputable def exWorld (os : Os) : World :=
  let w0 := World.holding Tryd.prog os ⟨#[], #[], []⟩
  { w0 with heap := (((w0.heap.modify 0 fun
      | .cells _ t fr => .cells (wC firstL) t fr
      | o => o).modify 2 fun
      | .cells _ t fr => .cells (wC turnK) t fr
      | o => o).modify 1 fun
      | .cells _ t fr => .cells (uC firstL) t fr
      | o => o).modify 3 fun
      | .cells _ t fr => .cells (uC turnK) t fr
      | o => o }
theorem exLaid (os : Os) : laidMet Tryd.prog Rows.digestExactUptoRow.laid ((exWorld os).forCall (fun _ _ => 0) ⟨#[], #[.agg #[.slice none 0 0, .slice none 0 0, .slice none 0 0]], []⟩).memory :=
  laidMet_of_run' 8 (by kernel_rfl) (by kernel_rfl)
theorem exReads (os : Os) {H : Type} (enc : TypeId × Value → H) : ∃ places, DataW.whole enc Tryd.prog ((exWorld os).forCall (fun _ _ => 0) ⟨#[], #[.agg #[.slice none 0 0, .slice none 0 0, .slice none 0 0]], []⟩).memory Tryd.f4.params.toList Rows.digestExactSpec.vars false #[Value.agg #[.slice none 0 0, .slice none 0 0, .slice none 0 0]].toList 8 = some ([.agg [.nil, .nil, .nil]], [], places) :=
  ⟨[], by kernel_rfl⟩

set_option maxRecDepth 100000 in
theorem exLifted (os : Os) (started : os.Started) (H : Type) (enc : TypeId × Value → H) (F : Stop.Interp) :
    ReturnsInHanded {} Tryd.checked os 4 .any ((Rows.OpenSpec.upto Rows.digestExactSpec).preRow enc Tryd.prog Tryd.f4 Rows.digestExactUptoRow.domain false Rows.digestExactUptoRow.laid) (((Rows.OpenSpec.upto Rows.digestExactSpec).at F).post enc Tryd.prog Tryd.f4 false true false false) := by
  obtain ⟨places, hx⟩ := exReads os enc
  refine returnsInHanded_of_row (C := Tryd.checked) (s := Rows.OpenSpec.upto Rows.digestExactSpec) exOwn started (by kernel_rfl) Tryd.func4
    (witness_row_at (enc := enc) (C := Tryd.checked) false (exWorld os) #[.agg #[.slice none 0 0, .slice none 0 0, .slice none 0 0]] rfl (by kernel_rfl) (by kernel_rfl) (by kernel_rfl)
      (OpenSpec.preRow_of_cond 8 hx (by kernel_rfl) (fun k hk => by cases hk; kernel_rfl) (by kernel_rfl) (exLaid os))) ?_
  intro W base args ds gs before hval hW _ hcond _ hL _ _
  exact exContract H enc W base args ds gs before hval hW (hcond _ rfl) hL

theorem exSaid : Rows.DigestExactUptoSaid :=
  OpenClaim.holds_of_cond 4 Tryd.f4 rfl rfl rfl rfl rfl rfl rfl ⟨rfl, rfl, rfl, rfl, rfl⟩ rfl rfl rfl rfl rfl (by kernel_rfl) Tryd.func4 (by kernel_rfl)
    (of_decide_eq_true (by kernel_rfl)) (by unfold Func.isWrapper; first | (rw [if_pos (by decide +kernel)]; kernel_rfl) | (rw [if_neg (by decide +kernel)]; exact ⟨rfl, rfl⟩))
    (fun os started H enc _ F => by rw [OpenClaim.pre_eq_preRow]; exact exLifted os started H enc F)

theorem exPlain (f : FuncId) (fn : Func) (hf : Tryd.pinned.checked.prog.funcNamed "satchel/satchellaw2.DigestExact" = some f) (hfn : Tryd.pinned.checked.prog.funcs[f]? = some fn) :
    false = Tryd.pinned.checked.prog.looks [] ∧ ∀ (j : Nat) t, fn.params[j]? = some t → Tryd.pinned.checked.prog.wantsStandIn t = false := by
  obtain rfl : f = 4 := Option.some.inj ((show Tryd.prog.funcNamed "satchel/satchellaw2.DigestExact" = some 4 by kernel_rfl).symm.trans hf) |>.symm
  obtain rfl : fn = Tryd.f4 := (Option.some.inj (Tryd.func4.symm.trans hfn)).symm
  refine ⟨by kernel_rfl, fun j t ht => ?_⟩
  rw [Tryd.params4] at ht
  obtain rfl : t = 35 := by simpa using Array.mem_of_getElem? ht
  exact (show Tryd.prog.wantsStandIn 35 = false by kernel_rfl)

theorem digestExact_holds : Rows.DigestExactUptoCardSaid :=
  Claim7.holds_tied_plain_at .later [] _ _ _ _ exSaid (fun _ h => by cases h) (by kernel_rfl) (fun _ h => by cases h) digestExactUpto_row_tie rfl ⟨rfl, rfl⟩ (by kernel_rfl) rfl exPlain (by kernel_rfl)
#print axioms digestExact_holds
end Go.Proofs.YtdjfcackiclepaaDoor
