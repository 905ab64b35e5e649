/-
  A struct held against itself: entries, tags.
  WALKS: satchelref0.EqStrings, satchellaw14's sameRules, intact, untold: of lists that are the same.
-/
import Derived.Test.YtbdkalicgpdbkaaDoorOpenB
import Derived.Test.YtbdkalicgpdbkaaDoorRm15
import Derived.Great.BuildSlice
import Derived.Laws.StructEq
import Derived.Test.YtbdkalicgpdbkaaDoorBase
import Derived.Test.YtbdkalicgpdbkaaDoorProg
import Derived.Deep.MidRow
import Derived.WalkKit
namespace Go.Proofs.YtbdkalicgpdbkaaDoor
open Go.RowKit

theorem eqF_step {P : Program} {d : Nat} {xs : Array Value} {f : Field} {fs : List Field} {W : World} {a : Value} (hn : f.name ≠ "_") (ha : (part f.type xs f.offset).run P W = .ok a W) (he : (Op.equalIn d f.type a a).run P W = .ok true W) :
    (Op.eqFields d xs xs (f :: fs)).run P W = (Op.eqFields d xs xs fs).run P W := by
  simp [Op.eqFields, hn, ha, he]
theorem selfStr (d : Nat) (s : ByteArray) (W : World) : (Op.equalIn (d + 1) 9 (.string s) (.string s)).run Tryd.prog W = .ok true W := by rw [run_equalIn_string W d 9 s s Tryd.underlying9]; simp

end Go.Proofs.YtbdkalicgpdbkaaDoor

namespace Go.Proofs.YtbdkalicgpdbkaaDoor
open Go.RowKit

theorem plainBool : Tryd.prog.plainKey 4 = true := by kernel_rfl
theorem selfBool (d : Nat) (b : Bool) (W : World) : (Op.equalIn (d + 1) 4 (.bool b) (.bool b)).run Tryd.prog W = .ok true W := by rw [run_equalIn_bool' W d 4 b b Tryd.underlying4]; simp
set_option maxRecDepth 100000 in
theorem ruleEq (r : RuleL) (W : World) : (Op.equalIn 10000 37 (.agg r.row.toArray) (.agg r.row.toArray)).run Tryd.prog W = .ok true W := by
  have hf : Tryd.prog.underlying 37 = some (.struct (Tryd.prog.fieldsOf 37)) := by kernel_rfl
  have hp : Tryd.prog.stoodInHeld 37 = false := by kernel_rfl
  have hfs := TypeDesc.struct.inj (Option.some.inj (hf.symm.trans Tryd.underlying37))
  rw [show (10000 : Nat) = 9997 + 1 + 1 + 1 from rfl, run_equalIn_struct W (9997 + 1 + 1) 37 _ _ hf hp, hfs]
  refine (eqF_step (by decide) (run_part_plain W plainStr (v := .string (strOfNums r.src)) rfl) (selfStr _ _ W)).trans ?_
  refine (eqF_step (by decide) (run_part_plain W plainStr (v := .string (strOfNums r.dst)) rfl) (selfStr _ _ W)).trans ?_
  refine (eqF_step (by decide) (run_part_plain W plainBool (v := .bool r.force) rfl) (selfBool _ _ W)).trans ?_
  refine (eqF_step (by decide) (run_part_plain W plainBool (v := .bool r.neg) rfl) (selfBool _ _ W)).trans ?_
  rfl
theorem run_rule_neq (x y : Operand) (A B : Array Value) (W : World) (r : Bool) (hr : (Op.equalIn 10000 37 (.agg A) (.agg B)).run Tryd.prog W = .ok r W) :
    Sem.run Tryd.prog (do eqGuard BinOp.neq 37 x y (Value.agg A) (Value.agg B); binOp BinOp.neq 37 (Value.agg A) (Value.agg B)) W = .ok (.bool !r) W := by
  have hm : Tryd.prog.eqGuardType Tryd.prog.depth 37 = false := by kernel_rfl
  rw [Sem.run_bind, run_eqGuard_agg W .neq 37 x y A B hm, Result.andThen_ok, run_neq_struct W 37 A B, hr]
  rfl
section
variable {ops : Array Oper} {C : World → Prop} {Q : Act → Prop} {rest : List Oper} {o : Oper} {a : Act}
theorem quiet_neqR (hw : Region.wanted o (yielded ops a.tmps) = true) (x y : Operand) (rt : TypeId) (ho : o.op = .binOp .neq 37 x y rt) (A B : Array Value) (hx : a.eval x = .agg A) (hy : a.eval y = .agg B) (r : Bool)
    (hr : ∀ W, (Op.equalIn 10000 37 (.agg A) (.agg B)).run Tryd.prog W = .ok r W) (h : wpQuiet Tryd.prog ops C Q rest (a.put o.dst (.bool !r))) : wpQuiet Tryd.prog ops C Q (o :: rest) a := by
  refine quiet_val hw (.bool !r) (fun W => ?_) h
  unfold execOp
  simp only [ho, hx, hy]
  rw [Sem.run_bind, run_rule_neq x y A B W r (hr W)]
  rfl
end
set_option maxRecDepth 100000 in
set_option maxHeartbeats 4000000 in
theorem sameRules_any (v1 v2 : Value) (rs : List RuleL) (w : World) (h1 : RulesAt w v1 rs) (h2 : RulesAt w v2 rs) :
    Calls Tryd.prog 16 #[v1, v2] w fun e w' => e = .returned (.bool true) ∧ Kept [] w w' := by
  have HN1 : Hid (∀ W, Kept [] w W → RulesAt W v1 rs) := fun W k => h1.kept k
  have HN2 : Hid (∀ W, Kept [] w W → RulesAt W v2 rs) := fun W k => h2.kept k
  obtain ⟨a1, c1, rfl, hc1, hl1⟩ := h1.form
  obtain ⟨a2, c2, rfl, hc2, hl2⟩ := h2.form
  have hue := Tryd.underlying37
  clear h1 h2
  go_enter Tryd.func16, Tryd.ntmps16
  go_wp2
  go_loopw [5] (fun s5 wr => ∃ k : Nat, k ≤ rs.length ∧ s5 = .int .i64 k ∧ Hid (Kept [] w wr)) (fun s5 _ => rs.length - (intOf s5).toNat)
  case atStart => exact ⟨0, Nat.zero_le _, rfl, Kept.refl _ _⟩
  case round =>
    obtain ⟨k, hk, rfl, HK⟩ := hrel
    by_cases hlt : k < rs.length
    · obtain ⟨x, hx⟩ : ∃ x, rs[k]? = some x := ⟨_, List.getElem?_eq_getElem hlt⟩
      obtain ⟨b1', off1, rfl, hh1⟩ := (HN1.out wr HK.out).at hx
      obtain ⟨b2', off2, rfl, hh2⟩ := (HN2.out wr HK.out).at hx
      have hso : (Tryd.prog.info? 37).map (·.size) = some x.row.length := Tryd.ruleSize
      have heqf := fun W => ruleEq x W
      have HR1 : Hid (∀ W, Kept [] wr W → W.rangeAt b1' (off1 + k * 4) x.row) := fun W hW => range_kept hh1 hW (by simp)
      have HR2 : Hid (∀ W, Kept [] wr W → W.rangeAt b2' (off2 + k * 4) x.row) := fun W hW => range_kept hh2 hW (by simp)
      have HKK : Hid (∀ W, Kept [] wr W → Kept [] w W) := fun W hW => HK.out.then hW
      clear hh1 hh2 hx
      generalize x.row = xr at *
      go_wp2_with fail
      refine region_quiet (Kept [] wr) (by kernel_rfl) (by kernel_rfl) (Kept.refl [] wr).drew ?_
      refine quiet_move (by rfl) (.tmp 0) rfl (.slice (some ⟨b1', off1, none⟩) rs.length c1) rfl ?_
      simp only [Act.put, List.setIfInBounds_toArray, List.set_cons_zero, List.set_cons_succ]
      refine quiet_move (by rfl) (.tmp 5) rfl (.int .i64 k) rfl ?_
      simp only [Act.put, List.setIfInBounds_toArray, List.set_cons_zero, List.set_cons_succ]
      refine quiet_val (by rfl) (.pointer (some ⟨b1', off1 + k * 4, none⟩)) (fun W => by go_simp) ?_
      simp only [Act.put, List.setIfInBounds_toArray, List.set_cons_zero, List.set_cons_succ]
      refine quiet_row (by rfl) _ _ rfl b1' (off1 + k * 4) rfl xr _ HR1.out hue rfl hso ?_
      simp only [Act.put, List.setIfInBounds_toArray, List.set_cons_zero, List.set_cons_succ]
      refine quiet_move (by rfl) (.tmp 1) rfl (.slice (some ⟨b2', off2, none⟩) rs.length c2) rfl ?_
      simp only [Act.put, List.setIfInBounds_toArray, List.set_cons_zero, List.set_cons_succ]
      refine quiet_move (by rfl) (.tmp 5) rfl (.int .i64 k) rfl ?_
      simp only [Act.put, List.setIfInBounds_toArray, List.set_cons_zero, List.set_cons_succ]
      refine quiet_val (by rfl) (.pointer (some ⟨b2', off2 + k * 4, none⟩)) (fun W => by go_simp) ?_
      simp only [Act.put, List.setIfInBounds_toArray, List.set_cons_zero, List.set_cons_succ]
      refine quiet_row (by rfl) _ _ rfl b2' (off2 + k * 4) rfl xr _ HR2.out hue rfl hso ?_
      simp only [Act.put, List.setIfInBounds_toArray, List.set_cons_zero, List.set_cons_succ]
      refine quiet_neqR (by rfl) (.tmp 20) (.tmp 24) _ rfl _ _ rfl rfl true heqf ?_
      simp only [Act.put, List.setIfInBounds_toArray, List.set_cons_zero, List.set_cons_succ]
      refine wpQuiet_nil fun w3 hk3 => ?_
      have HK3 : Hid (Kept [] w w3) := HKK.out w3 hk3
      clear hk3 HR1 HR2 HKK
      go_wp2
      go_roundw
      case rel => exact ⟨k + 1, by omega, by go_num, HK3⟩
      case measure => simp [intOf]; omega
    · have tE : decide ((k : Int) < (rs.length : Int)) = false := decide_eq_false (by omega)
      have tE2 : ¬ k < rs.length := hlt
      go_wp2
      go_ret
      exact ⟨rfl, HK.out⟩
theorem StrsAt.at {w : World} {ao : Option Addr} {n cap : Nat} {L : List (List Int)} (h : StrsAt w (.slice ao n cap) L) {k : Nat} {p : List Int} (hp : L[k]? = some p) : ∃ b off, ao = some ⟨b, off, none⟩ ∧ w.cell? ⟨b, off + k, none⟩ = some (.string (strOfNums p)) := by
  obtain ⟨ao', cap', he, _, _, hc⟩ := h
  injection he with h1 h2 h3
  obtain ⟨b, off, hb, hh⟩ := hc (by rintro rfl; simp at hp)
  exact ⟨b, off, h1.trans hb, hh k _ hp⟩
end Go.Proofs.YtbdkalicgpdbkaaDoor
