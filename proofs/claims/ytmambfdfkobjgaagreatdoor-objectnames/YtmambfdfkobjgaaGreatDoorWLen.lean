/-
  Two ids compared inside a drawn region that is walked once: the laws of that step.
  WALKS: satchelref0.Cmp and Eq over two slices of the same bytes; satchellaw1.into.
  WALK: a Writer's Len.
-/
import Derived.Test.YtmambfdfkobjgaaGreatDoorQuiet
import Derived.Test.YtmambfdfkobjgaaGreatDoorLookFixed
import Derived.Test.YtmambfdfkobjgaaGreatDoorPlain2
import Derived.Deep.QuietTactic
import Derived.BigQuiet
import Derived.Test.YtmambfdfkobjgaaGreatDoorFixB
namespace Go.Proofs.YtmambfdfkobjgaaGreatDoor
open Go.RowKit

theorem run_id_eql (x y : Operand) (A B : Array Value) (W : World) (r : Bool) (hr : (Op.equalIn 10000 31 (.agg A) (.agg B)).run Tryz.prog W = .ok r W) :
    Sem.run Tryz.prog (do eqGuard BinOp.eql 31 x y (Value.agg A) (Value.agg B); binOp BinOp.eql 31 (Value.agg A) (Value.agg B)) W = .ok (.bool r) W := by
  simp [eqGuard, binOp]
  have e : Op.equal 31 (.agg A) (.agg B) = Op.equalIn 10000 31 (.agg A) (.agg B) := rfl
  rw [e, hr]
  rfl
theorem run_id_neq (x y : Operand) (A B : Array Value) (W : World) (r : Bool) (hr : (Op.equalIn 10000 31 (.agg A) (.agg B)).run Tryz.prog W = .ok r W) :
    Sem.run Tryz.prog (do eqGuard BinOp.neq 31 x y (Value.agg A) (Value.agg B); binOp BinOp.neq 31 (Value.agg A) (Value.agg B)) W = .ok (.bool !r) W := by
  simp [eqGuard, binOp]
  have e : Op.equal 31 (.agg A) (.agg B) = Op.equalIn 10000 31 (.agg A) (.agg B) := rfl
  rw [e, hr]
  rfl

section
variable {ops : Array Oper} {C : World → Prop} {Q : Act → Prop} {rest : List Oper} {o : Oper} {a : Act}
theorem quiet_eql (hw : Region.wanted o (yielded ops a.tmps) = true) (x y : Operand) (rt : TypeId) (ho : o.op = .binOp .eql 31 x y rt) (A B : Array Value) (hx : a.eval x = .agg A) (hy : a.eval y = .agg B) (r : Bool)
    (hr : ∀ W, (Op.equalIn 10000 31 (.agg A) (.agg B)).run Tryz.prog W = .ok r W) (h : wpQuiet Tryz.prog ops C Q rest (a.put o.dst (.bool r))) : wpQuiet Tryz.prog ops C Q (o :: rest) a := by
  refine quiet_val hw (.bool r) (fun W => ?_) h
  unfold execOp
  simp only [ho, hx, hy]
  rw [Sem.run_bind, run_id_eql x y A B W r (hr W)]
  rfl
theorem quiet_neq (hw : Region.wanted o (yielded ops a.tmps) = true) (x y : Operand) (rt : TypeId) (ho : o.op = .binOp .neq 31 x y rt) (A B : Array Value) (hx : a.eval x = .agg A) (hy : a.eval y = .agg B) (r : Bool)
    (hr : ∀ W, (Op.equalIn 10000 31 (.agg A) (.agg B)).run Tryz.prog W = .ok r W) (h : wpQuiet Tryz.prog ops C Q rest (a.put o.dst (.bool !r))) : wpQuiet Tryz.prog ops C Q (o :: rest) a := by
  refine quiet_val hw (.bool !r) (fun W => ?_) h
  unfold execOp
  simp only [ho, hx, hy]
  rw [Sem.run_bind, run_id_neq x y A B W r (hr W)]
  rfl
theorem valC_at {K : Act → Prop} (v : Value) (hv : ∀ W, C W → (execOp a.eval o).run Tryz.prog W = .ok (.value v) W) (hK : K (a.put o.dst v)) : o.quiet Tryz.prog a C K :=
  ⟨v, fun W hW => by unfold Oper.quietAt; rw [hv W hW]; exact ⟨rfl, rfl⟩, hK⟩
theorem neq_at {K : Act → Prop} (x y : Operand) (rt : TypeId) (ho : o.op = .binOp .neq 31 x y rt) (A B : Array Value) (hx : a.eval x = .agg A) (hy : a.eval y = .agg B) (r : Bool)
    (hr : ∀ W, (Op.equalIn 10000 31 (.agg A) (.agg B)).run Tryz.prog W = .ok r W) (hK : K (a.put o.dst (.bool !r))) : o.quiet Tryz.prog a C K := by
  refine val_at (.bool !r) (fun W => ?_) hK
  unfold execOp
  simp only [ho, hx, hy]
  rw [Sem.run_bind, run_id_neq x y A B W r (hr W)]
  rfl
theorem eql_at {K : Act → Prop} (x y : Operand) (rt : TypeId) (ho : o.op = .binOp .eql 31 x y rt) (A B : Array Value) (hx : a.eval x = .agg A) (hy : a.eval y = .agg B) (r : Bool)
    (hr : ∀ W, (Op.equalIn 10000 31 (.agg A) (.agg B)).run Tryz.prog W = .ok r W) (hK : K (a.put o.dst (.bool r))) : o.quiet Tryz.prog a C K := by
  refine val_at (.bool r) (fun W => ?_) hK
  unfold execOp
  simp only [ho, hx, hy]
  rw [Sem.run_bind, run_id_eql x y A B W r (hr W)]
  rfl
theorem valC (hw : Region.wanted o (yielded ops a.tmps) = true) (v : Value) (hv : ∀ W, C W → (execOp a.eval o).run Tryz.prog W = .ok (.value v) W) (h : wpQuiet Tryz.prog ops C Q rest (a.put o.dst v)) : wpQuiet Tryz.prog ops C Q (o :: rest) a := by
  unfold wpQuiet
  rw [if_pos hw]
  exact valC_at v hv h
end
end Go.Proofs.YtmambfdfkobjgaaGreatDoor

namespace Go.Proofs.YtmambfdfkobjgaaGreatDoor
open Go.RowKit

theorem cmp_empty (ao bo : Option Addr) (ca cb : Nat) (w : World) : Calls Tryz.prog 35 #[.slice ao 0 ca, .slice bo 0 cb] w fun e w' => e = .returned (.int .i64 0) ∧ ∃ n, w' = w.drewN n := by
  go_enter Tryz.func35, Tryz.ntmps35
  go_wp2
  refine wp_loop_rounds 1 ?_
  rw [rounds_succ]
  go_wp2
  go_ret
  exact ⟨rfl, 0, rfl⟩

set_option maxHeartbeats 1000000 in
theorem cmp_some (b1 o1 c1 b2 o2 c2 : Nat) (ys : List Int) (w : World) (hm : ys.length ≤ 140737488355328)
    (h1 : ∀ i, i < ys.length → w.cell? ⟨b1, o1 + i, none⟩ = some (.int .u8 (ys[i]?.getD 0))) (h2 : ∀ i, i < ys.length → w.cell? ⟨b2, o2 + i, none⟩ = some (.int .u8 (ys[i]?.getD 0))) :
    Calls Tryz.prog 35 #[.slice (some ⟨b1, o1, none⟩) ys.length c1, .slice (some ⟨b2, o2, none⟩) ys.length c2] w fun e w' => e = .returned (.int .i64 0) ∧ ∃ n, w' = w.drewN n := by
  go_enter Tryz.func35, Tryz.ntmps35
  go_wp2
  go_loopw [5] (fun i wr => ∃ k : Nat, k ≤ ys.length ∧ i = .int .i64 k ∧ ∃ n, wr = w.drewN n) (fun i _ => ys.length - (intOf i).toNat)
  case atStart => exact ⟨0, Nat.zero_le _, rfl, 0, rfl⟩
  case round =>
    obtain ⟨k, hk, rfl, n, rfl⟩ := hrel
    by_cases hlt : k < ys.length
    · have g1 := h1 k hlt
      have g2 := h2 k hlt
      obtain ⟨z, hz⟩ : ∃ z, z = ys[k]?.getD 0 := ⟨_, rfl⟩
      rw [← hz] at g1 g2
      clear hz h1 h2
      have i0 : (0 : Int) ≤ (k : Int) := by omega
      have i1 : (k : Int) < (ys.length : Int) := by omega
      go_wp2
      go_quiet (fail)
      go_wp2
      go_quiet (fail)
      go_wp2
      go_roundw
      case rel => exact ⟨k + 1, by omega, by go_num, _, rfl⟩
      case measure => simp [intOf]; omega
    · clear h1 h2
      go_wp2
      go_ret
      exact ⟨rfl, _, rfl⟩

theorem Cmp_same {w : World} {u v : Value} {ys : List Int} (hu : BytesAt w u ys) (hv : BytesAt w v ys) (hm : ys.length ≤ 140737488355328) : Calls Tryz.prog 35 #[u, v] w fun e w' => e = .returned (.int .i64 0) ∧ ∃ n, w' = w.drewN n := by
  rcases hu.parts with ⟨rfl, ao, ca, rfl⟩ | ⟨b1, o1, c1, rfl, _, h0, h1⟩
  · obtain ⟨bo, cb, rfl, _⟩ := hv
    exact cmp_empty ao bo ca cb w
  · rcases hv.parts with ⟨rfl, bo, cb, rfl⟩ | ⟨b2, o2, c2, rfl, _, _, h2⟩
    · simp at h0
    · exact cmp_some b1 o1 c1 b2 o2 c2 ys w hm h1 h2

theorem Eq_same {w : World} {u v : Value} {ys : List Int} (hu : BytesAt w u ys) (hv : BytesAt w v ys) (hm : ys.length ≤ 140737488355328) : Calls Tryz.prog 15 #[u, v] w fun e w' => e = .returned (.bool true) ∧ ∃ n, w' = w.drewN n := by
  have hcall := Cmp_same hu hv hm
  obtain ⟨ao, ca, rfl, _⟩ := hu
  obtain ⟨bo, cb, rfl, _⟩ := hv
  go_enter Tryz.func15, Tryz.ntmps15
  go_wp2_with (go_at_call 35; refine hcall.mono ?_; rintro e w1 ⟨rfl, n, rfl⟩)
  go_ret
  exact ⟨rfl, _, rfl⟩
end Go.Proofs.YtmambfdfkobjgaaGreatDoor

namespace Go.Proofs.YtmambfdfkobjgaaGreatDoor
open Go.RowKit

theorem WLen_any {w : World} {wb B : Nat} {zs : List Int} {S : List Nat} (h : WAt w wb B zs S) : Calls Tryz.prog 26 #[.pointer (some ⟨wb, 0, none⟩)] w fun e w' => e = .returned (.int .i64 zs.length) ∧ w' = w := by
  obtain ⟨ao, cap, hc, _⟩ := h.bytes
  clear h
  go_enter Tryz.func26, Tryz.ntmps26
  go_wp2
  go_ret
  exact ⟨rfl, rfl⟩

end Go.Proofs.YtmambfdfkobjgaaGreatDoor
