/-
  Two ids compared inside a drawn region that is walked once: the laws of that step.
-/
import Derived.Test.YtpdlnmjnpodicaaDoorIdEq
import Derived.Test.YtpdlnmjnpodicaaDoorQuiet
namespace Go.Proofs.YtpdlnmjnpodicaaDoor
open Go.RowKit

theorem run_id_eql (x y : Operand) (A B : Array Value) (W : World) (r : Bool) (hr : (Op.equalIn 10000 33 (.agg A) (.agg B)).run Tryd.prog W = .ok r W) :
    Sem.run Tryd.prog (do eqGuard BinOp.eql 33 x y (Value.agg A) (Value.agg B); binOp BinOp.eql 33 (Value.agg A) (Value.agg B)) W = .ok (.bool r) W := by
  simp [eqGuard, binOp]
  have e : Op.equal 33 (.agg A) (.agg B) = Op.equalIn 10000 33 (.agg A) (.agg B) := rfl
  rw [e, hr]
  rfl
theorem run_id_neq (x y : Operand) (A B : Array Value) (W : World) (r : Bool) (hr : (Op.equalIn 10000 33 (.agg A) (.agg B)).run Tryd.prog W = .ok r W) :
    Sem.run Tryd.prog (do eqGuard BinOp.neq 33 x y (Value.agg A) (Value.agg B); binOp BinOp.neq 33 (Value.agg A) (Value.agg B)) W = .ok (.bool !r) W := by
  simp [eqGuard, binOp]
  have e : Op.equal 33 (.agg A) (.agg B) = Op.equalIn 10000 33 (.agg A) (.agg B) := rfl
  rw [e, hr]
  rfl

section
variable {ops : Array Oper} {C : World → Prop} {Q : Act → Prop} {rest : List Oper} {o : Oper} {a : Act}
theorem quiet_eql (hw : Region.wanted o (yielded ops a.tmps) = true) (x y : Operand) (rt : TypeId) (ho : o.op = .binOp .eql 33 x y rt) (A B : Array Value) (hx : a.eval x = .agg A) (hy : a.eval y = .agg B) (r : Bool)
    (hr : ∀ W, (Op.equalIn 10000 33 (.agg A) (.agg B)).run Tryd.prog W = .ok r W) (h : wpQuiet Tryd.prog ops C Q rest (a.put o.dst (.bool r))) : wpQuiet Tryd.prog ops C Q (o :: rest) a := by
  refine quiet_val hw (.bool r) (fun W => ?_) h
  unfold execOp
  simp only [ho, hx, hy]
  rw [Sem.run_bind, run_id_eql x y A B W r (hr W)]
  rfl
theorem quiet_neq (hw : Region.wanted o (yielded ops a.tmps) = true) (x y : Operand) (rt : TypeId) (ho : o.op = .binOp .neq 33 x y rt) (A B : Array Value) (hx : a.eval x = .agg A) (hy : a.eval y = .agg B) (r : Bool)
    (hr : ∀ W, (Op.equalIn 10000 33 (.agg A) (.agg B)).run Tryd.prog W = .ok r W) (h : wpQuiet Tryd.prog ops C Q rest (a.put o.dst (.bool !r))) : wpQuiet Tryd.prog ops C Q (o :: rest) a := by
  refine quiet_val hw (.bool !r) (fun W => ?_) h
  unfold execOp
  simp only [ho, hx, hy]
  rw [Sem.run_bind, run_id_neq x y A B W r (hr W)]
  rfl
theorem valC_at {K : Act → Prop} (v : Value) (hv : ∀ W, C W → (execOp a.eval o).run Tryd.prog W = .ok (.value v) W) (hK : K (a.put o.dst v)) : o.quiet Tryd.prog a C K :=
  ⟨v, fun W hW => by unfold Oper.quietAt; rw [hv W hW]; exact ⟨rfl, rfl⟩, hK⟩
theorem neq_at {K : Act → Prop} (x y : Operand) (rt : TypeId) (ho : o.op = .binOp .neq 33 x y rt) (A B : Array Value) (hx : a.eval x = .agg A) (hy : a.eval y = .agg B) (r : Bool)
    (hr : ∀ W, (Op.equalIn 10000 33 (.agg A) (.agg B)).run Tryd.prog W = .ok r W) (hK : K (a.put o.dst (.bool !r))) : o.quiet Tryd.prog a C K := by
  refine val_at (.bool !r) (fun W => ?_) hK
  unfold execOp
  simp only [ho, hx, hy]
  rw [Sem.run_bind, run_id_neq x y A B W r (hr W)]
  rfl
theorem eql_at {K : Act → Prop} (x y : Operand) (rt : TypeId) (ho : o.op = .binOp .eql 33 x y rt) (A B : Array Value) (hx : a.eval x = .agg A) (hy : a.eval y = .agg B) (r : Bool)
    (hr : ∀ W, (Op.equalIn 10000 33 (.agg A) (.agg B)).run Tryd.prog W = .ok r W) (hK : K (a.put o.dst (.bool r))) : o.quiet Tryd.prog a C K := by
  refine val_at (.bool r) (fun W => ?_) hK
  unfold execOp
  simp only [ho, hx, hy]
  rw [Sem.run_bind, run_id_eql x y A B W r (hr W)]
  rfl
theorem valC (hw : Region.wanted o (yielded ops a.tmps) = true) (v : Value) (hv : ∀ W, C W → (execOp a.eval o).run Tryd.prog W = .ok (.value v) W) (h : wpQuiet Tryd.prog ops C Q rest (a.put o.dst v)) : wpQuiet Tryd.prog ops C Q (o :: rest) a := by
  unfold wpQuiet
  rw [if_pos hw]
  exact valC_at v hv h
end
end Go.Proofs.YtpdlnmjnpodicaaDoor
