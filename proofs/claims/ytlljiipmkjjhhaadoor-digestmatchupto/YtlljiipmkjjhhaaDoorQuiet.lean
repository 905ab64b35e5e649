/-
  The comparison of two ids, as the model does it.
  A drawn region walked once, in the order of the text, over a class of worlds of one's own: its laws for a value, a load of a row, a call.
-/
import Derived.Test.YtlljiipmkjjhhaaDoorSha1
import Derived.DeepKeys
import Derived.Test.YtlljiipmkjjhhaaDoorBase
import Derived.Deep.Quiet
import Derived.Deep.MidRow
namespace Go.Proofs.YtlljiipmkjjhhaaDoor
open Go.RowKit

theorem items_id (xs ys : List Int) (W : World) (d : Nat) : ∀ is : List Nat, (∀ i ∈ is, i < xs.length ∧ i < ys.length) →
    (Op.eqItems (d + 1) 5 1 (idC xs) (idC ys) is).run Tryd.prog W = .ok (is.all fun i => xs[i]?.getD 0 == ys[i]?.getD 0) W
  | [], _ => by simp [Op.eqItems]
  | i :: is, h => by
    have hx := idC_get (h i (by simp)).1
    have hy := idC_get (h i (by simp)).2
    have he : Tryd.prog.plainKey 5 = true := by kernel_rfl
    simp only [Op.eqItems, Sem.run_bind, Nat.mul_one, run_part_plain W he hx, run_part_plain W he hy, Result.andThen_ok, run_equalIn_int W d 5 .u8 .u8 _ _ Tryd.underlying5, List.all_cons]
    cases (xs[i]?.getD 0 == ys[i]?.getD 0)
    · simp
    · simpa using items_id xs ys W d is fun j hj => h j (by simp [hj])

theorem Tryd.cellsU8 : Tryd.prog.cellsOf 5 = 1 := by kernel_rfl
theorem Tryd.hasU8 : (Tryd.prog.info? 5).isSome = true := by kernel_rfl

theorem idEq (xs ys : List Int) (W : World) (hx : xs.length = 32) (hy : ys.length = 32) :
    (Op.equalIn 10000 24 (.agg (idC xs)) (.agg (idC ys))).run Tryd.prog W = .ok (decide (xs = ys)) W := by
  obtain ⟨i, hi⟩ := Option.isSome_iff_exists.1 Tryd.hasU8
  rw [show 10000 = 9999 + 1 from rfl, run_equalIn_array W 9999 _ _ Tryd.underlying24 hi, Tryd.cellsU8, show 9999 = 9998 + 1 from rfl, items_id xs ys W 9998 (List.range 32) (fun j hj => by rw [hx, hy]; simpa using hj)]
  have e : ((List.range 32).all fun i => xs[i]?.getD 0 == ys[i]?.getD 0) = decide (xs = ys) := by
    rw [Bool.eq_iff_iff, decide_eq_true_iff, List.all_eq_true]
    constructor
    · intro h
      refine List.ext_getElem (by omega) fun j h1 h2 => ?_
      have := h j (by simp; omega)
      simpa [List.getElem?_eq_getElem h1, List.getElem?_eq_getElem h2] using this
    · rintro rfl j _
      simp
  rw [e]
end Go.Proofs.YtlljiipmkjjhhaaDoor

namespace Go.Proofs.YtlljiipmkjjhhaaDoor
open Go.RowKit

section
variable {P : Program} {ops : Array Oper} {C : World → Prop} {Q : Act → Prop} {rest : List Oper} {o : Oper} {a : Act}

theorem quiet_val (hw : Region.wanted o (yielded ops a.tmps) = true) (v : Value) (hv : ∀ W, (execOp a.eval o).run P W = .ok (.value v) W) (h : wpQuiet P ops C Q rest (a.put o.dst v)) : wpQuiet P ops C Q (o :: rest) a := by
  unfold wpQuiet
  rw [if_pos hw]
  exact ⟨v, fun W _ => by unfold Oper.quietAt; rw [hv W]; exact ⟨rfl, rfl⟩, h⟩

theorem quiet_row (hw : Region.wanted o (yielded ops a.tmps) = true) (ty : TypeId) (x : Operand) (ho : o.op = .load ty x) (b i : Nat) (hx : a.eval x = .pointer (some ⟨b, i, none⟩)) (cs : List Value) (d : TypeDesc) (hC : ∀ W, C W → W.rangeAt b i cs)
    (hu : P.underlying ty = some d) (hd : d.isRow = true) (hi : (P.info? ty).map (·.size) = some cs.length) (h : wpQuiet P ops C Q rest (a.put o.dst (.agg cs.toArray))) : wpQuiet P ops C Q (o :: rest) a := by
  unfold wpQuiet
  rw [if_pos hw]
  refine ⟨.agg cs.toArray, fun W hW => ?_, h⟩
  unfold Oper.quietAt execOp
  simp only [ho, hx, Instr.loadAt, Instr.sureAddr, Sem.run_bind, Sem.run_pure, Result.andThen_ok, run_loadVar_mid W b i ty cs d (hC W hW) hu hd hi]
  exact ⟨rfl, rfl⟩

theorem quiet_call (hw : Region.wanted o (yielded ops a.tmps) = true) (f : FuncId) (args : Array Value) (v : Value) (he : ∀ W, (execOp a.eval o).run P W = .ok (.enter f args) W) (hc : ∀ W, C W → Calls P f args W fun e w' => e = .returned v ∧ C w')
    (h : wpQuiet P ops C Q rest (a.put o.dst v)) : wpQuiet P ops C Q (o :: rest) a := by
  unfold wpQuiet
  rw [if_pos hw]
  exact ⟨v, fun W hW => by unfold Oper.quietAt; rw [he W]; exact ⟨rfl, hc W hW⟩, h⟩

theorem quiet_move (hw : Region.wanted o (yielded ops a.tmps) = true) (x : Operand) (ho : o.op = .move x) (v : Value) (hx : a.eval x = v) (h : wpQuiet P ops C Q rest (a.put o.dst v)) : wpQuiet P ops C Q (o :: rest) a :=
  quiet_val hw v (fun W => by unfold execOp; rw [ho, ← hx]; rfl) h
theorem quiet_assign (hw : Region.wanted o (yielded ops a.tmps) = true) (x : Operand) (ho : o.op = .assign x) (v : Value) (hx : a.eval x = v) (h : wpQuiet P ops C Q rest (a.put o.dst v)) : wpQuiet P ops C Q (o :: rest) a :=
  quiet_val hw v (fun W => by unfold execOp; rw [ho, ← hx]; rfl) h

/-- The same at one operation that is carried out: the list that follows lies under the letter K (a goal that begins with a guarded operation is unfolded, and takes minutes, wherever a term is given for it: go on by 'with_reducible refine wpQuiet_step ?_'). -/
theorem val_at {K : Act → Prop} (v : Value) (hv : ∀ W, (execOp a.eval o).run P W = .ok (.value v) W) (hK : K (a.put o.dst v)) : o.quiet P a C K :=
  ⟨v, fun W _ => by unfold Oper.quietAt; rw [hv W]; exact ⟨rfl, rfl⟩, hK⟩
theorem move_at {K : Act → Prop} (x : Operand) (ho : o.op = .move x) (v : Value) (hx : a.eval x = v) (hK : K (a.put o.dst v)) : o.quiet P a C K :=
  val_at v (fun W => by unfold execOp; rw [ho, ← hx]; rfl) hK
theorem row_at {K : Act → Prop} (ty : TypeId) (x : Operand) (ho : o.op = .load ty x) (b i : Nat) (hx : a.eval x = .pointer (some ⟨b, i, none⟩)) (cs : List Value) (d : TypeDesc) (hC : ∀ W, C W → W.rangeAt b i cs)
    (hu : P.underlying ty = some d) (hd : d.isRow = true) (hi : (P.info? ty).map (·.size) = some cs.length) (hK : K (a.put o.dst (.agg cs.toArray))) : o.quiet P a C K := by
  refine ⟨.agg cs.toArray, fun W hW => ?_, hK⟩
  unfold Oper.quietAt execOp
  simp only [ho, hx, Instr.loadAt, Instr.sureAddr, Sem.run_bind, Sem.run_pure, Result.andThen_ok, run_loadVar_mid W b i ty cs d (hC W hW) hu hd hi]
  exact ⟨rfl, rfl⟩
theorem call_at {K : Act → Prop} (f : FuncId) (args : Array Value) (v : Value) (he : ∀ W, (execOp a.eval o).run P W = .ok (.enter f args) W) (hc : ∀ W, C W → Calls P f args W fun e w' => e = .returned v ∧ C w') (hK : K (a.put o.dst v)) : o.quiet P a C K :=
  ⟨v, fun W hW => by unfold Oper.quietAt; rw [he W]; exact ⟨rfl, hc W hW⟩, hK⟩

theorem region_quiet {id : Nat} {Q : Exit → Act → World → Prop} {a : Act} {w : World} {l : List Oper} (C : World → Prop) (hm : P.follows .mixedOrders = true) (hB : Region.lexB .any l.toArray = true) (hC : C w.drew)
    (h : wpQuiet P l.toArray C (fun a' => ∀ w', C w' → Q .normal a' w') l a) : (Code.region id l.toArray true).wp P Q a w :=
  wp_region_quiet (C := C) hm hB hC (by simpa using h)
end
end Go.Proofs.YtlljiipmkjjhhaaDoor
