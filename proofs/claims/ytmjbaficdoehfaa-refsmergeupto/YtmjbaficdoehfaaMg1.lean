/-
  Stamps as cells; two of them held against one another; worlds that have drawn and grown.
-/
import Derived.Test.YtmjbaficdoehfaaMg0
import Derived.Test.YtmjbaficdoehfaaStE0
import Derived.Test.YtmjbaficdoehfaaQuiet
import Derived.Sort.Grow
import Derived.WalkKit
namespace Go.Proofs.Ytmjbaficdoehfaa
open Go.RowKit Go.Sort

def StampE.row (x : StampE) : List Value := .string (strOfNums x.name) :: (x.id.map (Value.int .u8) ++ [.int .u64 x.seq])
theorem StampE.row_len (x : StampE) : x.row.length = 34 := by simp [StampE.row, x.gi.1]
theorem StampE.row_one (x : StampE) (v : Value) (hv : v ∈ x.row) : v.oneCell' = true := by
  simp only [StampE.row, List.mem_cons, List.mem_append, List.mem_map, List.mem_nil_iff, or_false] at hv
  rcases hv with rfl | ⟨y, _, rfl⟩ | rfl <;> rfl
theorem StampE.get_name (x : StampE) : x.row.toArray[0]? = some (.string (strOfNums x.name)) := rfl
theorem StampE.get_seq (x : StampE) : x.row.toArray[33]? = some (.int .u64 x.seq) := by
  rw [List.getElem?_toArray]
  unfold StampE.row
  rw [List.getElem?_cons_succ, List.getElem?_append_right (by rw [List.length_map, x.gi.1]; exact Nat.le_refl _), List.length_map, x.gi.1]
  rfl
theorem StampE.get_id (x : StampE) (i : Nat) (a : Int) (h : x.id[i]? = some a) : x.row.toArray[1 + i]? = some (.int .u8 a) := by
  rw [List.getElem?_toArray, Nat.add_comm]
  unfold StampE.row
  rw [List.getElem?_cons_succ, List.getElem?_append_left (by rw [List.length_map]; exact (List.getElem?_eq_some_iff.1 h).1), List.getElem?_map, h]
  rfl
theorem StampE.ids (x : StampE) : (x.row.drop 1).take 32 = x.id.map (Value.int .u8) := by
  unfold StampE.row
  rw [List.drop_succ_cons, List.drop_zero, List.take_left' (by rw [List.length_map, x.gi.1])]
set_option maxRecDepth 100000 in
theorem stampTwo (x y : StampE) (W : World) : (Op.equalIn 10000 32 (.agg x.row.toArray) (.agg y.row.toArray)).run Try.prog W = .ok (decide (x = y)) W := by
  have hu : Try.prog.underlying 32 = some (.struct (Try.prog.fieldsOf 32)) := by kernel_rfl
  have hp : Try.prog.stoodInHeld 32 = false := by kernel_rfl
  have hfs := TypeDesc.struct.inj (Option.some.inj (hu.symm.trans Try.underlying32))
  have hd : decide (x = y) = (decide (x.name = y.name) && (decide (x.id = y.id) && (decide (x.seq = y.seq) && true))) := by
    rw [Bool.eq_iff_iff]
    simp only [decide_eq_true_eq, Bool.and_eq_true, and_true]
    exact ⟨fun h => by subst h; exact ⟨rfl, rfl, rfl⟩, fun h => StampE.eq h.1 h.2.1 h.2.2⟩
  rw [hd, show (10000 : Nat) = 9997 + 1 + 1 + 1 from rfl, run_equalIn_struct W (9997 + 1 + 1) 32 _ _ hu hp, hfs]
  refine eqF_two (by decide) (run_part_plain W plainStr (v := .string (strOfNums x.name)) rfl) (run_part_plain W plainStr (v := .string (strOfNums y.name)) rfl) (twoStr _ x.on y.on W) ?_
  refine eqF_two (by decide) (part_id x.row x.id 1 x.ids W) (part_id y.row y.id 1 y.ids W) (idTwo 9997 x.id y.id W x.gi.1 y.gi.1) ?_
  refine eqF_two (by decide) (run_part_plain W plainU64 x.get_seq) (run_part_plain W plainU64 y.get_seq) (twoU64 _ _ _ W) ?_
  rfl
section
variable {ops : Array Oper} {C : World → Prop} {Q : Act → Prop} {rest : List Oper} {o : Oper} {a : Act}
end
theorem wpList_eqlS {ops : Array Oper} {rest : List Oper} {o : Oper} {a : Act} {w : World} {Q : Exit → Act → World → Prop} (hgd : o.guard = none) (p q : Operand) (rt : TypeId) (ho : o.op = .binOp .eql 32 p q rt) (A B : Array Value) (hx : a.eval p = .agg A) (hy : a.eval q = .agg B)
    (r : Bool) (hr : ∀ W, (Op.equalIn 10000 32 (.agg A) (.agg B)).run Try.prog W = .ok r W) (h : wpList Try.prog ops Q rest (a.put o.dst (.bool r)) w) : wpList Try.prog ops Q (o :: rest) a w := by
  refine wpList_plain hgd fun K hK => ?_
  have hm : Try.prog.eqGuardType Try.prog.depth 32 = false := by kernel_rfl
  have h2 : Sem.run Try.prog (do eqGuard BinOp.eql 32 p q (Value.agg A) (Value.agg B); binOp BinOp.eql 32 (Value.agg A) (Value.agg B)) w = .ok (.bool r) w := by
    rw [Sem.run_bind, run_eqGuard_agg w .eql 32 p q A B hm, Result.andThen_ok, run_eql_struct w 32 A B, hr]
    rfl
  unfold Oper.wp execOp
  simp only [ho, hx, hy]
  rw [Sem.run_bind, h2]
  exact hK _ _ h
theorem stampSize : (Try.prog.info? 32).map (·.size) = some 34 := by kernel_rfl

/-- The world has drawn and grown. -/
def Gr (w W : World) : Prop := ∃ q os, W = grow (w.drewN q) os
theorem Gr.refl (w : World) : Gr w w := ⟨0, #[], by simp [World.drewN_zero]⟩
theorem Gr.alloc {w W : World} (h : Gr w W) (o : Obj) : Gr w (W.alloc o) := by
  obtain ⟨q, os, rfl⟩ := h
  exact ⟨q, os ++ #[o], by rw [alloc_eq_grow, grow_grow]⟩
theorem Gr.drewN {w W : World} (h : Gr w W) (n : Nat) : Gr w (W.drewN n) := by
  obtain ⟨q, os, rfl⟩ := h
  refine ⟨q + n, os, ?_⟩
  rw [← World.drewN_drewN]
  rfl
theorem Gr.drew {w W : World} (h : Gr w W) : Gr w W.drew := h.drewN 1
theorem Gr.kept {w W : World} (h : Gr w W) : Kept [] w W := by
  obtain ⟨q, os, rfl⟩ := h
  exact ((Kept.refl [] w).drewN q).then ⟨rfl, rfl, rfl, by rw [Go.Sort.size_grow]; omega, fun i hi _ => Go.Sort.heap_grow_old _ _ hi⟩
theorem Gr.trans {w W V : World} (h : Gr w W) (k : Gr W V) : Gr w V := by
  obtain ⟨q, os, rfl⟩ := k
  obtain ⟨q', os', e⟩ := h.drewN q
  exact ⟨q', os' ++ os, by rw [e, grow_grow]⟩

/-- What bytes.Compare answers. -/
theorem cmpB_is : ∀ xs ys : List Int, cmpB xs ys = if cmpB xs ys < 0 then -1 else if cmpB ys xs < 0 then 1 else 0
  | [], [] => rfl
  | [], _ :: _ => rfl
  | _ :: _, [] => rfl
  | a :: x, b :: y => by
    simp only [cmpB]
    by_cases h1 : a < b
    · simp [h1]
    · by_cases h2 : b < a
      · simp [h1, h2]
      · simp only [h1, h2, if_false]
        exact cmpB_is x y
/-- The first that is not 0. -/
def orL (xs : List Int) : Int := (xs.find? fun x => x != 0).getD 0
theorem cmpS_or (x y : StampE) : orL [cmpB x.name y.name, if y.seq < x.seq then -1 else if x.seq < y.seq then 1 else 0, cmpB y.id x.id] = cmpS x y := by
  unfold orL cmpS
  rw [cmpB_is x.name y.name, cmpB_is y.id x.id]
  repeat' split
  all_goals first | rfl | (exfalso; omega) | skip
end Go.Proofs.Ytmjbaficdoehfaa
