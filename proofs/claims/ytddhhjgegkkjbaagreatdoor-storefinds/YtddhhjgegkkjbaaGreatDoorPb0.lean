/-
  A drawn region walked once, in the order of the text, over a class of worlds of one's own: its laws for a value, a load of a row, a call.
  Two ids compared inside a drawn region that is walked once: the laws of that step.
  WALKS: object.read, object.objectOf, object.Parse, of a blob's encoding alone (where the program knows no more of objects).
-/
import Derived.Test.YtddhhjgegkkjbaaGreatDoorPlain
import Derived.Deep.Quiet
import Derived.Deep.MidRow
import Derived.Test.YtddhhjgegkkjbaaGreatDoorIdEq
import Derived.Test.YtddhhjgegkkjbaaGreatDoorSha2
import Derived.Laws.Tables
import Derived.Laws.ResultCell
namespace Go.Proofs.YtddhhjgegkkjbaaGreatDoor
open Go.RowKit

section
variable {P : Program} {ops : Array Oper} {C : World → Prop} {Q : Act → Prop} {rest : List Oper} {o : Oper} {a : Act}

theorem quiet_val (hw : Region.wanted o (yielded ops a.tmps) = true) (v : Value) (hv : ∀ W, (execOp a.eval o).run P W = .ok (.value v) W) (h : wpQuiet P ops C Q rest (a.put o.dst v)) : wpQuiet P ops C Q (o :: rest) a := by
  unfold wpQuiet
  rw [if_pos hw]
  exact ⟨v, fun W _ => by unfold Oper.quietAt; rw [hv W]; exact ⟨rfl, rfl⟩, h⟩

theorem quiet_row (hw : Region.wanted o (yielded ops a.tmps) = true) (ty : TypeId) (x : Operand) (ho : o.op = .load ty x) (b i : Nat) (hx : a.eval x = .pointer (some ⟨b, i, none⟩)) (cs : List Value) (d : TypeDesc) (hC : ∀ W, C W → W.rangeAt b i cs)
    (hu : P.underlying ty = some d) (hd : d.isRow = true) (hi : (P.info? ty).map (·.size) = some cs.length) (h : wpQuiet P ops C Q rest (a.put o.dst (.agg cs.toArray))) : wpQuiet P ops C Q (o :: rest) a := by
  unfold wpQuiet
  rw [if_pos hw]
  refine ⟨.agg cs.toArray, fun W hW => ?_, h⟩
  unfold Oper.quietAt execOp
  simp only [ho, hx, Instr.loadAt, Instr.sureAddr, Sem.run_bind, Sem.run_pure, Result.andThen_ok, run_loadVar_mid W b i ty cs d (hC W hW) hu hd hi]
  exact ⟨rfl, rfl⟩

theorem quiet_call (hw : Region.wanted o (yielded ops a.tmps) = true) (f : FuncId) (args : Array Value) (v : Value) (he : ∀ W, (execOp a.eval o).run P W = .ok (.enter f args) W) (hc : ∀ W, C W → Calls P f args W fun e w' => e = .returned v ∧ C w')
    (h : wpQuiet P ops C Q rest (a.put o.dst v)) : wpQuiet P ops C Q (o :: rest) a := by
  unfold wpQuiet
  rw [if_pos hw]
  exact ⟨v, fun W hW => by unfold Oper.quietAt; rw [he W]; exact ⟨rfl, hc W hW⟩, h⟩

theorem quiet_move (hw : Region.wanted o (yielded ops a.tmps) = true) (x : Operand) (ho : o.op = .move x) (v : Value) (hx : a.eval x = v) (h : wpQuiet P ops C Q rest (a.put o.dst v)) : wpQuiet P ops C Q (o :: rest) a :=
  quiet_val hw v (fun W => by unfold execOp; rw [ho, ← hx]; rfl) h
theorem quiet_assign (hw : Region.wanted o (yielded ops a.tmps) = true) (x : Operand) (ho : o.op = .assign x) (v : Value) (hx : a.eval x = v) (h : wpQuiet P ops C Q rest (a.put o.dst v)) : wpQuiet P ops C Q (o :: rest) a :=
  quiet_val hw v (fun W => by unfold execOp; rw [ho, ← hx]; rfl) h

/-- The same at one operation that is carried out: the list that follows lies under the letter K (a goal that begins with a guarded operation is unfolded, and takes minutes, wherever a term is given for it: go on by 'with_reducible refine wpQuiet_step ?_'). -/
theorem val_at {K : Act → Prop} (v : Value) (hv : ∀ W, (execOp a.eval o).run P W = .ok (.value v) W) (hK : K (a.put o.dst v)) : o.quiet P a C K :=
  ⟨v, fun W _ => by unfold Oper.quietAt; rw [hv W]; exact ⟨rfl, rfl⟩, hK⟩
theorem move_at {K : Act → Prop} (x : Operand) (ho : o.op = .move x) (v : Value) (hx : a.eval x = v) (hK : K (a.put o.dst v)) : o.quiet P a C K :=
  val_at v (fun W => by unfold execOp; rw [ho, ← hx]; rfl) hK
theorem row_at {K : Act → Prop} (ty : TypeId) (x : Operand) (ho : o.op = .load ty x) (b i : Nat) (hx : a.eval x = .pointer (some ⟨b, i, none⟩)) (cs : List Value) (d : TypeDesc) (hC : ∀ W, C W → W.rangeAt b i cs)
    (hu : P.underlying ty = some d) (hd : d.isRow = true) (hi : (P.info? ty).map (·.size) = some cs.length) (hK : K (a.put o.dst (.agg cs.toArray))) : o.quiet P a C K := by
  refine ⟨.agg cs.toArray, fun W hW => ?_, hK⟩
  unfold Oper.quietAt execOp
  simp only [ho, hx, Instr.loadAt, Instr.sureAddr, Sem.run_bind, Sem.run_pure, Result.andThen_ok, run_loadVar_mid W b i ty cs d (hC W hW) hu hd hi]
  exact ⟨rfl, rfl⟩
theorem call_at {K : Act → Prop} (f : FuncId) (args : Array Value) (v : Value) (he : ∀ W, (execOp a.eval o).run P W = .ok (.enter f args) W) (hc : ∀ W, C W → Calls P f args W fun e w' => e = .returned v ∧ C w') (hK : K (a.put o.dst v)) : o.quiet P a C K :=
  ⟨v, fun W hW => by unfold Oper.quietAt; rw [he W]; exact ⟨rfl, hc W hW⟩, hK⟩

theorem region_quiet {id : Nat} {Q : Exit → Act → World → Prop} {a : Act} {w : World} {l : List Oper} (C : World → Prop) (hm : P.follows .mixedOrders = true) (hB : Region.lexB .any l.toArray = true) (hC : C w.drew)
    (h : wpQuiet P l.toArray C (fun a' => ∀ w', C w' → Q .normal a' w') l a) : (Code.region id l.toArray true).wp P Q a w :=
  wp_region_quiet (C := C) hm hB hC (by simpa using h)
end
end Go.Proofs.YtddhhjgegkkjbaaGreatDoor

namespace Go.Proofs.YtddhhjgegkkjbaaGreatDoor
open Go.RowKit

theorem run_id_eql (x y : Operand) (A B : Array Value) (W : World) (r : Bool) (hr : (Op.equalIn 10000 36 (.agg A) (.agg B)).run Tryz.prog W = .ok r W) :
    Sem.run Tryz.prog (do eqGuard BinOp.eql 36 x y (Value.agg A) (Value.agg B); binOp BinOp.eql 36 (Value.agg A) (Value.agg B)) W = .ok (.bool r) W := by
  simp [eqGuard, binOp]
  have e : Op.equal 36 (.agg A) (.agg B) = Op.equalIn 10000 36 (.agg A) (.agg B) := rfl
  rw [e, hr]
  rfl
theorem run_id_neq (x y : Operand) (A B : Array Value) (W : World) (r : Bool) (hr : (Op.equalIn 10000 36 (.agg A) (.agg B)).run Tryz.prog W = .ok r W) :
    Sem.run Tryz.prog (do eqGuard BinOp.neq 36 x y (Value.agg A) (Value.agg B); binOp BinOp.neq 36 (Value.agg A) (Value.agg B)) W = .ok (.bool !r) W := by
  simp [eqGuard, binOp]
  have e : Op.equal 36 (.agg A) (.agg B) = Op.equalIn 10000 36 (.agg A) (.agg B) := rfl
  rw [e, hr]
  rfl

section
variable {ops : Array Oper} {C : World → Prop} {Q : Act → Prop} {rest : List Oper} {o : Oper} {a : Act}
theorem quiet_eql (hw : Region.wanted o (yielded ops a.tmps) = true) (x y : Operand) (rt : TypeId) (ho : o.op = .binOp .eql 36 x y rt) (A B : Array Value) (hx : a.eval x = .agg A) (hy : a.eval y = .agg B) (r : Bool)
    (hr : ∀ W, (Op.equalIn 10000 36 (.agg A) (.agg B)).run Tryz.prog W = .ok r W) (h : wpQuiet Tryz.prog ops C Q rest (a.put o.dst (.bool r))) : wpQuiet Tryz.prog ops C Q (o :: rest) a := by
  refine quiet_val hw (.bool r) (fun W => ?_) h
  unfold execOp
  simp only [ho, hx, hy]
  rw [Sem.run_bind, run_id_eql x y A B W r (hr W)]
  rfl
theorem valC_at {K : Act → Prop} (v : Value) (hv : ∀ W, C W → (execOp a.eval o).run Tryz.prog W = .ok (.value v) W) (hK : K (a.put o.dst v)) : o.quiet Tryz.prog a C K :=
  ⟨v, fun W hW => by unfold Oper.quietAt; rw [hv W hW]; exact ⟨rfl, rfl⟩, hK⟩
theorem neq_at {K : Act → Prop} (x y : Operand) (rt : TypeId) (ho : o.op = .binOp .neq 36 x y rt) (A B : Array Value) (hx : a.eval x = .agg A) (hy : a.eval y = .agg B) (r : Bool)
    (hr : ∀ W, (Op.equalIn 10000 36 (.agg A) (.agg B)).run Tryz.prog W = .ok r W) (hK : K (a.put o.dst (.bool !r))) : o.quiet Tryz.prog a C K := by
  refine val_at (.bool !r) (fun W => ?_) hK
  unfold execOp
  simp only [ho, hx, hy]
  rw [Sem.run_bind, run_id_neq x y A B W r (hr W)]
  rfl
theorem valC (hw : Region.wanted o (yielded ops a.tmps) = true) (v : Value) (hv : ∀ W, C W → (execOp a.eval o).run Tryz.prog W = .ok (.value v) W) (h : wpQuiet Tryz.prog ops C Q rest (a.put o.dst v)) : wpQuiet Tryz.prog ops C Q (o :: rest) a := by
  unfold wpQuiet
  rw [if_pos hw]
  exact valC_at v hv h
end
end Go.Proofs.YtddhhjgegkkjbaaGreatDoor

namespace Go.Proofs.YtddhhjgegkkjbaaGreatDoor
open Go.RowKit

theorem wpList_build_someP {ops : Array Oper} {rest : List Oper} {o : Oper} {a : Act} {w : World} {Q : Exit → Act → World → Prop} (hgd : o.guard = none) (t : TypeId) (parts : Array (Nat × Operand)) (ho : o.op = .build t parts) (cells : Array Value)
    (hb : Tryz.prog.built t (parts.map fun (i, x) => (i, a.eval x)).toList = some cells) (h : wpList Tryz.prog ops Q rest (a.put o.dst (.agg cells)) w) : wpList Tryz.prog ops Q (o :: rest) a w := by
  refine wpList_build hgd t parts ho (by rw [hb]; rfl) ?_
  rw [hb]
  exact h

theorem take_raw (xs : List Int) (pl : Nat) : takeL xs pl 0 3 (xs.drop pl).length 0 = ⟨0, xs.drop pl, pl + (xs.drop pl).length, 0⟩ := by
  have e : lookL (xs.drop pl) 3 (xs.drop pl).length 0 = ⟨0, 0, (xs.drop pl).length, 0⟩ := by
    show rawL (xs.drop pl) (xs.drop pl).length = _
    unfold rawL
    rw [if_neg (by omega), if_neg (by omega), Int.toNat_natCast]
  unfold takeL
  rw [if_neg (by decide), e, if_neg (by simp)]
  simp only [List.drop_zero]
  rw [List.take_of_length_le (Nat.le_refl _)]
theorem take_one (x : Int) (ys : List Int) : takeL (x :: ys) 0 0 0 1 0 = ⟨x, [], 1, 0⟩ := by
  have e : lookL ((x :: ys).drop 0) 0 1 0 = ⟨x, 1, 1, 0⟩ := by
    unfold lookL
    rw [if_pos rfl]
    show fixedL (x :: ys) 1 = _
    unfold fixedL
    rw [if_neg (by simp)]
    simp [be]
  unfold takeL
  rw [if_neg (by decide), e, if_neg (by simp)]
  simp
theorem kept_newP {w W W' : World} {b : Nat} (h : Kept [] w W) (k : Kept [b] W W') (hb : w.heap.size ≤ b) : Kept [] w W' := h.trans k fun x hx => Or.inr (by rw [List.mem_singleton.1 hx]; exact hb)
theorem methP_blob_fault (n : Nat) (v : Value) (W : World) : (method (n + 1) 98 v "satchel/object.fault").run Tryz.prog W = .ok (124, v) W := by kernel_rfl
theorem blobFaultP (ao : Option Addr) (n c : Nat) (w : World) (h : n < 65536) :
    Calls Tryz.prog 124 #[.slice ao n c] w fun e w' => e = .returned (.int .i64 0) ∧ Kept [] w w' := by
  have t : decide (65536 < 1 + (n : Int)) = false := by simp; omega
  go_enter Tryz.func124, Tryz.ntmps124
  go_wp2
  go_ret
  exact ⟨rfl, Kept.refl _ _⟩

set_option maxRecDepth 100000 in
set_option maxHeartbeats 4000000 in
theorem readBlobP (v : Value) (xs ys : List Int) (w : World) (hx : xs = 1 :: ys) (hv : BytesAt w v xs) (ho : Octs xs) (hl : xs.length ≤ 65536) :
    Calls Tryz.prog 34 #[v] w fun e w' => ∃ q, e = .returned (.tuple #[.iface 98 (.slice (some ⟨q, 0, none⟩) (xs.length - 1) (xs.length - 1)), .int .i64 0]) ∧ Kept [] w w' := by
  have hread := Read_any v xs w hv (by omega) ho
  have hpos : 0 < xs.length := by rw [hx]; exact Nat.succ_pos _
  have h0 : takeL xs 0 0 0 1 0 = ⟨1, [], 1, 0⟩ := by rw [hx]; exact take_one 1 ys
  have HU8 : Hid (∀ W r g, Rdr W r g xs 0 0 → Calls Tryz.prog 48 #[.pointer (some ⟨r, 0, none⟩)] W fun e w' => e = .returned (.int .u8 1) ∧ Rdr w' r g xs 1 0 ∧ Kept [r] W w') := fun W r g q => U8_any q ⟨1, [], 1, 0⟩ h0.symm
  have hdl : (xs.drop 1).length = xs.length - 1 := List.length_drop
  have hb := take_raw xs 1
  have HRAW : Hid (∀ W r g, Rdr W r g xs 1 0 → Calls Tryz.prog 49 #[.pointer (some ⟨r, 0, none⟩), .int .i64 ((xs.length : Int) - 1)] W fun e w' => ∃ q, e = .returned (.slice (some ⟨q, 0, none⟩) (xs.length - 1) (xs.length - 1)) ∧ Rdr w' r g xs xs.length 0 ∧ Kept [r] W w') := fun W r g q => by
    have h := Raw_any q ((xs.length : Int) - 1) (by omega) ⟨0, xs.drop 1, 1 + (xs.drop 1).length, 0⟩ (by show _ = _; rw [← hb, hdl]; congr 1; omega)
    refine h.mono ?_
    rintro e w' ⟨q1, he, _, _, hR, hk⟩
    dsimp only at he hR
    rw [hdl] at he hR
    rw [show 1 + (xs.length - 1) = xs.length by omega] at hR
    exact ⟨q1, he, hR, hk⟩
  have HEND : Hid (∀ W r g, Rdr W r g xs xs.length 0 → Calls Tryz.prog 54 #[.pointer (some ⟨r, 0, none⟩)] W fun e w' => e = .returned (.int .i64 0) ∧ ∃ n, w' = W.drewN n) := fun W r g q => by
    have h := End_any q (by decide)
    rw [if_neg (by decide), if_neg (by omega)] at h
    exact h
  have HFB : Hid (∀ W q, Calls Tryz.prog 124 #[.slice (some ⟨q, 0, none⟩) (xs.length - 1) (xs.length - 1)] W fun e w' => e = .returned (.int .i64 0) ∧ Kept [] W w') := fun W q => blobFaultP _ _ _ W (by omega)
  have hm1 := methP_blob_fault
  have hlx : decide (65536 < (xs.length : Int)) = false := decide_eq_false (by omega)
  obtain ⟨ao, cap, rfl, _⟩ := hv
  clear hb h0 ho hdl hx
  go_enter Tryz.func34, Tryz.ntmps34
  go_wp2_with (first
    | (go_at_call 47; refine hread.mono ?_; rintro e w1 ⟨r, g, rfl, hr1, hk1, hrs, hgs⟩
       have HR1 : Hid (Rdr w1 r g xs 0 0) := hr1
       have HK1 : Hid (Kept [] w w1) := hk1
       clear hr1 hk1)
    | (go_at_call 48; refine (HU8.out _ r g HR1.out).mono ?_; rintro e w2 ⟨rfl, hr2, hk2⟩
       have HR2 : Hid (Rdr w2 r g xs 1 0) := hr2
       have HK2 : Hid (Kept [] w w2) := kept_newP HK1.out hk2 hrs
       have hlf := Left_any hr2
       clear hr2 hk2)
    | (go_at_call 50; refine hlf.mono ?_; rintro e w3 ⟨rfl, n3, hw3⟩
       have kd : Kept [] w2 w3 := by rw [hw3]; exact (Kept.refl [] w2).drewN n3
       have HR3 : Hid (Rdr w3 r g xs 1 0) := HR2.out.kept kd (by simp) (by simp)
       have HK3 : Hid (Kept [] w w3) := HK2.out.then kd
       clear hlf kd hw3)
    | (go_at_call 49; refine (HRAW.out _ r g HR3.out).mono ?_; rintro e w4 ⟨q, rfl, hr4, hk4⟩
       have HR4 : Hid (Rdr w4 r g xs xs.length 0) := hr4
       have HK4 : Hid (Kept [] w w4) := kept_newP HK3.out hk4 hrs
       clear hr4 hk4)
    | (go_at_call 54; refine (HEND.out _ r g HR4.out).mono ?_; rintro e w5 ⟨rfl, n5, hw5⟩
       have HK5 : Hid (Kept [] w w5) := by rw [hw5]; exact HK4.out.drewN n5
       clear hw5)
    | (go_at_call 124; refine (HFB.out _ q).mono ?_; rintro e w6 ⟨rfl, hk6⟩
       have HK6 : Hid (Kept [] w w6) := HK5.out.then hk6
       clear hk6))
  refine bodyPost_ret (v := .tuple #[.iface 98 (.slice (some ⟨q, 0, none⟩) (xs.length - 1) (xs.length - 1)), .int .i64 0]) (by simp [results, Tryz.results34, go_sem]) rfl ⟨q, rfl, HK6.out⟩

/-- The object of a blob, as its cells. -/
noncomputable def blobRow (q n : Nat) : Array Value := (Tryz.zeroCells61.setIfInBounds 0 (.int .i64 1)).setIfInBounds 1 (.slice (some ⟨q, 0, none⟩) n n)
theorem blobRow_size (q n : Nat) : (blobRow q n).size = 76 := by
  unfold blobRow
  rw [Array.size_setIfInBounds, Array.size_setIfInBounds]
  kernel_rfl
theorem blobRow_one (q n : Nat) : (blobRow q n).all (·.oneCell') = true := by kernel_rfl
theorem built_blobP (q n : Nat) : Tryz.prog.built 61 [(0, .int .i64 1), (1, .slice (some ⟨q, 0, none⟩) n n)] = some (blobRow q n) := by kernel_rfl
set_option maxRecDepth 100000 in
set_option maxHeartbeats 2000000 in
theorem objectOfP (q n : Nat) (w : World) :
    Calls Tryz.prog 35 #[.iface 98 (.slice (some ⟨q, 0, none⟩) n n)] w fun e w' => e = .returned (.agg (blobRow q n)) ∧ Kept [] w w' := by
  have hbl := built_blobP q n
  have hoz := blobRow_size q n
  have hos : (Tryz.prog.info? 61).map (·.size) = some (blobRow q n).size := by rw [hoz]; kernel_rfl
  have hzz : Tryz.zeroCells61.size = (blobRow q n).size := by rw [hoz]; kernel_rfl
  have hpo := blobRow_one q n
  have HZ : Hid ((w.alloc (.cells Tryz.zeroCells61 61)).heap[w.heap.size]? = some (.cells Tryz.zeroCells61 61 (0, 0))) := heap_alloc_new w _
  have HKF : Hid (Kept [] w ((w.alloc (.cells Tryz.zeroCells61 61)).setRow w.heap.size (blobRow q n))) := kept_setRow ((Kept.refl [] w).alloc _) (Nat.le_refl _) _
  generalize blobRow q n = orr at *
  have ta1 : ∀ W, (Instr.typeAssert (.iface 98 (.slice (some ⟨q, 0, none⟩) n n)) 81 98 true).run Tryz.prog W = .ok (.tuple #[.slice (some ⟨q, 0, none⟩) n n, .bool true]) W := fun W => by kernel_rfl
  go_enter Tryz.func35, Tryz.ntmps35
  go_wp2_with (first
    | (refine wpList_build_someP (by rfl) 61 _ (by rfl) orr (by simp; exact hbl) ?_)
    | (refine wpList_store_row (by rfl) 61 (.tmp 2) (.tmp 12) (by rfl) w.heap.size orr (by rfl) (by rfl) 61 _ HZ.out hos hzz hpo ?_))
  refine bodyPost_ret (v := .agg orr) ?_ rfl ⟨rfl, HKF.out⟩
  rw [results_cell rfl]
  exact run_loadVar_row (P := Tryz.prog) _ w.heap.size 61 61 orr (0, 0) _ (setRow_heap _ _ _ _ _ _ HZ.out) Tryz.underlying61 rfl hos
set_option maxRecDepth 100000 in
set_option maxHeartbeats 4000000 in
/-- object.Parse of a blob's encoding. -/
theorem parseP (v : Value) (xs ys : List Int) (w : World) (hx : xs = 1 :: ys) (hv : BytesAt w v xs) (ho : Octs xs) (hl : xs.length ≤ 65536) :
    Calls Tryz.prog 23 #[v] w fun e w' => ∃ q, e = .returned (.tuple #[.agg (blobRow q (xs.length - 1)), .int .i64 0]) ∧ Kept [] w w' := by
  have k0 : Kept [] w (w.alloc (.cells Tryz.zeroCells61 61)) := (Kept.refl _ _).alloc _
  have hrd := readBlobP v xs ys _ hx (hv.kept' k0 (fun _ _ _ => by simp)) ho hl
  have HK0 : Hid (Kept [] w (w.alloc (.cells Tryz.zeroCells61 61))) := k0
  have HZ : Hid ((w.alloc (.cells Tryz.zeroCells61 61)).heap[w.heap.size]? = some (.cells Tryz.zeroCells61 61 (0, 0))) := heap_alloc_new w _
  have hun := Tryz.underlying61
  obtain ⟨ao, cap, rfl, _⟩ := hv
  clear ho hl hx k0
  go_enter Tryz.func23, Tryz.ntmps23
  go_wp2_with fail
  go_at_call 34
  refine hrd.mono ?_
  rintro e w1 ⟨q, rfl, k1⟩
  have hob := objectOfP q (xs.length - 1)
  have hoz := blobRow_size q (xs.length - 1)
  have hos : (Tryz.prog.info? 61).map (·.size) = some (blobRow q (xs.length - 1)).size := by rw [hoz]; kernel_rfl
  have hzz : Tryz.zeroCells61.size = (blobRow q (xs.length - 1)).size := by rw [hoz]; kernel_rfl
  have hpo := blobRow_one q (xs.length - 1)
  have HK1 : Hid (Kept [] w w1) := HK0.out.then k1
  have HZ1 : Hid (w1.heap[w.heap.size]? = some (.cells Tryz.zeroCells61 61 (0, 0))) := k1.heap HZ.out (by simp)
  obtain ⟨orr, hor⟩ : ∃ r, r = blobRow q (xs.length - 1) := ⟨_, rfl⟩
  rw [← hor] at hob hos hzz hpo
  have HOR : Hid (orr = blobRow q (xs.length - 1)) := hor
  clear hrd k1 hoz hor
  go_wp2_with fail
  go_at_call 35
  refine (hob _).mono ?_
  rintro e w2 ⟨rfl, k2⟩
  have HK2 : Hid (Kept [] w w2) := HK1.out.then k2
  have HZ2 : Hid (w2.heap[w.heap.size]? = some (.cells Tryz.zeroCells61 61 (0, 0))) := k2.heap HZ1.out (by simp)
  clear hob k2
  go_wp2_with (refine wpList_store_row (by rfl) 61 (.tmp 2) (.tmp 16) (by rfl) w.heap.size orr (by rfl) (by rfl) 61 _ HZ2.out hos hzz hpo ?_)
  refine bodyPost_ret (v := .tuple #[.agg orr, .int .i64 0]) ?_ rfl ⟨q, by rw [← HOR.out], kept_setRow HK2.out (Nat.le_refl _) _⟩
  rw [results_cell_tmp rfl]
  have hld := run_loadVar_row (P := Tryz.prog) _ w.heap.size 61 61 orr (0, 0) _ (setRow_heap _ _ _ _ _ _ HZ2.out) hun rfl hos
  simp [asAddr, Result.andThen, hld]
end Go.Proofs.YtddhhjgegkkjbaaGreatDoor
