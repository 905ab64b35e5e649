/-
  Cells written in the middle of a block; blocks that are rows of one length, side by side.
  The comparison of two ids, as the model does it.
  A drawn region walked once, in the order of the text, over a class of worlds of one's own: its laws for a value, a load of a row, a call.
  Two ids compared inside a drawn region that is walked once: the laws of that step.
-/
import Derived.Test.YtddhhjgegkkjbaaGreatDoorPlain
import Derived.Deep.MidRow
import Derived.Laws.MakeOwn
import Derived.Test.YtddhhjgegkkjbaaGreatDoorSha2
import Derived.DeepKeys
import Derived.Deep.Quiet
namespace Go.Proofs.YtddhhjgegkkjbaaGreatDoor
open Go.RowKit

def setL (cur : Array Value) : Nat → List Value → Array Value
  | _, [] => cur
  | o, v :: r => setL (cur.setIfInBounds o v) (o + 1) r
theorem setL_spec : ∀ (vs : List Value) (o : Nat) (cur : Array Value), (setL cur o vs).size = cur.size ∧ ∀ k, (setL cur o vs)[k]? = if o ≤ k ∧ k < o + vs.length ∧ k < cur.size then vs[k - o]? else cur[k]?
  | [], o, cur => ⟨rfl, fun k => by rw [if_neg (by simp only [List.length_nil]; omega)]; rfl⟩
  | v :: r, o, cur => by
    obtain ⟨h1, h2⟩ := setL_spec r (o + 1) (cur.setIfInBounds o v)
    refine ⟨by unfold setL; rw [h1]; simp, fun k => ?_⟩
    unfold setL
    rw [h2 k]
    simp only [Array.size_setIfInBounds, List.length_cons]
    by_cases hk : o = k
    · subst hk
      rw [if_neg (by omega)]
      by_cases hs : o < cur.size
      · rw [if_pos ⟨Nat.le_refl _, by omega, hs⟩]
        simp [hs]
      · rw [if_neg (by omega)]
        simp [hs]
    · by_cases hin : o + 1 ≤ k ∧ k < o + 1 + r.length ∧ k < cur.size
      · rw [if_pos hin, if_pos (by omega)]
        have e : k - o = (k - (o + 1)) + 1 := by omega
        rw [e, List.getElem?_cons_succ]
      · rw [if_neg hin, if_neg (by omega)]
        simp [hk]
theorem setCells_heap (b : Nat) (t : TypeId) : ∀ (vs : List Value) (o : Nat) (w : World) (cur : Array Value), w.heap[b]? = some (.cells cur t (0, 0)) → (w.setCells b o vs).heap[b]? = some (.cells (setL cur o vs) t (0, 0))
  | [], _, _, _, h => h
  | v :: r, o, w, cur, h => by
    unfold World.setCells setL
    exact setCells_heap b t r (o + 1) _ _ (heap_setCell_same _ _ _ _ _ _ h)
theorem Kept.setCells {S : List Nat} {a : World} (b : Nat) (hp : b ∈ S ∨ a.heap.size ≤ b) : ∀ (vs : List Value) (o : Nat) (w : World), Kept S a w → Kept S a (w.setCells b o vs)
  | [], _, _, h => h
  | v :: r, o, w, h => by
    unfold World.setCells
    exact Kept.setCells b hp r (o + 1) _ (h.setCell hp v)


theorem flat_bind (k : Nat) (hk : 0 < k) : ∀ (rows : List (List Value)), (∀ r, r ∈ rows → r.length = k) → ∀ j : Nat, rows.flatten[j]? = (rows[j / k]?).bind fun r => r[j % k]?
  | [], _, j => by simp
  | r :: rs, h, j => by
    have hr := h r (by simp)
    rw [List.flatten_cons]
    by_cases hj : j < k
    · rw [List.getElem?_append_left (by omega), Nat.div_eq_of_lt hj, Nat.mod_eq_of_lt hj]
      rfl
    · have hd : j / k = (j - k) / k + 1 := by rw [Nat.div_eq_sub_div hk (by omega)]
      have hm : j % k = (j - k) % k := Nat.mod_eq_sub_mod (by omega)
      rw [List.getElem?_append_right (by omega), hr, hd, hm, List.getElem?_cons_succ]
      exact flat_bind k hk rs (fun x hx => h x (by simp [hx])) (j - k)
theorem flat_len (k : Nat) : ∀ (rows : List (List Value)), (∀ r, r ∈ rows → r.length = k) → rows.flatten.length = rows.length * k
  | [], _ => by simp
  | r :: rs, h => by
    rw [List.flatten_cons, List.length_append, h r (by simp), flat_len k rs (fun x hx => h x (by simp [hx])), List.length_cons, Nat.succ_mul]
    omega

/-- A row of which a part is written anew. -/
def putL (r : List Value) (o : Nat) (vs : List Value) : List Value := r.take o ++ vs ++ r.drop (o + vs.length)
theorem putL_len {r : List Value} {o : Nat} {vs : List Value} (h : o + vs.length ≤ r.length) : (putL r o vs).length = r.length := by
  unfold putL
  simp only [List.length_append, List.length_take, List.length_drop]
  omega
theorem putL_get {r : List Value} {o : Nat} {vs : List Value} (h : o + vs.length ≤ r.length) (j : Nat) : (putL r o vs)[j]? = if o ≤ j ∧ j < o + vs.length then vs[j - o]? else r[j]? := by
  unfold putL
  have hl : (r.take o).length = o := by rw [List.length_take]; omega
  by_cases h1 : j < o
  · rw [if_neg (by omega), List.append_assoc, List.getElem?_append_left (by omega), List.getElem?_take_of_lt h1]
  · by_cases h2 : j < o + vs.length
    · rw [if_pos ⟨by omega, h2⟩, List.append_assoc, List.getElem?_append_right (by omega), hl, List.getElem?_append_left (by omega)]
    · rw [if_neg (by omega), List.getElem?_append_right (by simp only [List.length_append, hl]; omega), List.getElem?_drop]
      congr 1
      simp only [List.length_append, hl]
      omega
theorem rows_put (k : Nat) (hk : 0 < k) (rows : List (List Value)) (h : ∀ r, r ∈ rows → r.length = k) (i : Nat) (r : List Value) (hi : rows[i]? = some r) (o : Nat) (vs : List Value) (ho : o + vs.length ≤ k) :
    setL rows.flatten.toArray (i * k + o) vs = (rows.set i (putL r o vs)).flatten.toArray := by
  have hil : i < rows.length := (List.getElem?_eq_some_iff.1 hi).1
  have hrk := h r (List.mem_of_getElem? hi)
  have h' : ∀ x, x ∈ rows.set i (putL r o vs) → x.length = k := fun x hx => by
    rcases List.mem_or_eq_of_mem_set hx with hm | rfl
    · exact h x hm
    · rw [putL_len (by omega)]; exact hrk
  obtain ⟨s1, s2⟩ := setL_spec vs (i * k + o) rows.flatten.toArray
  apply Array.ext_getElem?
  intro j
  have e1 : (rows.set i (putL r o vs)).flatten.toArray[j]? = (rows.set i (putL r o vs)).flatten[j]? := by simp
  have e2 : rows.flatten.toArray[j]? = rows.flatten[j]? := by simp
  rw [s2 j, e1, e2, flat_bind k hk _ h', flat_bind k hk _ h, List.size_toArray, flat_len k rows h]
  have hdm := Nat.div_add_mod j k
  have hml := Nat.mod_lt j hk
  by_cases hj : j / k = i
  · have hik : k * (j / k) = i * k := by rw [hj, Nat.mul_comm]
    have hin : i * k + k ≤ rows.length * k := by
      have := Nat.mul_le_mul_right k (by omega : i + 1 ≤ rows.length)
      rw [Nat.succ_mul] at this
      exact this
    rw [hj, List.getElem?_set_self hil, hi, Option.bind_some, Option.bind_some, putL_get (by omega)]
    by_cases hc : o ≤ j % k ∧ j % k < o + vs.length
    · rw [if_pos hc, if_pos ⟨by omega, by omega, by omega⟩]
      congr 1
      omega
    · rw [if_neg hc, if_neg (by omega)]
  · rw [List.getElem?_set_ne (Ne.symm hj)]
    by_cases hc : i * k + o ≤ j ∧ j < i * k + o + vs.length ∧ j < rows.length * k
    · exfalso
      apply hj
      exact Nat.div_eq_of_lt_le (by omega) (by rw [Nat.succ_mul]; omega)
    · rw [if_neg hc]

/-- The block g is just these rows. -/
def RowsIn (w : World) (g : Nat) (t : TypeId) (rows : List (List Value)) : Prop := w.heap[g]? = some (.cells rows.flatten.toArray t (0, 0))
theorem RowsIn.kept {w w' : World} {g : Nat} {t : TypeId} {rows : List (List Value)} {T : List Nat} (h : RowsIn w g t rows) (q : Kept T w w') (hn : g ∉ T) : RowsIn w' g t rows := q.heap h hn
theorem RowsIn.range {w : World} {g : Nat} {t : TypeId} {rows : List (List Value)} (h : RowsIn w g t rows) (k : Nat) (hk : 0 < k) (hr : ∀ r, r ∈ rows → r.length = k) (i : Nat) (r : List Value) (hi : rows[i]? = some r) : w.rangeAt g (i * k) r := fun j v hj => by
  have hjl : j < k := by
    have := (List.getElem?_eq_some_iff.1 hj).1
    rw [hr r (List.mem_of_getElem? hi)] at this
    exact this
  have e : rows.flatten.toArray[i * k + j]? = rows.flatten[i * k + j]? := by simp
  rw [cell_of_row _ _ _ _ _ _ h, e, flat_bind k hk rows hr, show (i * k + j) / k = i from Nat.div_eq_of_lt_le (by omega) (by rw [Nat.succ_mul]; omega), hi, Option.bind_some, Nat.mul_comm, Nat.mul_add_mod, Nat.mod_eq_of_lt hjl]
  exact hj
theorem RowsIn.put {w : World} {g : Nat} {t : TypeId} {rows : List (List Value)} (h : RowsIn w g t rows) (k : Nat) (hk : 0 < k) (hr : ∀ r, r ∈ rows → r.length = k) (i : Nat) (r : List Value) (hi : rows[i]? = some r) (o : Nat) (vs : List Value) (ho : o + vs.length ≤ k) :
    RowsIn (w.setCells g (i * k + o) vs) g t (rows.set i (putL r o vs)) := by
  unfold RowsIn
  rw [setCells_heap g t vs _ w _ h, rows_put k hk rows hr i r hi o vs ho]
theorem RowsIn.put1 {w : World} {g : Nat} {t : TypeId} {rows : List (List Value)} (h : RowsIn w g t rows) (k : Nat) (hk : 0 < k) (hr : ∀ r, r ∈ rows → r.length = k) (i : Nat) (r : List Value) (hi : rows[i]? = some r) (o : Nat) (v : Value) (ho : o < k) :
    RowsIn (w.setCell ⟨g, i * k + o, none⟩ v) g t (rows.set i (putL r o [v])) := h.put k hk hr i r hi o [v] (by show o + 1 ≤ k; omega)
theorem RowsIn.there {w : World} {g : Nat} {t : TypeId} {rows : List (List Value)} (h : RowsIn w g t rows) (k : Nat) (hk : 0 < k) (hr : ∀ r, r ∈ rows → r.length = k) (i : Nat) (r : List Value) (hi : rows[i]? = some r) (o n : Nat) (ho : o + n ≤ k) : w.there g (i * k + o) n := fun j hj => by
  have hrk := hr r (List.mem_of_getElem? hi)
  have hR := h.range k hk hr i r hi (o + j) _ (List.getElem?_eq_getElem (by omega))
  refine ⟨?_, frozen_of_row w g _ _ _ h⟩
  rw [show i * k + o + j = i * k + (o + j) by omega, hR]
  rfl
theorem RowsIn.frozen {w : World} {g : Nat} {t : TypeId} {rows : List (List Value)} (h : RowsIn w g t rows) (i : Nat) : w.frozen? ⟨g, i, none⟩ = false := frozen_of_row w g _ _ _ h
theorem made_rows (z : List Value) (k n : Nat) (hk : 0 < k) (hz : z.length = k) : madeCells z.toArray (n * k) = (List.replicate n z).flatten.toArray := by
  apply Array.ext_getElem?
  intro j
  have e : (List.replicate n z).flatten.toArray[j]? = (List.replicate n z).flatten[j]? := by simp
  rw [e, flat_bind k hk _ (fun r hr => by rw [(List.mem_replicate.1 hr).2]; exact hz)]
  unfold madeCells
  rw [Array.getElem?_map]
  have hml := Nat.mod_lt j hk
  by_cases hj : j < n * k
  · have hd : j / k < n := Nat.div_lt_of_lt_mul (by rw [Nat.mul_comm]; exact hj)
    rw [List.getElem?_replicate, if_pos hd, Option.bind_some]
    simp [hj, hz, hml]
  · have hd : ¬ j / k < n := fun h => hj (by
      have h1 := Nat.div_add_mod j k
      have h2 : k * (j / k) + k ≤ k * n := by rw [← Nat.mul_succ]; exact Nat.mul_le_mul_left k h
      rw [Nat.mul_comm n k]
      omega)
    rw [List.getElem?_replicate, if_neg hd]
    simp [hj]
end Go.Proofs.YtddhhjgegkkjbaaGreatDoor

namespace Go.Proofs.YtddhhjgegkkjbaaGreatDoor
open Go.RowKit

theorem items_id (xs ys : List Int) (W : World) (d : Nat) : ∀ is : List Nat, (∀ i ∈ is, i < xs.length ∧ i < ys.length) →
    (Op.eqItems (d + 1) 5 1 (idC xs) (idC ys) is).run Tryz.prog W = .ok (is.all fun i => xs[i]?.getD 0 == ys[i]?.getD 0) W
  | [], _ => by simp [Op.eqItems]
  | i :: is, h => by
    have hx := idC_get (h i (by simp)).1
    have hy := idC_get (h i (by simp)).2
    have he : Tryz.prog.plainKey 5 = true := by kernel_rfl
    simp only [Op.eqItems, Sem.run_bind, Nat.mul_one, run_part_plain W he hx, run_part_plain W he hy, Result.andThen_ok, run_equalIn_int W d 5 .u8 .u8 _ _ Tryz.underlying5, List.all_cons]
    cases (xs[i]?.getD 0 == ys[i]?.getD 0)
    · simp
    · simpa using items_id xs ys W d is fun j hj => h j (by simp [hj])

theorem Tryz.cellsU8 : Tryz.prog.cellsOf 5 = 1 := by kernel_rfl
theorem Tryz.hasU8 : (Tryz.prog.info? 5).isSome = true := by kernel_rfl

theorem idEq (xs ys : List Int) (W : World) (hx : xs.length = 32) (hy : ys.length = 32) :
    (Op.equalIn 10000 36 (.agg (idC xs)) (.agg (idC ys))).run Tryz.prog W = .ok (decide (xs = ys)) W := by
  obtain ⟨i, hi⟩ := Option.isSome_iff_exists.1 Tryz.hasU8
  rw [show 10000 = 9999 + 1 from rfl, run_equalIn_array W 9999 _ _ Tryz.underlying36 hi, Tryz.cellsU8, show 9999 = 9998 + 1 from rfl, items_id xs ys W 9998 (List.range 32) (fun j hj => by rw [hx, hy]; simpa using hj)]
  have e : ((List.range 32).all fun i => xs[i]?.getD 0 == ys[i]?.getD 0) = decide (xs = ys) := by
    rw [Bool.eq_iff_iff, decide_eq_true_iff, List.all_eq_true]
    constructor
    · intro h
      refine List.ext_getElem (by omega) fun j h1 h2 => ?_
      have := h j (by simp; omega)
      simpa [List.getElem?_eq_getElem h1, List.getElem?_eq_getElem h2] using this
    · rintro rfl j _
      simp
  rw [e]
end Go.Proofs.YtddhhjgegkkjbaaGreatDoor

namespace Go.Proofs.YtddhhjgegkkjbaaGreatDoor
open Go.RowKit

section
variable {P : Program} {ops : Array Oper} {C : World → Prop} {Q : Act → Prop} {rest : List Oper} {o : Oper} {a : Act}

theorem quiet_val (hw : Region.wanted o (yielded ops a.tmps) = true) (v : Value) (hv : ∀ W, (execOp a.eval o).run P W = .ok (.value v) W) (h : wpQuiet P ops C Q rest (a.put o.dst v)) : wpQuiet P ops C Q (o :: rest) a := by
  unfold wpQuiet
  rw [if_pos hw]
  exact ⟨v, fun W _ => by unfold Oper.quietAt; rw [hv W]; exact ⟨rfl, rfl⟩, h⟩

theorem quiet_row (hw : Region.wanted o (yielded ops a.tmps) = true) (ty : TypeId) (x : Operand) (ho : o.op = .load ty x) (b i : Nat) (hx : a.eval x = .pointer (some ⟨b, i, none⟩)) (cs : List Value) (d : TypeDesc) (hC : ∀ W, C W → W.rangeAt b i cs)
    (hu : P.underlying ty = some d) (hd : d.isRow = true) (hi : (P.info? ty).map (·.size) = some cs.length) (h : wpQuiet P ops C Q rest (a.put o.dst (.agg cs.toArray))) : wpQuiet P ops C Q (o :: rest) a := by
  unfold wpQuiet
  rw [if_pos hw]
  refine ⟨.agg cs.toArray, fun W hW => ?_, h⟩
  unfold Oper.quietAt execOp
  simp only [ho, hx, Instr.loadAt, Instr.sureAddr, Sem.run_bind, Sem.run_pure, Result.andThen_ok, run_loadVar_mid W b i ty cs d (hC W hW) hu hd hi]
  exact ⟨rfl, rfl⟩

theorem quiet_call (hw : Region.wanted o (yielded ops a.tmps) = true) (f : FuncId) (args : Array Value) (v : Value) (he : ∀ W, (execOp a.eval o).run P W = .ok (.enter f args) W) (hc : ∀ W, C W → Calls P f args W fun e w' => e = .returned v ∧ C w')
    (h : wpQuiet P ops C Q rest (a.put o.dst v)) : wpQuiet P ops C Q (o :: rest) a := by
  unfold wpQuiet
  rw [if_pos hw]
  exact ⟨v, fun W hW => by unfold Oper.quietAt; rw [he W]; exact ⟨rfl, hc W hW⟩, h⟩

theorem quiet_move (hw : Region.wanted o (yielded ops a.tmps) = true) (x : Operand) (ho : o.op = .move x) (v : Value) (hx : a.eval x = v) (h : wpQuiet P ops C Q rest (a.put o.dst v)) : wpQuiet P ops C Q (o :: rest) a :=
  quiet_val hw v (fun W => by unfold execOp; rw [ho, ← hx]; rfl) h
theorem quiet_assign (hw : Region.wanted o (yielded ops a.tmps) = true) (x : Operand) (ho : o.op = .assign x) (v : Value) (hx : a.eval x = v) (h : wpQuiet P ops C Q rest (a.put o.dst v)) : wpQuiet P ops C Q (o :: rest) a :=
  quiet_val hw v (fun W => by unfold execOp; rw [ho, ← hx]; rfl) h

/-- The same at one operation that is carried out: the list that follows lies under the letter K (a goal that begins with a guarded operation is unfolded, and takes minutes, wherever a term is given for it: go on by 'with_reducible refine wpQuiet_step ?_'). -/
theorem val_at {K : Act → Prop} (v : Value) (hv : ∀ W, (execOp a.eval o).run P W = .ok (.value v) W) (hK : K (a.put o.dst v)) : o.quiet P a C K :=
  ⟨v, fun W _ => by unfold Oper.quietAt; rw [hv W]; exact ⟨rfl, rfl⟩, hK⟩
theorem move_at {K : Act → Prop} (x : Operand) (ho : o.op = .move x) (v : Value) (hx : a.eval x = v) (hK : K (a.put o.dst v)) : o.quiet P a C K :=
  val_at v (fun W => by unfold execOp; rw [ho, ← hx]; rfl) hK
theorem row_at {K : Act → Prop} (ty : TypeId) (x : Operand) (ho : o.op = .load ty x) (b i : Nat) (hx : a.eval x = .pointer (some ⟨b, i, none⟩)) (cs : List Value) (d : TypeDesc) (hC : ∀ W, C W → W.rangeAt b i cs)
    (hu : P.underlying ty = some d) (hd : d.isRow = true) (hi : (P.info? ty).map (·.size) = some cs.length) (hK : K (a.put o.dst (.agg cs.toArray))) : o.quiet P a C K := by
  refine ⟨.agg cs.toArray, fun W hW => ?_, hK⟩
  unfold Oper.quietAt execOp
  simp only [ho, hx, Instr.loadAt, Instr.sureAddr, Sem.run_bind, Sem.run_pure, Result.andThen_ok, run_loadVar_mid W b i ty cs d (hC W hW) hu hd hi]
  exact ⟨rfl, rfl⟩
theorem call_at {K : Act → Prop} (f : FuncId) (args : Array Value) (v : Value) (he : ∀ W, (execOp a.eval o).run P W = .ok (.enter f args) W) (hc : ∀ W, C W → Calls P f args W fun e w' => e = .returned v ∧ C w') (hK : K (a.put o.dst v)) : o.quiet P a C K :=
  ⟨v, fun W hW => by unfold Oper.quietAt; rw [he W]; exact ⟨rfl, hc W hW⟩, hK⟩

theorem region_quiet {id : Nat} {Q : Exit → Act → World → Prop} {a : Act} {w : World} {l : List Oper} (C : World → Prop) (hm : P.follows .mixedOrders = true) (hB : Region.lexB .any l.toArray = true) (hC : C w.drew)
    (h : wpQuiet P l.toArray C (fun a' => ∀ w', C w' → Q .normal a' w') l a) : (Code.region id l.toArray true).wp P Q a w :=
  wp_region_quiet (C := C) hm hB hC (by simpa using h)
end
end Go.Proofs.YtddhhjgegkkjbaaGreatDoor

namespace Go.Proofs.YtddhhjgegkkjbaaGreatDoor
open Go.RowKit

theorem run_id_eql (x y : Operand) (A B : Array Value) (W : World) (r : Bool) (hr : (Op.equalIn 10000 36 (.agg A) (.agg B)).run Tryz.prog W = .ok r W) :
    Sem.run Tryz.prog (do eqGuard BinOp.eql 36 x y (Value.agg A) (Value.agg B); binOp BinOp.eql 36 (Value.agg A) (Value.agg B)) W = .ok (.bool r) W := by
  simp [eqGuard, binOp]
  have e : Op.equal 36 (.agg A) (.agg B) = Op.equalIn 10000 36 (.agg A) (.agg B) := rfl
  rw [e, hr]
  rfl
theorem run_id_neq (x y : Operand) (A B : Array Value) (W : World) (r : Bool) (hr : (Op.equalIn 10000 36 (.agg A) (.agg B)).run Tryz.prog W = .ok r W) :
    Sem.run Tryz.prog (do eqGuard BinOp.neq 36 x y (Value.agg A) (Value.agg B); binOp BinOp.neq 36 (Value.agg A) (Value.agg B)) W = .ok (.bool !r) W := by
  simp [eqGuard, binOp]
  have e : Op.equal 36 (.agg A) (.agg B) = Op.equalIn 10000 36 (.agg A) (.agg B) := rfl
  rw [e, hr]
  rfl

section
variable {ops : Array Oper} {C : World → Prop} {Q : Act → Prop} {rest : List Oper} {o : Oper} {a : Act}
theorem quiet_eql (hw : Region.wanted o (yielded ops a.tmps) = true) (x y : Operand) (rt : TypeId) (ho : o.op = .binOp .eql 36 x y rt) (A B : Array Value) (hx : a.eval x = .agg A) (hy : a.eval y = .agg B) (r : Bool)
    (hr : ∀ W, (Op.equalIn 10000 36 (.agg A) (.agg B)).run Tryz.prog W = .ok r W) (h : wpQuiet Tryz.prog ops C Q rest (a.put o.dst (.bool r))) : wpQuiet Tryz.prog ops C Q (o :: rest) a := by
  refine quiet_val hw (.bool r) (fun W => ?_) h
  unfold execOp
  simp only [ho, hx, hy]
  rw [Sem.run_bind, run_id_eql x y A B W r (hr W)]
  rfl
theorem quiet_neq (hw : Region.wanted o (yielded ops a.tmps) = true) (x y : Operand) (rt : TypeId) (ho : o.op = .binOp .neq 36 x y rt) (A B : Array Value) (hx : a.eval x = .agg A) (hy : a.eval y = .agg B) (r : Bool)
    (hr : ∀ W, (Op.equalIn 10000 36 (.agg A) (.agg B)).run Tryz.prog W = .ok r W) (h : wpQuiet Tryz.prog ops C Q rest (a.put o.dst (.bool !r))) : wpQuiet Tryz.prog ops C Q (o :: rest) a := by
  refine quiet_val hw (.bool !r) (fun W => ?_) h
  unfold execOp
  simp only [ho, hx, hy]
  rw [Sem.run_bind, run_id_neq x y A B W r (hr W)]
  rfl
theorem valC_at {K : Act → Prop} (v : Value) (hv : ∀ W, C W → (execOp a.eval o).run Tryz.prog W = .ok (.value v) W) (hK : K (a.put o.dst v)) : o.quiet Tryz.prog a C K :=
  ⟨v, fun W hW => by unfold Oper.quietAt; rw [hv W hW]; exact ⟨rfl, rfl⟩, hK⟩
theorem neq_at {K : Act → Prop} (x y : Operand) (rt : TypeId) (ho : o.op = .binOp .neq 36 x y rt) (A B : Array Value) (hx : a.eval x = .agg A) (hy : a.eval y = .agg B) (r : Bool)
    (hr : ∀ W, (Op.equalIn 10000 36 (.agg A) (.agg B)).run Tryz.prog W = .ok r W) (hK : K (a.put o.dst (.bool !r))) : o.quiet Tryz.prog a C K := by
  refine val_at (.bool !r) (fun W => ?_) hK
  unfold execOp
  simp only [ho, hx, hy]
  rw [Sem.run_bind, run_id_neq x y A B W r (hr W)]
  rfl
theorem valC (hw : Region.wanted o (yielded ops a.tmps) = true) (v : Value) (hv : ∀ W, C W → (execOp a.eval o).run Tryz.prog W = .ok (.value v) W) (h : wpQuiet Tryz.prog ops C Q rest (a.put o.dst v)) : wpQuiet Tryz.prog ops C Q (o :: rest) a := by
  unfold wpQuiet
  rw [if_pos hw]
  exact valC_at v hv h
end
end Go.Proofs.YtddhhjgegkkjbaaGreatDoor
