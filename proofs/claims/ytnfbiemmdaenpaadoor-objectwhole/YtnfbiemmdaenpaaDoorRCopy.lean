/-
  The comparison of two ids, as the model does it.
  A drawn region walked once, in the order of the text, over a class of worlds of one's own: its laws for a value, a load of a row, a call.
  Two ids compared inside a drawn region that is walked once: the laws of that step.
  LISTS OF BYTES AND OF INTEGERS OPENED: what a reading of them says of memory, and how much it weighs.
  LISTS OF STRUCTS OPENED, whatever the struct: what a reading of one says of memory.
  WALK: satchelref0.Copy, for every slice of bytes.
-/
import Derived.Test.YtnfbiemmdaenpaaDoorFixB
import Derived.DeepKeys
import Derived.Test.YtnfbiemmdaenpaaDoorPlain
import Derived.Deep.Quiet
import Derived.Deep.MidRow
import Derived.Test.YtnfbiemmdaenpaaDoorRows
import Derived.ProofKit
import Derived.OpenShut
import Derived.SizedLaws
import Derived.Deep.Slices
namespace Go.Proofs.YtnfbiemmdaenpaaDoor
open Go.RowKit

theorem items_id (xs ys : List Int) (W : World) (d : Nat) : ∀ is : List Nat, (∀ i ∈ is, i < xs.length ∧ i < ys.length) →
    (Op.eqItems (d + 1) 5 1 (idC xs) (idC ys) is).run Tryd.prog W = .ok (is.all fun i => xs[i]?.getD 0 == ys[i]?.getD 0) W
  | [], _ => by simp [Op.eqItems]
  | i :: is, h => by
    have hx := idC_get (h i (by simp)).1
    have hy := idC_get (h i (by simp)).2
    have he : Tryd.prog.plainKey 5 = true := by kernel_rfl
    simp only [Op.eqItems, Sem.run_bind, Nat.mul_one, run_part_plain W he hx, run_part_plain W he hy, Result.andThen_ok, run_equalIn_int W d 5 .u8 .u8 _ _ Tryd.underlying5, List.all_cons]
    cases (xs[i]?.getD 0 == ys[i]?.getD 0)
    · simp
    · simpa using items_id xs ys W d is fun j hj => h j (by simp [hj])

theorem Tryd.cellsU8 : Tryd.prog.cellsOf 5 = 1 := by kernel_rfl
theorem Tryd.hasU8 : (Tryd.prog.info? 5).isSome = true := by kernel_rfl

theorem idEq (xs ys : List Int) (W : World) (hx : xs.length = 32) (hy : ys.length = 32) :
    (Op.equalIn 10000 25 (.agg (idC xs)) (.agg (idC ys))).run Tryd.prog W = .ok (decide (xs = ys)) W := by
  obtain ⟨i, hi⟩ := Option.isSome_iff_exists.1 Tryd.hasU8
  rw [show 10000 = 9999 + 1 from rfl, run_equalIn_array W 9999 _ _ Tryd.underlying25 hi, Tryd.cellsU8, show 9999 = 9998 + 1 from rfl, items_id xs ys W 9998 (List.range 32) (fun j hj => by rw [hx, hy]; simpa using hj)]
  have e : ((List.range 32).all fun i => xs[i]?.getD 0 == ys[i]?.getD 0) = decide (xs = ys) := by
    rw [Bool.eq_iff_iff, decide_eq_true_iff, List.all_eq_true]
    constructor
    · intro h
      refine List.ext_getElem (by omega) fun j h1 h2 => ?_
      have := h j (by simp; omega)
      simpa [List.getElem?_eq_getElem h1, List.getElem?_eq_getElem h2] using this
    · rintro rfl j _
      simp
  rw [e]
end Go.Proofs.YtnfbiemmdaenpaaDoor

namespace Go.Proofs.YtnfbiemmdaenpaaDoor
open Go.RowKit

section
variable {P : Program} {ops : Array Oper} {C : World → Prop} {Q : Act → Prop} {rest : List Oper} {o : Oper} {a : Act}

theorem quiet_val (hw : Region.wanted o (yielded ops a.tmps) = true) (v : Value) (hv : ∀ W, (execOp a.eval o).run P W = .ok (.value v) W) (h : wpQuiet P ops C Q rest (a.put o.dst v)) : wpQuiet P ops C Q (o :: rest) a := by
  unfold wpQuiet
  rw [if_pos hw]
  exact ⟨v, fun W _ => by unfold Oper.quietAt; rw [hv W]; exact ⟨rfl, rfl⟩, h⟩

theorem quiet_row (hw : Region.wanted o (yielded ops a.tmps) = true) (ty : TypeId) (x : Operand) (ho : o.op = .load ty x) (b i : Nat) (hx : a.eval x = .pointer (some ⟨b, i, none⟩)) (cs : List Value) (d : TypeDesc) (hC : ∀ W, C W → W.rangeAt b i cs)
    (hu : P.underlying ty = some d) (hd : d.isRow = true) (hi : (P.info? ty).map (·.size) = some cs.length) (h : wpQuiet P ops C Q rest (a.put o.dst (.agg cs.toArray))) : wpQuiet P ops C Q (o :: rest) a := by
  unfold wpQuiet
  rw [if_pos hw]
  refine ⟨.agg cs.toArray, fun W hW => ?_, h⟩
  unfold Oper.quietAt execOp
  simp only [ho, hx, Instr.loadAt, Instr.sureAddr, Sem.run_bind, Sem.run_pure, Result.andThen_ok, run_loadVar_mid W b i ty cs d (hC W hW) hu hd hi]
  exact ⟨rfl, rfl⟩

theorem quiet_call (hw : Region.wanted o (yielded ops a.tmps) = true) (f : FuncId) (args : Array Value) (v : Value) (he : ∀ W, (execOp a.eval o).run P W = .ok (.enter f args) W) (hc : ∀ W, C W → Calls P f args W fun e w' => e = .returned v ∧ C w')
    (h : wpQuiet P ops C Q rest (a.put o.dst v)) : wpQuiet P ops C Q (o :: rest) a := by
  unfold wpQuiet
  rw [if_pos hw]
  exact ⟨v, fun W hW => by unfold Oper.quietAt; rw [he W]; exact ⟨rfl, hc W hW⟩, h⟩

theorem quiet_skip (hw : Region.wanted o (yielded ops a.tmps) = false) (h : wpQuiet P ops C Q rest (a.put o.dst undef)) : wpQuiet P ops C Q (o :: rest) a := by
  unfold wpQuiet
  rw [if_neg (by rw [hw]; exact Bool.false_ne_true)]
  exact h

theorem quiet_move (hw : Region.wanted o (yielded ops a.tmps) = true) (x : Operand) (ho : o.op = .move x) (v : Value) (hx : a.eval x = v) (h : wpQuiet P ops C Q rest (a.put o.dst v)) : wpQuiet P ops C Q (o :: rest) a :=
  quiet_val hw v (fun W => by unfold execOp; rw [ho, ← hx]; rfl) h
theorem quiet_assign (hw : Region.wanted o (yielded ops a.tmps) = true) (x : Operand) (ho : o.op = .assign x) (v : Value) (hx : a.eval x = v) (h : wpQuiet P ops C Q rest (a.put o.dst v)) : wpQuiet P ops C Q (o :: rest) a :=
  quiet_val hw v (fun W => by unfold execOp; rw [ho, ← hx]; rfl) h

/-- The same at one operation that is carried out: the list that follows lies under the letter K (a goal that begins with a guarded operation is unfolded, and takes minutes, wherever a term is given for it: go on by 'with_reducible refine wpQuiet_step ?_'). -/
theorem val_at {K : Act → Prop} (v : Value) (hv : ∀ W, (execOp a.eval o).run P W = .ok (.value v) W) (hK : K (a.put o.dst v)) : o.quiet P a C K :=
  ⟨v, fun W _ => by unfold Oper.quietAt; rw [hv W]; exact ⟨rfl, rfl⟩, hK⟩
theorem move_at {K : Act → Prop} (x : Operand) (ho : o.op = .move x) (v : Value) (hx : a.eval x = v) (hK : K (a.put o.dst v)) : o.quiet P a C K :=
  val_at v (fun W => by unfold execOp; rw [ho, ← hx]; rfl) hK
theorem row_at {K : Act → Prop} (ty : TypeId) (x : Operand) (ho : o.op = .load ty x) (b i : Nat) (hx : a.eval x = .pointer (some ⟨b, i, none⟩)) (cs : List Value) (d : TypeDesc) (hC : ∀ W, C W → W.rangeAt b i cs)
    (hu : P.underlying ty = some d) (hd : d.isRow = true) (hi : (P.info? ty).map (·.size) = some cs.length) (hK : K (a.put o.dst (.agg cs.toArray))) : o.quiet P a C K := by
  refine ⟨.agg cs.toArray, fun W hW => ?_, hK⟩
  unfold Oper.quietAt execOp
  simp only [ho, hx, Instr.loadAt, Instr.sureAddr, Sem.run_bind, Sem.run_pure, Result.andThen_ok, run_loadVar_mid W b i ty cs d (hC W hW) hu hd hi]
  exact ⟨rfl, rfl⟩
theorem call_at {K : Act → Prop} (f : FuncId) (args : Array Value) (v : Value) (he : ∀ W, (execOp a.eval o).run P W = .ok (.enter f args) W) (hc : ∀ W, C W → Calls P f args W fun e w' => e = .returned v ∧ C w') (hK : K (a.put o.dst v)) : o.quiet P a C K :=
  ⟨v, fun W hW => by unfold Oper.quietAt; rw [he W]; exact ⟨rfl, hc W hW⟩, hK⟩

theorem region_quiet {id : Nat} {Q : Exit → Act → World → Prop} {a : Act} {w : World} {l : List Oper} (C : World → Prop) (hm : P.follows .mixedOrders = true) (hB : Region.lexB .any l.toArray = true) (hC : C w.drew)
    (h : wpQuiet P l.toArray C (fun a' => ∀ w', C w' → Q .normal a' w') l a) : (Code.region id l.toArray true).wp P Q a w :=
  wp_region_quiet (C := C) hm hB hC (by simpa using h)
end
end Go.Proofs.YtnfbiemmdaenpaaDoor

namespace Go.Proofs.YtnfbiemmdaenpaaDoor
open Go.RowKit

theorem run_id_eql (x y : Operand) (A B : Array Value) (W : World) (r : Bool) (hr : (Op.equalIn 10000 25 (.agg A) (.agg B)).run Tryd.prog W = .ok r W) :
    Sem.run Tryd.prog (do eqGuard BinOp.eql 25 x y (Value.agg A) (Value.agg B); binOp BinOp.eql 25 (Value.agg A) (Value.agg B)) W = .ok (.bool r) W := by
  simp [eqGuard, binOp]
  have e : Op.equal 25 (.agg A) (.agg B) = Op.equalIn 10000 25 (.agg A) (.agg B) := rfl
  rw [e, hr]
  rfl
theorem run_id_neq (x y : Operand) (A B : Array Value) (W : World) (r : Bool) (hr : (Op.equalIn 10000 25 (.agg A) (.agg B)).run Tryd.prog W = .ok r W) :
    Sem.run Tryd.prog (do eqGuard BinOp.neq 25 x y (Value.agg A) (Value.agg B); binOp BinOp.neq 25 (Value.agg A) (Value.agg B)) W = .ok (.bool !r) W := by
  simp [eqGuard, binOp]
  have e : Op.equal 25 (.agg A) (.agg B) = Op.equalIn 10000 25 (.agg A) (.agg B) := rfl
  rw [e, hr]
  rfl

section
variable {ops : Array Oper} {C : World → Prop} {Q : Act → Prop} {rest : List Oper} {o : Oper} {a : Act}
theorem quiet_eql (hw : Region.wanted o (yielded ops a.tmps) = true) (x y : Operand) (rt : TypeId) (ho : o.op = .binOp .eql 25 x y rt) (A B : Array Value) (hx : a.eval x = .agg A) (hy : a.eval y = .agg B) (r : Bool)
    (hr : ∀ W, (Op.equalIn 10000 25 (.agg A) (.agg B)).run Tryd.prog W = .ok r W) (h : wpQuiet Tryd.prog ops C Q rest (a.put o.dst (.bool r))) : wpQuiet Tryd.prog ops C Q (o :: rest) a := by
  refine quiet_val hw (.bool r) (fun W => ?_) h
  unfold execOp
  simp only [ho, hx, hy]
  rw [Sem.run_bind, run_id_eql x y A B W r (hr W)]
  rfl
theorem quiet_neq (hw : Region.wanted o (yielded ops a.tmps) = true) (x y : Operand) (rt : TypeId) (ho : o.op = .binOp .neq 25 x y rt) (A B : Array Value) (hx : a.eval x = .agg A) (hy : a.eval y = .agg B) (r : Bool)
    (hr : ∀ W, (Op.equalIn 10000 25 (.agg A) (.agg B)).run Tryd.prog W = .ok r W) (h : wpQuiet Tryd.prog ops C Q rest (a.put o.dst (.bool !r))) : wpQuiet Tryd.prog ops C Q (o :: rest) a := by
  refine quiet_val hw (.bool !r) (fun W => ?_) h
  unfold execOp
  simp only [ho, hx, hy]
  rw [Sem.run_bind, run_id_neq x y A B W r (hr W)]
  rfl
theorem valC_at {K : Act → Prop} (v : Value) (hv : ∀ W, C W → (execOp a.eval o).run Tryd.prog W = .ok (.value v) W) (hK : K (a.put o.dst v)) : o.quiet Tryd.prog a C K :=
  ⟨v, fun W hW => by unfold Oper.quietAt; rw [hv W hW]; exact ⟨rfl, rfl⟩, hK⟩
theorem neq_at {K : Act → Prop} (x y : Operand) (rt : TypeId) (ho : o.op = .binOp .neq 25 x y rt) (A B : Array Value) (hx : a.eval x = .agg A) (hy : a.eval y = .agg B) (r : Bool)
    (hr : ∀ W, (Op.equalIn 10000 25 (.agg A) (.agg B)).run Tryd.prog W = .ok r W) (hK : K (a.put o.dst (.bool !r))) : o.quiet Tryd.prog a C K := by
  refine val_at (.bool !r) (fun W => ?_) hK
  unfold execOp
  simp only [ho, hx, hy]
  rw [Sem.run_bind, run_id_neq x y A B W r (hr W)]
  rfl
theorem eql_at {K : Act → Prop} (x y : Operand) (rt : TypeId) (ho : o.op = .binOp .eql 25 x y rt) (A B : Array Value) (hx : a.eval x = .agg A) (hy : a.eval y = .agg B) (r : Bool)
    (hr : ∀ W, (Op.equalIn 10000 25 (.agg A) (.agg B)).run Tryd.prog W = .ok r W) (hK : K (a.put o.dst (.bool r))) : o.quiet Tryd.prog a C K := by
  refine val_at (.bool r) (fun W => ?_) hK
  unfold execOp
  simp only [ho, hx, hy]
  rw [Sem.run_bind, run_id_eql x y A B W r (hr W)]
  rfl
theorem valC (hw : Region.wanted o (yielded ops a.tmps) = true) (v : Value) (hv : ∀ W, C W → (execOp a.eval o).run Tryd.prog W = .ok (.value v) W) (h : wpQuiet Tryd.prog ops C Q rest (a.put o.dst v)) : wpQuiet Tryd.prog ops C Q (o :: rest) a := by
  unfold wpQuiet
  rw [if_pos hw]
  exact valC_at v hv h
end
end Go.Proofs.YtnfbiemmdaenpaaDoor

namespace Go.Proofs.YtnfbiemmdaenpaaDoor
open Go.ChangeShapes Go.WideShapes Go.ChangeAt Go.RowKit Go.Deep

theorem Tryd.cells_u8 : Tryd.prog.cellsOf 5 = 1 := by kernel_rfl
theorem Tryd.bytes_u8 : Tryd.prog.bytesOf 5 = 1 := by kernel_rfl
theorem Tryd.cells_bytes : Tryd.prog.cellsOf 22 = 1 := by kernel_rfl
theorem Tryd.cells_int : Tryd.prog.cellsOf 3 = 1 := by kernel_rfl

section
variable {H : Type} {enc : TypeId × Value → H} {w : World} {base : Nat} {spare : Nat → Bool} {held : Bool} {fuel : Nat} {cs : List Value} {x : DataW H × List MemPlace}

theorem octs_wf {zs : List Int} (h : ∀ n ∈ zs, (Lit.int .u8 n).wf = true) : Octs zs := fun u hu => by
  have h1 := h u hu
  have e1 : IntKind.u8.min = 0 := rfl
  have e2 : IntKind.u8.max = 255 := rfl
  simp only [Lit.wf, Bool.and_eq_true, decide_eq_true_eq, e1, e2] at h1
  omega
theorem i64_wf {n : Int} (h : (Lit.int .i64 n).wf = true) : -9223372036854775808 ≤ n ∧ n ≤ 9223372036854775807 := by
  have e1 : IntKind.i64.min = -9223372036854775808 := rfl
  have e2 : IntKind.i64.max = 9223372036854775807 := rfl
  simp only [Lit.wf, Bool.and_eq_true, decide_eq_true_eq, e1, e2] at h
  omega
theorem u64_wf {n : Int} (h : (Lit.int .u64 n).wf = true) : 0 ≤ n ∧ n ≤ 18446744073709551615 := by
  have e1 : IntKind.u64.min = 0 := rfl
  have e2 : IntKind.u64.max = 18446744073709551615 := rfl
  simp only [Lit.wf, Bool.and_eq_true, decide_eq_true_eq, e1, e2] at h
  omega

theorem bulk_length (l : List (DataW H)) : l.length ≤ Rows.uptoBulkAll l := by
  induction l with
  | nil => simp [Rows.uptoBulkAll]
  | cons d r ih =>
    have h1 : 1 ≤ Rows.uptoBulk d := by
      cases d with
      | lit l => cases l <;> simp [Rows.uptoBulk]
      | nil => simp [Rows.uptoBulk]
      | ptr d => simp [Rows.uptoBulk]
      | slice elems spare => simp [Rows.uptoBulk]
      | agg parts => simp [Rows.uptoBulk]
      | iface t d => simp [Rows.uptoBulk]
      | map entries => simp [Rows.uptoBulk]
      | held h => simp [Rows.uptoBulk]
    simp only [Rows.uptoBulkAll, List.length_cons]
    omega

theorem open_bytes (h : DataW.trod enc Tryd.prog w base spare held fuel 22 cs = some x) :
    ∃ ao cap ys, cs = [.slice ao ys.length cap] ∧ BytesAt w (.slice ao ys.length cap) ys ∧ Octs ys ∧ (∀ B, (DataW.weights Tryd.prog 22 x.1).all (· ≤ B) = true → ys.length ≤ B) ∧ ys.length + 1 ≤ Rows.uptoBulk x.1 := by
  rcases open_ints Tryd.underlying22 Tryd.underlying5 Tryd.cells_u8 h with ⟨rfl, rfl⟩ | ⟨a, len, cap, zs, rfl, _, hl, hm, hz, rfl, hcell, hwz⟩
  · exact ⟨none, 0, [], rfl, BytesAt.nil w, fun u hu => by simp at hu, fun _ _ => Nat.zero_le _, by simp [Rows.uptoBulk]⟩
  · have hlz : len ≤ zs.length := by rw [hz]; split <;> omega
    have hy : (zs.take len).length = len := by simp; omega
    refine ⟨some a, cap, zs.take len, by rw [hy], ?_, fun u hu => octs_wf hwz u (List.mem_of_mem_take hu), fun B hB => ?_, ?_⟩
    · refine ⟨some a, cap, rfl, by rw [hy]; exact hl, fun e => (by simp at e), fun hne => ?_⟩
      have hpos : 0 < zs.length := by
        rcases Nat.eq_zero_or_pos zs.length with h0 | h0
        · rw [List.eq_nil_of_length_eq_zero h0] at hne; simp at hne
        · exact h0
      obtain ⟨b, off, rfl, hc⟩ := ints_at hcell hpos
      refine ⟨b, off, rfl, fun i u hu => ?_⟩
      have hi : i < (zs.take len).length := (List.getElem?_eq_some_iff.1 hu).1
      rw [hy] at hi
      rw [hc i (by omega)]
      rw [List.getElem?_take_of_lt hi] at hu
      simp [List.getD, hu]
    · rw [hy]
      simp only [DataW.weights, Tryd.underlying22, Tryd.bytes_u8, List.all_cons, Bool.and_eq_true, decide_eq_true_eq, lits, List.length_map, List.length_take, List.length_drop] at hB
      omega
    · have h1 := bulk_length (lits (H := H) .u8 (zs.take len))
      simp only [Rows.uptoBulk]
      simp only [lits, List.length_map] at h1 ⊢
      omega
end
end Go.Proofs.YtnfbiemmdaenpaaDoor

namespace Go.Proofs.YtnfbiemmdaenpaaDoor
open Go.ChangeShapes Go.WideShapes Go.ChangeAt Go.RowKit Go.Deep

/-- A string's bytes as numbers. -/
def numsOf (s : ByteArray) : List Int := s.data.toList.map fun b => (b.toNat : Int)
theorem nums_str (s : ByteArray) : strOfNums (numsOf s) = s := by
  have e : (numsOf s).map (fun n => UInt8.ofNat n.toNat) = s.data.toList := by
    unfold numsOf
    rw [List.map_map]
    conv => rhs; rw [← List.map_id s.data.toList]
    exact List.map_congr_left fun b _ => by simp
  show (⟨((numsOf s).map fun n => UInt8.ofNat n.toNat).toArray⟩ : ByteArray) = s
  rw [e]
theorem nums_octs (s : ByteArray) : Octs (numsOf s) := fun u hu => by
  obtain ⟨b, _, rfl⟩ := List.mem_map.1 hu
  have := b.toNat_lt
  omega
theorem drop_cut {α : Type} (cs : List α) (o n : Nat) : cs.drop o = (cs.drop o).take n ++ cs.drop (o + n) := by
  rw [← List.drop_drop, List.take_append_drop]

section
variable {H : Type} {enc : TypeId × Value → H} {w : World} {base : Nat} {spare : Nat → Bool} {held : Bool} {fuel : Nat} {cs : List Value} {x : DataW H × List MemPlace}
theorem weights_each (e : TypeId) (l : List (DataW H)) (B : Nat) (h : (DataW.weightsAll Tryd.prog e l).all (· ≤ B) = true) : ∀ d, d ∈ l → (DataW.weights Tryd.prog e d).all (· ≤ B) = true := by
  induction l with
  | nil => intro d hd; simp at hd
  | cons a l ih =>
    intro d hd
    simp only [DataW.weightsAll, List.all_append, Bool.and_eq_true] at h
    rcases List.mem_cons.1 hd with rfl | hd
    · exact h.1
    · exact ih h.2 d hd

theorem bulk_mem (l : List (DataW H)) (d : DataW H) (h : d ∈ l) : Rows.uptoBulk d ≤ Rows.uptoBulkAll l := by
  induction l with
  | nil => cases h
  | cons a l ih =>
    simp only [Rows.uptoBulkAll]
    rcases List.mem_cons.1 h with rfl | h
    · omega
    · have := ih h
      omega

set_option maxRecDepth 100000 in
/-- A list of structs of k cells, opened: each element is a thing of its own that lies in the list's row. -/
theorem open_rowlU {t e : TypeId} {k : Nat} {α : Type} [Inhabited α] (row : α → List Value) (G : α → Prop) (K : α → Nat) (B : Nat) (ht : Tryd.prog.underlying t = some (.slice e)) (hk : Tryd.prog.cellsOf e = k) (hk0 : 0 < k)
    (h : DataW.trod enc Tryd.prog w base spare held fuel t cs = some x)
    (hel : ∀ fuel cs x, DataW.trod enc Tryd.prog w base spare held fuel e cs = some x → ∃ a : α, cs = row a ∧ ((DataW.weights Tryd.prog e x.1).all (· ≤ B) = true → G a) ∧ K a ≤ Rows.uptoBulk x.1) :
    ∃ ao cap ls, cs = [.slice ao ls.length cap] ∧ ls.length ≤ cap ∧ (ao = none → cap = 0) ∧ (ls ≠ [] → ∃ b off, ao = some ⟨b, off, none⟩ ∧ ∀ (i : Nat) (a : α), ls[i]? = some a → w.rangeAt b (off + i * k) (row a)) ∧
      ((DataW.weights Tryd.prog t x.1).all (· ≤ B) = true → ls.length * Tryd.prog.bytesOf e ≤ B ∧ ∀ a, a ∈ ls → G a) ∧ ∀ a, a ∈ ls → K a ≤ Rows.uptoBulk x.1 := by
  rcases open_slice ht h with ⟨rfl, rfl⟩ | ⟨a, len, cap, m, n, D, Pl, rfl, _, hl, hm, hmm, rfl, hee⟩
  · exact ⟨none, 0, [], rfl, Nat.le_refl _, fun _ => rfl, fun e => absurd rfl e, fun _ => ⟨by simp, fun a ha => by cases ha⟩, fun a ha => by cases ha⟩
  · have hlm : len ≤ m := by rw [hmm]; split <;> omega
    have hop : ∀ i, i < len → ∃ o : α, w.cells? base (a.add (i * k)) k = some (row o) ∧ ((DataW.weights Tryd.prog e (D i)).all (· ≤ B) = true → G o) ∧ K o ≤ Rows.uptoBulk (D i) := by
      intro i hi
      obtain ⟨cs', hc, hte⟩ := hee i (by omega)
      rw [hk] at hc
      obtain ⟨o, rfl, hg⟩ := hel _ _ _ hte
      exact ⟨o, hc, hg⟩
    obtain ⟨O, hO⟩ := choose_lt hop
    have hlen : ((List.range len).map O).length = len := by simp
    refine ⟨some a, cap, (List.range len).map O, by rw [hlen], by rw [hlen]; exact hl, fun e => by simp at e, fun hne => ?_, fun hB => ?_, fun o ho => ?_⟩
    · have hpos : 0 < len := by
        rcases Nat.eq_zero_or_pos len with h0 | h0
        · subst h0; simp at hne
        · exact h0
      obtain ⟨b, off, spot⟩ := a
      have hl0 := (World.cells?_some (hO 0 hpos).1)
      have hspot : spot = none := by
        have h1 := hl0.2.2 0 hk0
        have hg0 : (row (O 0)).length = k := hl0.2.1
        obtain ⟨c0, hc0⟩ : ∃ c, (row (O 0))[0]? = some c := ⟨(row (O 0))[0], List.getElem?_eq_getElem (by omega)⟩
        rw [hc0] at h1
        simpa [Addr.add] using World.cell?_spot h1
      subst hspot
      refine ⟨b, off, rfl, fun i o ho => ?_⟩
      have hi : i < len := by have := (List.getElem?_eq_some_iff.1 ho).1; omega
      have eo : O i = o := by simpa [hi] using ho
      have hc := World.cells?_some (hO i hi).1
      rw [eo] at hc
      intro j c hj
      have hjk : j < k := by have := (List.getElem?_eq_some_iff.1 hj).1; have := hc.2.1; omega
      have h1 := hc.2.2 j hjk
      rw [hj] at h1
      simpa [Addr.add_mid] using h1
    · simp only [DataW.weights, ht, List.all_cons, List.all_append, Bool.and_eq_true, decide_eq_true_eq, List.length_map, List.length_range] at hB
      obtain ⟨hB1, hB2, _⟩ := hB
      refine ⟨?_, ?_⟩
      · rw [hlen]
        have : len * Tryd.prog.bytesOf e ≤ (len + (m - len)) * Tryd.prog.bytesOf e := Nat.mul_le_mul_right _ (by omega)
        omega
      · intro o ho
        simp only [List.mem_map, List.mem_range] at ho
        obtain ⟨i, hi, rfl⟩ := ho
        exact (hO i hi).2.1 (weights_each _ _ _ hB2 _ (List.mem_map.2 ⟨i, List.mem_range.2 (by omega), rfl⟩))
    · simp only [List.mem_map, List.mem_range] at ho
      obtain ⟨i, hi, rfl⟩ := ho
      have h1 := (hO i hi).2.2
      have h2 := bulk_mem _ (D i) (List.mem_map.2 ⟨i, List.mem_range.2 hi, rfl⟩ : D i ∈ (List.range len).map D)
      simp only [Rows.uptoBulk]
      omega
theorem open_rowl {t e : TypeId} {k : Nat} {α : Type} [Inhabited α] (row : α → List Value) (G : α → Prop) (B : Nat) (ht : Tryd.prog.underlying t = some (.slice e)) (hk : Tryd.prog.cellsOf e = k) (hk0 : 0 < k)
    (h : DataW.trod enc Tryd.prog w base spare held fuel t cs = some x)
    (hel : ∀ fuel cs x, DataW.trod enc Tryd.prog w base spare held fuel e cs = some x → ∃ a : α, cs = row a ∧ ((DataW.weights Tryd.prog e x.1).all (· ≤ B) = true → G a)) :
    ∃ ao cap ls, cs = [.slice ao ls.length cap] ∧ ls.length ≤ cap ∧ (ao = none → cap = 0) ∧ (ls ≠ [] → ∃ b off, ao = some ⟨b, off, none⟩ ∧ ∀ (i : Nat) (a : α), ls[i]? = some a → w.rangeAt b (off + i * k) (row a)) ∧
      ((DataW.weights Tryd.prog t x.1).all (· ≤ B) = true → ls.length * Tryd.prog.bytesOf e ≤ B ∧ ∀ a, a ∈ ls → G a) := by
  obtain ⟨ao, cap, ls, h1, h2, h3, h4, h5, _⟩ := open_rowlU row G (fun _ => 0) B ht hk hk0 h (fun f c x hx => by
    obtain ⟨a, h1, h2⟩ := hel f c x hx
    exact ⟨a, h1, h2, Nat.zero_le _⟩)
  exact ⟨ao, cap, ls, h1, h2, h3, h4, h5⟩
end
end Go.Proofs.YtnfbiemmdaenpaaDoor

namespace Go.Proofs.YtnfbiemmdaenpaaDoor
open Go.RowKit

set_option maxHeartbeats 400000 in
theorem Copy_any (v : Value) (ys : List Int) (w : World) (h : BytesAt w v ys) (hm : ys.length ≤ 140737488355328) :
    Calls Tryd.prog 23 #[v] w fun e w' => e = .returned (.slice (some ⟨w.heap.size, 0, none⟩) ys.length ys.length) ∧
      w'.heap[w.heap.size]? = some (.cells (ys.map (Value.int .u8)).toArray 5 (0, 0)) ∧ Kept [] w w' := by
  obtain ⟨ao, cap, rfl, hc, hnil, hcell⟩ := h
  have hmk := run_make_row' (P := Tryd.prog) 22 5 (.int .u8 0) 1 Tryd.underlying22 Tryd.info_u8 rfl .i64 .i64 ys.length (by omega) (by omega)
  obtain ⟨cs, hcs⟩ : ∃ cs, cs = ys.map (Value.int .u8) := ⟨_, rfl⟩
  have HC : Hid (cs = ys.map (Value.int .u8)) := hcs
  clear hcs
  go_enter Tryd.func23, Tryd.ntmps23
  go_wp2_with (refine wpList_copy_splice rfl (.tmp 7) (.tmp 8) 22 22 rfl 5 Tryd.underlying22 Tryd.size_u8 _ _ _ _ _ _ rfl rfl w.heap.size 0 (List.replicate ys.length (.int .u8 0)) 5 ?cg cs ?cn ?cp ?cf ?co w.heap.size w ?cb (Nat.le_refl _) ?_)
  case cg => rw [← toList_madeCells_one]; exact heap_alloc_new w _
  case cn => rw [HC.out]; simp
  case cp =>
    intro h0
    rw [HC.out] at h0
    obtain ⟨b, off, rfl, hh⟩ := hcell (by rintro rfl; simp at h0)
    refine ⟨_, rfl, fun j u hu => ?_⟩
    rw [HC.out] at hu
    simp only [List.getElem?_map, Option.map_eq_some_iff] at hu
    obtain ⟨z, hz, rfl⟩ := hu
    rw [Addr.add_mid, World.cell?_alloc_lt]
    · exact hh j z hz
    · exact World.block_lt_of_cell? w _ (hh j z hz)
  case cf => rw [HC.out]; simp
  case co => rw [HC.out]; exact map_oneCell ys
  case cb => exact (Below.refl _ _).alloc (Nat.le_refl _) _
  intro w2 hg hb
  go_wp2
  go_ret
  refine ⟨rfl, ?_, kept_of_below hb⟩
  rw [hg.out, splice_all _ _ _ (by rw [HC.out]; simp), HC.out]
end Go.Proofs.YtnfbiemmdaenpaaDoor
