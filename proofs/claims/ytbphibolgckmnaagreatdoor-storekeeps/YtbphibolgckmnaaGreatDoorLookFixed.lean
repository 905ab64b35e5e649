/-
  The comparison of two ids, as the model does it.
  A drawn region walked once, in the order of the text, over a class of worlds of one's own: its laws for a value, a load of a row, a call.
  Two ids compared inside a drawn region that is walked once: the laws of that step.
  Lists of bytes that are one's own.
  Bytes turned into a string; strings of bytes that are the same.
  WALK: code.copied, for every slice of bytes: a new row that holds the same bytes.
  WALK: code.lookFixed, for every slice of bytes and size 1 to 8.
-/
import Derived.Test.YtbphibolgckmnaaGreatDoorSha2
import Derived.DeepKeys
import Derived.Test.YtbphibolgckmnaaGreatDoorPlain
import Derived.Deep.Quiet
import Derived.Deep.MidRow
import Derived.Laws.OwnMore
import Derived.Deep.Onto
import Derived.Laws.BytesArg
import Derived.Outline
namespace Go.Proofs.YtbphibolgckmnaaGreatDoor
open Go.RowKit

theorem items_id (xs ys : List Int) (W : World) (d : Nat) : ∀ is : List Nat, (∀ i ∈ is, i < xs.length ∧ i < ys.length) →
    (Op.eqItems (d + 1) 5 1 (idC xs) (idC ys) is).run Tryz.prog W = .ok (is.all fun i => xs[i]?.getD 0 == ys[i]?.getD 0) W
  | [], _ => by simp [Op.eqItems]
  | i :: is, h => by
    have hx := idC_get (h i (by simp)).1
    have hy := idC_get (h i (by simp)).2
    have he : Tryz.prog.plainKey 5 = true := by kernel_rfl
    simp only [Op.eqItems, Sem.run_bind, Nat.mul_one, run_part_plain W he hx, run_part_plain W he hy, Result.andThen_ok, run_equalIn_int W d 5 .u8 .u8 _ _ Tryz.underlying5, List.all_cons]
    cases (xs[i]?.getD 0 == ys[i]?.getD 0)
    · simp
    · simpa using items_id xs ys W d is fun j hj => h j (by simp [hj])

theorem Tryz.cellsU8 : Tryz.prog.cellsOf 5 = 1 := by kernel_rfl
theorem Tryz.hasU8 : (Tryz.prog.info? 5).isSome = true := by kernel_rfl

theorem idEq (xs ys : List Int) (W : World) (hx : xs.length = 32) (hy : ys.length = 32) :
    (Op.equalIn 10000 29 (.agg (idC xs)) (.agg (idC ys))).run Tryz.prog W = .ok (decide (xs = ys)) W := by
  obtain ⟨i, hi⟩ := Option.isSome_iff_exists.1 Tryz.hasU8
  rw [show 10000 = 9999 + 1 from rfl, run_equalIn_array W 9999 _ _ Tryz.underlying29 hi, Tryz.cellsU8, show 9999 = 9998 + 1 from rfl, items_id xs ys W 9998 (List.range 32) (fun j hj => by rw [hx, hy]; simpa using hj)]
  have e : ((List.range 32).all fun i => xs[i]?.getD 0 == ys[i]?.getD 0) = decide (xs = ys) := by
    rw [Bool.eq_iff_iff, decide_eq_true_iff, List.all_eq_true]
    constructor
    · intro h
      refine List.ext_getElem (by omega) fun j h1 h2 => ?_
      have := h j (by simp; omega)
      simpa [List.getElem?_eq_getElem h1, List.getElem?_eq_getElem h2] using this
    · rintro rfl j _
      simp
  rw [e]
end Go.Proofs.YtbphibolgckmnaaGreatDoor

namespace Go.Proofs.YtbphibolgckmnaaGreatDoor
open Go.RowKit

section
variable {P : Program} {ops : Array Oper} {C : World → Prop} {Q : Act → Prop} {rest : List Oper} {o : Oper} {a : Act}

theorem quiet_val (hw : Region.wanted o (yielded ops a.tmps) = true) (v : Value) (hv : ∀ W, (execOp a.eval o).run P W = .ok (.value v) W) (h : wpQuiet P ops C Q rest (a.put o.dst v)) : wpQuiet P ops C Q (o :: rest) a := by
  unfold wpQuiet
  rw [if_pos hw]
  exact ⟨v, fun W _ => by unfold Oper.quietAt; rw [hv W]; exact ⟨rfl, rfl⟩, h⟩

theorem quiet_row (hw : Region.wanted o (yielded ops a.tmps) = true) (ty : TypeId) (x : Operand) (ho : o.op = .load ty x) (b i : Nat) (hx : a.eval x = .pointer (some ⟨b, i, none⟩)) (cs : List Value) (d : TypeDesc) (hC : ∀ W, C W → W.rangeAt b i cs)
    (hu : P.underlying ty = some d) (hd : d.isRow = true) (hi : (P.info? ty).map (·.size) = some cs.length) (h : wpQuiet P ops C Q rest (a.put o.dst (.agg cs.toArray))) : wpQuiet P ops C Q (o :: rest) a := by
  unfold wpQuiet
  rw [if_pos hw]
  refine ⟨.agg cs.toArray, fun W hW => ?_, h⟩
  unfold Oper.quietAt execOp
  simp only [ho, hx, Instr.loadAt, Instr.sureAddr, Sem.run_bind, Sem.run_pure, Result.andThen_ok, run_loadVar_mid W b i ty cs d (hC W hW) hu hd hi]
  exact ⟨rfl, rfl⟩

theorem quiet_call (hw : Region.wanted o (yielded ops a.tmps) = true) (f : FuncId) (args : Array Value) (v : Value) (he : ∀ W, (execOp a.eval o).run P W = .ok (.enter f args) W) (hc : ∀ W, C W → Calls P f args W fun e w' => e = .returned v ∧ C w')
    (h : wpQuiet P ops C Q rest (a.put o.dst v)) : wpQuiet P ops C Q (o :: rest) a := by
  unfold wpQuiet
  rw [if_pos hw]
  exact ⟨v, fun W hW => by unfold Oper.quietAt; rw [he W]; exact ⟨rfl, hc W hW⟩, h⟩

theorem quiet_move (hw : Region.wanted o (yielded ops a.tmps) = true) (x : Operand) (ho : o.op = .move x) (v : Value) (hx : a.eval x = v) (h : wpQuiet P ops C Q rest (a.put o.dst v)) : wpQuiet P ops C Q (o :: rest) a :=
  quiet_val hw v (fun W => by unfold execOp; rw [ho, ← hx]; rfl) h
theorem quiet_assign (hw : Region.wanted o (yielded ops a.tmps) = true) (x : Operand) (ho : o.op = .assign x) (v : Value) (hx : a.eval x = v) (h : wpQuiet P ops C Q rest (a.put o.dst v)) : wpQuiet P ops C Q (o :: rest) a :=
  quiet_val hw v (fun W => by unfold execOp; rw [ho, ← hx]; rfl) h

/-- The same at one operation that is carried out: the list that follows lies under the letter K (a goal that begins with a guarded operation is unfolded, and takes minutes, wherever a term is given for it: go on by 'with_reducible refine wpQuiet_step ?_'). -/
theorem val_at {K : Act → Prop} (v : Value) (hv : ∀ W, (execOp a.eval o).run P W = .ok (.value v) W) (hK : K (a.put o.dst v)) : o.quiet P a C K :=
  ⟨v, fun W _ => by unfold Oper.quietAt; rw [hv W]; exact ⟨rfl, rfl⟩, hK⟩
theorem move_at {K : Act → Prop} (x : Operand) (ho : o.op = .move x) (v : Value) (hx : a.eval x = v) (hK : K (a.put o.dst v)) : o.quiet P a C K :=
  val_at v (fun W => by unfold execOp; rw [ho, ← hx]; rfl) hK
theorem row_at {K : Act → Prop} (ty : TypeId) (x : Operand) (ho : o.op = .load ty x) (b i : Nat) (hx : a.eval x = .pointer (some ⟨b, i, none⟩)) (cs : List Value) (d : TypeDesc) (hC : ∀ W, C W → W.rangeAt b i cs)
    (hu : P.underlying ty = some d) (hd : d.isRow = true) (hi : (P.info? ty).map (·.size) = some cs.length) (hK : K (a.put o.dst (.agg cs.toArray))) : o.quiet P a C K := by
  refine ⟨.agg cs.toArray, fun W hW => ?_, hK⟩
  unfold Oper.quietAt execOp
  simp only [ho, hx, Instr.loadAt, Instr.sureAddr, Sem.run_bind, Sem.run_pure, Result.andThen_ok, run_loadVar_mid W b i ty cs d (hC W hW) hu hd hi]
  exact ⟨rfl, rfl⟩
theorem call_at {K : Act → Prop} (f : FuncId) (args : Array Value) (v : Value) (he : ∀ W, (execOp a.eval o).run P W = .ok (.enter f args) W) (hc : ∀ W, C W → Calls P f args W fun e w' => e = .returned v ∧ C w') (hK : K (a.put o.dst v)) : o.quiet P a C K :=
  ⟨v, fun W hW => by unfold Oper.quietAt; rw [he W]; exact ⟨rfl, hc W hW⟩, hK⟩

theorem region_quiet {id : Nat} {Q : Exit → Act → World → Prop} {a : Act} {w : World} {l : List Oper} (C : World → Prop) (hm : P.follows .mixedOrders = true) (hB : Region.lexB .any l.toArray = true) (hC : C w.drew)
    (h : wpQuiet P l.toArray C (fun a' => ∀ w', C w' → Q .normal a' w') l a) : (Code.region id l.toArray true).wp P Q a w :=
  wp_region_quiet (C := C) hm hB hC (by simpa using h)
end
end Go.Proofs.YtbphibolgckmnaaGreatDoor

namespace Go.Proofs.YtbphibolgckmnaaGreatDoor
open Go.RowKit

theorem run_id_eql (x y : Operand) (A B : Array Value) (W : World) (r : Bool) (hr : (Op.equalIn 10000 29 (.agg A) (.agg B)).run Tryz.prog W = .ok r W) :
    Sem.run Tryz.prog (do eqGuard BinOp.eql 29 x y (Value.agg A) (Value.agg B); binOp BinOp.eql 29 (Value.agg A) (Value.agg B)) W = .ok (.bool r) W := by
  simp [eqGuard, binOp]
  have e : Op.equal 29 (.agg A) (.agg B) = Op.equalIn 10000 29 (.agg A) (.agg B) := rfl
  rw [e, hr]
  rfl
theorem run_id_neq (x y : Operand) (A B : Array Value) (W : World) (r : Bool) (hr : (Op.equalIn 10000 29 (.agg A) (.agg B)).run Tryz.prog W = .ok r W) :
    Sem.run Tryz.prog (do eqGuard BinOp.neq 29 x y (Value.agg A) (Value.agg B); binOp BinOp.neq 29 (Value.agg A) (Value.agg B)) W = .ok (.bool !r) W := by
  simp [eqGuard, binOp]
  have e : Op.equal 29 (.agg A) (.agg B) = Op.equalIn 10000 29 (.agg A) (.agg B) := rfl
  rw [e, hr]
  rfl

section
variable {ops : Array Oper} {C : World → Prop} {Q : Act → Prop} {rest : List Oper} {o : Oper} {a : Act}
theorem quiet_eql (hw : Region.wanted o (yielded ops a.tmps) = true) (x y : Operand) (rt : TypeId) (ho : o.op = .binOp .eql 29 x y rt) (A B : Array Value) (hx : a.eval x = .agg A) (hy : a.eval y = .agg B) (r : Bool)
    (hr : ∀ W, (Op.equalIn 10000 29 (.agg A) (.agg B)).run Tryz.prog W = .ok r W) (h : wpQuiet Tryz.prog ops C Q rest (a.put o.dst (.bool r))) : wpQuiet Tryz.prog ops C Q (o :: rest) a := by
  refine quiet_val hw (.bool r) (fun W => ?_) h
  unfold execOp
  simp only [ho, hx, hy]
  rw [Sem.run_bind, run_id_eql x y A B W r (hr W)]
  rfl
theorem valC_at {K : Act → Prop} (v : Value) (hv : ∀ W, C W → (execOp a.eval o).run Tryz.prog W = .ok (.value v) W) (hK : K (a.put o.dst v)) : o.quiet Tryz.prog a C K :=
  ⟨v, fun W hW => by unfold Oper.quietAt; rw [hv W hW]; exact ⟨rfl, rfl⟩, hK⟩
theorem neq_at {K : Act → Prop} (x y : Operand) (rt : TypeId) (ho : o.op = .binOp .neq 29 x y rt) (A B : Array Value) (hx : a.eval x = .agg A) (hy : a.eval y = .agg B) (r : Bool)
    (hr : ∀ W, (Op.equalIn 10000 29 (.agg A) (.agg B)).run Tryz.prog W = .ok r W) (hK : K (a.put o.dst (.bool !r))) : o.quiet Tryz.prog a C K := by
  refine val_at (.bool !r) (fun W => ?_) hK
  unfold execOp
  simp only [ho, hx, hy]
  rw [Sem.run_bind, run_id_neq x y A B W r (hr W)]
  rfl
theorem valC (hw : Region.wanted o (yielded ops a.tmps) = true) (v : Value) (hv : ∀ W, C W → (execOp a.eval o).run Tryz.prog W = .ok (.value v) W) (h : wpQuiet Tryz.prog ops C Q rest (a.put o.dst v)) : wpQuiet Tryz.prog ops C Q (o :: rest) a := by
  unfold wpQuiet
  rw [if_pos hw]
  exact valC_at v hv h
end
end Go.Proofs.YtbphibolgckmnaaGreatDoor

namespace Go.Proofs.YtbphibolgckmnaaGreatDoor
open Go.RowKit

/-- v is a list of the bytes ys in memory of its own, none of it below B. -/
def OwnB (w : World) (B : Nat) (v : Value) (ys : List Int) : Prop := w.ownsRow B 5 1 v ys.length (ys.map (Value.int .u8))

theorem OwnB.bytes {w : World} {B : Nat} {v : Value} {ys : List Int} (h : OwnB w B v ys) : BytesAt w v ys := by
  rcases h.2 with ⟨hv, hn⟩ | ⟨g, cap', cur, hv, hg, hh, hnc, hcm, hcs, htk⟩
  · obtain rfl : ys = [] := List.eq_nil_of_length_eq_zero hn
    rw [hv]; exact BytesAt.nil w
  · rw [hv]
    refine ⟨_, cap', rfl, hnc, fun e => (by simp at e), fun _ => ⟨g, 0, rfl, fun i u hu => ?_⟩⟩
    have hi : i < ys.length := (List.getElem?_eq_some_iff.1 hu).1
    rw [cell_of_row w g (0 + i) _ _ _ hh, Nat.zero_add, ← Array.getElem?_toList]
    have h2 : (cur.toList.take (ys.length * 1))[i]? = cur.toList[i]? := List.getElem?_take_of_lt (by omega)
    rw [← h2, htk]
    simp [hu]
theorem OwnB.kept {w w' : World} {B : Nat} {v : Value} {ys : List Int} {T : List Nat} (h : OwnB w B v ys) (k : Kept T w w') (hd : ∀ x, v.ownBlock = some x → x ∉ T) : OwnB w' B v ys := by
  refine ⟨h.1, ?_⟩
  rcases h.2 with hn | ⟨g, cap', cur, hv, hg, hh, rest⟩
  · exact Or.inl hn
  · refine Or.inr ⟨g, cap', cur, hv, hg, k.heap hh (hd g ?_), rest⟩
    rw [hv]; rfl
theorem OwnB.mono {w : World} {B B' : Nat} {v : Value} {ys : List Int} (h : OwnB w B v ys) (hb : B' ≤ B) : OwnB w B' v ys := World.ownsRow.mono h hb
theorem OwnB.form {w : World} {B : Nat} {v : Value} {ys : List Int} (h : OwnB w B v ys) (hn : ys ≠ []) : ∃ g cap, v = .slice (some ⟨g, 0, none⟩) ys.length cap ∧ B ≤ g ∧ g < w.heap.size := by
  rcases h.2 with ⟨_, h0⟩ | ⟨g, cap', cur, hv, hg, hh, rest⟩
  · exact absurd (List.eq_nil_of_length_eq_zero h0) hn
  · exact ⟨g, cap', hv, (hg), lt_of_block hh⟩
theorem OwnB.one {w : World} (x : Int) : OwnB (w.alloc (.cells #[.int .u8 x] 5)) w.heap.size (.slice (some ⟨w.heap.size, 0, none⟩) 1 1) [x] :=
  World.ownsRow_lit (base := w.heap.size) (e := 5) (size := 1) w #[.int .u8 x] 1 (Nat.le_refl _) (by unfold maxLen; omega) (by simp)

end Go.Proofs.YtbphibolgckmnaaGreatDoor

namespace Go.Proofs.YtbphibolgckmnaaGreatDoor
open Go.RowKit

theorem BytesAt.conv {w : World} {v : Value} {ys : List Int} (h : BytesAt w v ys) : (convert 33 9 v).run Tryz.prog w = .ok (.string (strOfNums ys)) w := by
  obtain ⟨ao, cap, rfl, hc, hnil, hcell⟩ := h
  by_cases hy : ys = []
  · subst hy
    cases ao with
    | none => exact run_convert_bytes_nil w _ 5 Tryz.underlying33 Tryz.underlying5 0 cap 9 Tryz.underlying9
    | some a =>
      have hl : (loadCells a 0).run Tryz.prog w = .ok (([] : List Int).map (Value.int .u8)).toArray w := run_loadCells_list (P := Tryz.prog) w a [] (fun j v hj => by simp at hj)
      rw [List.length_nil, run_convert_bytes_string w _ 9 5 _ 0 cap Tryz.underlying33 Tryz.underlying5 Tryz.underlying9, run_bytesToString w _ 0 cap [] hl]
      rfl
  · obtain ⟨b, off, rfl, hh⟩ := hcell hy
    refine run_convert_bytes_arg w _ 5 Tryz.underlying33 Tryz.underlying5 b off ys.length cap ys rfl (fun i hi => ?_) 9 Tryz.underlying9
    rw [hh i ys[i] (List.getElem?_eq_getElem hi)]
    simp [List.getD, List.getElem?_eq_getElem hi]

theorem strOfNums_inj {xs ys : List Int} (hx : Octs xs) (hy : Octs ys) : strOfNums xs = strOfNums ys ↔ xs = ys := by
  constructor
  · intro h
    have h1 : (strOfNums xs).data.toList = (strOfNums ys).data.toList := by rw [h]
    rw [strOfNums_data, strOfNums_data] at h1
    apply List.ext_getElem?
    intro i
    have h2 := congrArg (fun l => l[i]?) h1
    simp only [List.getElem?_map] at h2
    cases h3 : xs[i]? with
    | none =>
      rw [h3] at h2
      cases h4 : ys[i]? with
      | none => rfl
      | some b => rw [h4] at h2; simp at h2
    | some a =>
      rw [h3] at h2
      cases h4 : ys[i]? with
      | none => rw [h4] at h2; simp at h2
      | some b =>
        rw [h4] at h2
        simp only [Option.map_some, Option.some.injEq] at h2
        have ha := hx a (List.mem_of_getElem? h3)
        have hb := hy b (List.mem_of_getElem? h4)
        have h5 := congrArg UInt8.toNat h2
        simp only [UInt8.toNat_ofNat'] at h5
        congr 1
        omega
  · rintro rfl; rfl
end Go.Proofs.YtbphibolgckmnaaGreatDoor

namespace Go.Proofs.YtbphibolgckmnaaGreatDoor
open Go.RowKit

set_option maxHeartbeats 400000 in
theorem copied_any (v : Value) (ys : List Int) (w : World) (h : BytesAt w v ys) (hm : ys.length ≤ 140737488355328) :
    Calls Tryz.prog 71 #[v] w fun e w' => e = .returned (.slice (some ⟨w.heap.size, 0, none⟩) ys.length ys.length) ∧
      w'.heap[w.heap.size]? = some (.cells (ys.map (Value.int .u8)).toArray 5 (0, 0)) ∧ Kept [] w w' := by
  obtain ⟨ao, cap, rfl, hc, hnil, hcell⟩ := h
  have hmk := run_make_row' (P := Tryz.prog) 33 5 (.int .u8 0) 1 Tryz.underlying33 Tryz.info_u8 rfl .i64 .i64 ys.length (by omega) (by omega)
  obtain ⟨cs, hcs⟩ : ∃ cs, cs = ys.map (Value.int .u8) := ⟨_, rfl⟩
  have HC : Hid (cs = ys.map (Value.int .u8)) := hcs
  clear hcs
  go_enter Tryz.func71, Tryz.ntmps71
  go_wp2_with (refine wpList_copy_splice rfl (.tmp 7) (.tmp 8) 33 33 rfl 5 Tryz.underlying33 Tryz.size_u8 _ _ _ _ _ _ rfl rfl w.heap.size 0 (List.replicate ys.length (.int .u8 0)) 5 ?cg cs ?cn ?cp ?cf ?co w.heap.size w ?cb (Nat.le_refl _) ?_)
  case cg => rw [← toList_madeCells_one]; exact heap_alloc_new w _
  case cn => rw [HC.out]; simp
  case cp =>
    intro h0
    rw [HC.out] at h0
    obtain ⟨b, off, rfl, hh⟩ := hcell (by rintro rfl; simp at h0)
    refine ⟨_, rfl, fun j u hu => ?_⟩
    rw [HC.out] at hu
    simp only [List.getElem?_map, Option.map_eq_some_iff] at hu
    obtain ⟨z, hz, rfl⟩ := hu
    rw [Addr.add_mid, World.cell?_alloc_lt]
    · exact hh j z hz
    · exact World.block_lt_of_cell? w _ (hh j z hz)
  case cf => rw [HC.out]; simp
  case co => rw [HC.out]; exact map_oneCell ys
  case cb => exact (Below.refl _ _).alloc (Nat.le_refl _) _
  intro w2 hg hb
  go_wp2
  go_ret
  refine ⟨rfl, ?_, kept_of_below hb⟩
  rw [hg.out, splice_all _ _ _ (by rw [HC.out]; simp), HC.out]

end Go.Proofs.YtbphibolgckmnaaGreatDoor

namespace Go.Proofs.YtbphibolgckmnaaGreatDoor
open Go.RowKit

set_option maxHeartbeats 400000 in
theorem lookFixed_yes (b off cap : Nat) (ys : List Int) (size : Nat) (w : World) (hs0 : 1 ≤ size) (hs : size ≤ 8) (hlen : size ≤ ys.length) (hm : ys.length ≤ 140737488355328) (ho : Octs ys)
    (hcell : ∀ i, i < ys.length → w.cell? ⟨b, off + i, none⟩ = some (.int .u8 (ys[i]?.getD 0))) :
    Calls Tryz.prog 108 #[.slice (some ⟨b, off, none⟩) ys.length cap, .int .i64 size] w fun e w' =>
      e = .returned (.tuple #[.agg #[.int .u64 (be (ys.take size)), .int .i64 size, .int .i64 size], .int .i64 0]) ∧ Kept [] w w' := by
  go_enter Tryz.func108, Tryz.ntmps108
  go_wp2
  go_loop [6, 14] (fun n i => ∃ k : Nat, k ≤ size ∧ i = .int .i64 k ∧ n = .int .u64 (be (ys.take k))) (fun _ i => size - (intOf i).toNat)
  case atStart => exact ⟨0, Nat.zero_le _, rfl, rfl⟩
  case round =>
    obtain ⟨k, hk, rfl, rfl⟩ := hrel
    by_cases hlt : k < size
    · have hb := be_le8 (ys.take k) (octs_take ho k) (by simp; omega)
      have hx := octs_getD ho k
      have hc : (w.alloc (.cells #[.int .u64 0, .int .i64 0, .int .i64 0] 161)).cell? ⟨b, off + k, none⟩ = some (.int .u8 (ys[k]?.getD 0)) := by
        rw [World.cell?_alloc_lt]
        · exact hcell k (by omega)
        · exact World.block_lt_of_cell? w _ (hcell k (by omega))
      have hst := be_step (be (ys.take k)) (ys[k]?.getD 0) hb.1 hb.2 hx.1 hx.2
      have hsn := be_snoc (ys.take k) (ys[k]?.getD 0)
      have hts := take_snoc ys k (by omega)
      have HF : Hid (bits .or .u64 (be (ys.take k) * 256) (ys[k]?.getD 0) = be (ys.take (k + 1))) := by rw [hst, hts, ← hsn]; rfl
      clear hst hsn hts
      go_wp2
      go_round
      case rel => exact ⟨k + 1, by omega, by go_num, by rw [HF.out]⟩
      case measure => simp [intOf]; omega
    · obtain rfl : k = size := by omega
      go_wp2
      exact bodyPost_ret (v := .tuple #[.agg #[.int .u64 (be (ys.take k)), .int .i64 k, .int .i64 k], .int .i64 0]) (by simp [results, Tryz.results108, go_sem]) rfl ⟨rfl, (Kept.refl _ _).alloc _⟩

/-- The same where the bytes are too few. -/
theorem lookFixed_no (ao : Option Addr) (n cap : Nat) (size : Nat) (w : World) (hlen : n < size) :
    Calls Tryz.prog 108 #[.slice ao n cap, .int .i64 size] w fun e w' =>
      e = .returned (.tuple #[.agg #[.int .u64 0, .int .i64 0, .int .i64 0], .int .i64 1]) ∧ Kept [] w w' := by
  go_enter Tryz.func108, Tryz.ntmps108
  go_wp2
  exact bodyPost_ret (v := .tuple #[.agg #[.int .u64 0, .int .i64 0, .int .i64 0], .int .i64 1]) (by simp [results, Tryz.results108, go_sem]) rfl ⟨rfl, (Kept.refl _ _).alloc _⟩

end Go.Proofs.YtbphibolgckmnaaGreatDoor
