/-
  A struct held against itself: entries, tags.
  Two structs held against one another: entries, tags.
  Two entries compared within a region that is walked once.
  OBJECTS OPENED: what a reading of one says of memory.
-/
import Derived.Test.YtnfbiemmdaenpaaDoorOpenB
import Derived.Test.YtnfbiemmdaenpaaDoorTag2
import Derived.Laws.StructEq
import Derived.Test.YtnfbiemmdaenpaaDoorRows0
import Derived.Test.YtnfbiemmdaenpaaDoorEnt1
import Derived.Test.YtnfbiemmdaenpaaDoorRCopy
import Derived.Test.YtnfbiemmdaenpaaDoorRead0
namespace Go.Proofs.YtnfbiemmdaenpaaDoor
open Go.RowKit

theorem part_id (xs : List Value) (ys : List Int) (off : Nat) (hx : (xs.drop off).take 32 = ys.map (Value.int .u8)) (W : World) : (part 25 xs.toArray off).run Tryd.prog W = .ok (.agg (idC ys)) W := by
  have hu := run_underlying (P := Tryd.prog) (w := W) Tryd.underlying25
  obtain ⟨i, hi, hs⟩ := Option.map_eq_some_iff.1 Tryd.infoID
  simp [part, isAgg, hu, sizeOf, typeInfo, hi, hs, hx, idC]
theorem idSelf (d : Nat) (xs : List Int) (W : World) (hx : xs.length = 32) : (Op.equalIn (d + 1 + 1) 25 (.agg (idC xs)) (.agg (idC xs))).run Tryd.prog W = .ok true W := by
  obtain ⟨i, hi⟩ := Option.isSome_iff_exists.1 Tryd.hasU8
  rw [run_equalIn_array W (d + 1) _ _ Tryd.underlying25 hi, Tryd.cellsU8, items_id xs xs W d (List.range 32) (fun j hj => by rw [hx]; have := List.mem_range.1 hj; omega)]
  simp
theorem eqF_step {P : Program} {d : Nat} {xs : Array Value} {f : Field} {fs : List Field} {W : World} {a : Value} (hn : f.name ≠ "_") (ha : (part f.type xs f.offset).run P W = .ok a W) (he : (Op.equalIn d f.type a a).run P W = .ok true W) :
    (Op.eqFields d xs xs (f :: fs)).run P W = (Op.eqFields d xs xs fs).run P W := by
  simp [Op.eqFields, hn, ha, he]
theorem plainInt : Tryd.prog.plainKey 3 = true := by kernel_rfl
theorem plainStr : Tryd.prog.plainKey 9 = true := by kernel_rfl
theorem plainU64 : Tryd.prog.plainKey 27 = true := by kernel_rfl
theorem selfInt (d : Nat) (n : Int) (W : World) : (Op.equalIn (d + 1) 3 (.int .i64 n) (.int .i64 n)).run Tryd.prog W = .ok true W := by rw [run_equalIn_int W d 3 .i64 .i64 n n Tryd.underlying3]; simp
theorem selfU64 (d : Nat) (n : Int) (W : World) : (Op.equalIn (d + 1) 27 (.int .u64 n) (.int .u64 n)).run Tryd.prog W = .ok true W := by rw [run_equalIn_int W d 27 .u64 .u64 n n Tryd.underlying27]; simp
theorem selfStr (d : Nat) (s : ByteArray) (W : World) : (Op.equalIn (d + 1) 9 (.string s) (.string s)).run Tryd.prog W = .ok true W := by rw [run_equalIn_string W d 9 s s Tryd.underlying9]; simp

set_option maxRecDepth 100000 in
theorem entEq (e : EntL) (h : e.id.length = 32) (W : World) : (Op.equalIn 10000 74 (.agg e.row.toArray) (.agg e.row.toArray)).run Tryd.prog W = .ok true W := by
  have hf : Tryd.prog.underlying 74 = some (.struct (Tryd.prog.fieldsOf 74)) := by kernel_rfl
  have hp : Tryd.prog.stoodInHeld 74 = false := by kernel_rfl
  have hfs := TypeDesc.struct.inj (Option.some.inj (hf.symm.trans Tryd.underlying74))
  rw [show (10000 : Nat) = 9997 + 1 + 1 + 1 from rfl, run_equalIn_struct W (9997 + 1 + 1) 74 _ _ hf hp, hfs]
  refine (eqF_step (by decide) (run_part_plain W plainInt (v := .int .i64 e.mode) rfl) (selfInt _ _ W)).trans ?_
  refine (eqF_step (by decide) (run_part_plain W plainStr (v := .string (strOfNums e.name)) rfl) (selfStr _ _ W)).trans ?_
  refine (eqF_step (by decide) (part_id e.row e.id 2 (by
    unfold EntL.row
    show ((e.id.map (Value.int .u8)).take 32) = _
    rw [List.take_of_length_le (by rw [List.length_map]; omega)]) W) (idSelf 9997 e.id W h)).trans ?_
  rfl
theorem tag_get (t : TagL) (h : t.target.length = 32) (i : Nat) (v : Value) (hv : [Value.int .i64 t.kind, .string (strOfNums t.name), .string (strOfNums t.who), .int .u64 t.time, .string (strOfNums t.text)][i]? = some v) : t.row.toArray[32 + i]? = some v := by
  rw [List.getElem?_toArray]
  unfold TagL.row
  rw [List.getElem?_append_right (by rw [List.length_map, h]; omega), List.length_map, h, Nat.add_sub_cancel_left]
  exact hv
set_option maxRecDepth 100000 in
theorem tagEq (t : TagL) (h : t.target.length = 32) (W : World) : (Op.equalIn 10000 31 (.agg t.row.toArray) (.agg t.row.toArray)).run Tryd.prog W = .ok true W := by
  have hf : Tryd.prog.underlying 31 = some (.struct (Tryd.prog.fieldsOf 31)) := by kernel_rfl
  have hp : Tryd.prog.stoodInHeld 31 = false := by kernel_rfl
  have hfs := TypeDesc.struct.inj (Option.some.inj (hf.symm.trans Tryd.underlying31))
  rw [show (10000 : Nat) = 9997 + 1 + 1 + 1 from rfl, run_equalIn_struct W (9997 + 1 + 1) 31 _ _ hf hp, hfs]
  refine (eqF_step (by decide) (part_id t.row t.target 0 (by
    unfold TagL.row
    rw [List.drop_zero, List.take_left' (by rw [List.length_map, h])]) W) (idSelf 9997 t.target W h)).trans ?_
  refine (eqF_step (by decide) (run_part_plain W plainInt (tag_get t h 0 _ rfl)) (selfInt _ _ W)).trans ?_
  refine (eqF_step (by decide) (run_part_plain W plainStr (tag_get t h 1 _ rfl)) (selfStr _ _ W)).trans ?_
  refine (eqF_step (by decide) (run_part_plain W plainStr (tag_get t h 2 _ rfl)) (selfStr _ _ W)).trans ?_
  refine (eqF_step (by decide) (run_part_plain W plainU64 (tag_get t h 3 _ rfl)) (selfU64 _ _ W)).trans ?_
  refine (eqF_step (by decide) (run_part_plain W plainStr (tag_get t h 4 _ rfl)) (selfStr _ _ W)).trans ?_
  rfl
end Go.Proofs.YtnfbiemmdaenpaaDoor

namespace Go.Proofs.YtnfbiemmdaenpaaDoor
open Go.RowKit

theorem eqF_two {P : Program} {d : Nat} {xs ys : Array Value} {f : Field} {fs : List Field} {W : World} {a b : Value} {r q : Bool} (hn : f.name ≠ "_") (ha : (part f.type xs f.offset).run P W = .ok a W) (hb : (part f.type ys f.offset).run P W = .ok b W) (he : (Op.equalIn d f.type a b).run P W = .ok r W)
    (h : (Op.eqFields d xs ys fs).run P W = .ok q W) : (Op.eqFields d xs ys (f :: fs)).run P W = .ok (r && q) W := by
  cases r
  · simp [Op.eqFields, hn, ha, hb, he]
  · simp [Op.eqFields, hn, ha, hb, he, h]
theorem idTwo (d : Nat) (xs ys : List Int) (W : World) (hx : xs.length = 32) (hy : ys.length = 32) : (Op.equalIn (d + 1 + 1) 25 (.agg (idC xs)) (.agg (idC ys))).run Tryd.prog W = .ok (decide (xs = ys)) W := by
  obtain ⟨i, hi⟩ := Option.isSome_iff_exists.1 Tryd.hasU8
  rw [run_equalIn_array W (d + 1) _ _ Tryd.underlying25 hi, Tryd.cellsU8, items_id xs ys W d (List.range 32) (fun j hj => by rw [hx, hy]; simpa using hj)]
  have e : ((List.range 32).all fun i => xs[i]?.getD 0 == ys[i]?.getD 0) = decide (xs = ys) := by
    rw [Bool.eq_iff_iff, decide_eq_true_iff, List.all_eq_true]
    constructor
    · intro h
      refine List.ext_getElem (by omega) fun j h1 h2 => ?_
      have := h j (by simp; omega)
      simpa [List.getElem?_eq_getElem h1, List.getElem?_eq_getElem h2] using this
    · rintro rfl j _
      simp
  rw [e]
theorem twoInt (d : Nat) (n m : Int) (W : World) : (Op.equalIn (d + 1) 3 (.int .i64 n) (.int .i64 m)).run Tryd.prog W = .ok (decide (n = m)) W := by rw [run_equalIn_int W d 3 .i64 .i64 n m Tryd.underlying3]; rfl
theorem twoU64 (d : Nat) (n m : Int) (W : World) : (Op.equalIn (d + 1) 27 (.int .u64 n) (.int .u64 m)).run Tryd.prog W = .ok (decide (n = m)) W := by rw [run_equalIn_int W d 27 .u64 .u64 n m Tryd.underlying27]; rfl
theorem str_lists {xs ys : List Int} (hx : Octs xs) (hy : Octs ys) : ((strOfNums xs).toList == (strOfNums ys).toList) = decide (xs = ys) := by
  rw [Bool.eq_iff_iff, decide_eq_true_iff, beq_iff_eq]
  constructor
  · intro h
    rw [← strOfNums_inj hx hy]
    have h2 : (strOfNums xs).data.toList = (strOfNums ys).data.toList := by
      rw [Lib.strOfNums_toList, Lib.strOfNums_toList] at h
      exact h
    have h3 : (strOfNums xs).data = (strOfNums ys).data := Array.toList_inj.1 h2
    exact congrArg ByteArray.mk h3
  · rintro rfl
    rfl
theorem twoStr (d : Nat) {xs ys : List Int} (hx : Octs xs) (hy : Octs ys) (W : World) : (Op.equalIn (d + 1) 9 (.string (strOfNums xs)) (.string (strOfNums ys))).run Tryd.prog W = .ok (decide (xs = ys)) W := by
  rw [run_equalIn_string W d 9 _ _ Tryd.underlying9, str_lists hx hy]

set_option maxRecDepth 100000 in
theorem entTwo (e f : EntL) (he : e.Good) (hf : f.Good) : ∃ r : Bool, (r = true ↔ e = f) ∧ ∀ W, (Op.equalIn 10000 74 (.agg e.row.toArray) (.agg f.row.toArray)).run Tryd.prog W = .ok r W := by
  have hu : Tryd.prog.underlying 74 = some (.struct (Tryd.prog.fieldsOf 74)) := by kernel_rfl
  have hp : Tryd.prog.stoodInHeld 74 = false := by kernel_rfl
  have hfs := TypeDesc.struct.inj (Option.some.inj (hu.symm.trans Tryd.underlying74))
  refine ⟨decide (e.mode = f.mode) && (decide (e.name = f.name) && (decide (e.id = f.id) && true)), ?_, fun W => ?_⟩
  · obtain ⟨a, b, c⟩ := e
    obtain ⟨a', b', c'⟩ := f
    simp
  · rw [show (10000 : Nat) = 9997 + 1 + 1 + 1 from rfl, run_equalIn_struct W (9997 + 1 + 1) 74 _ _ hu hp, hfs]
    have hid : ∀ e : EntL, e.id.length = 32 → (e.row.drop 2).take 32 = e.id.map (Value.int .u8) := fun e h => by
      unfold EntL.row
      show ((e.id.map (Value.int .u8)).take 32) = _
      rw [List.take_of_length_le (by rw [List.length_map]; omega)]
    refine eqF_two (by decide) (run_part_plain W plainInt (v := .int .i64 e.mode) rfl) (run_part_plain W plainInt (v := .int .i64 f.mode) rfl) (twoInt _ _ _ W) ?_
    refine eqF_two (by decide) (run_part_plain W plainStr (v := .string (strOfNums e.name)) rfl) (run_part_plain W plainStr (v := .string (strOfNums f.name)) rfl) (twoStr _ he.name.1 hf.name.1 W) ?_
    refine eqF_two (by decide) (part_id e.row e.id 2 (hid e he.id.1) W) (part_id f.row f.id 2 (hid f hf.id.1) W) (idTwo 9997 e.id f.id W he.id.1 hf.id.1) ?_
    rfl
set_option maxRecDepth 100000 in
theorem tagTwo (t u : TagL) (ht : t.Good) (hu : u.Good) : ∃ r : Bool, (r = true ↔ t = u) ∧ ∀ W, (Op.equalIn 10000 31 (.agg t.row.toArray) (.agg u.row.toArray)).run Tryd.prog W = .ok r W := by
  have hd : Tryd.prog.underlying 31 = some (.struct (Tryd.prog.fieldsOf 31)) := by kernel_rfl
  have hp : Tryd.prog.stoodInHeld 31 = false := by kernel_rfl
  have hfs := TypeDesc.struct.inj (Option.some.inj (hd.symm.trans Tryd.underlying31))
  refine ⟨decide (t.target = u.target) && (decide (t.kind = u.kind) && (decide (t.name = u.name) && (decide (t.who = u.who) && (decide (t.time = u.time) && (decide (t.text = u.text) && true))))), ?_, fun W => ?_⟩
  · obtain ⟨a, b, c, d, e, f⟩ := t
    obtain ⟨a', b', c', d', e', f'⟩ := u
    simp
  · have h1 := ht.target.1
    have h2 := hu.target.1
    have hid : ∀ t : TagL, t.target.length = 32 → (t.row.drop 0).take 32 = t.target.map (Value.int .u8) := fun t h => by
      unfold TagL.row
      rw [List.drop_zero, List.take_left' (by rw [List.length_map, h])]
    rw [show (10000 : Nat) = 9997 + 1 + 1 + 1 from rfl, run_equalIn_struct W (9997 + 1 + 1) 31 _ _ hd hp, hfs]
    refine eqF_two (by decide) (part_id t.row t.target 0 (hid t h1) W) (part_id u.row u.target 0 (hid u h2) W) (idTwo 9997 t.target u.target W h1 h2) ?_
    refine eqF_two (by decide) (run_part_plain W plainInt (tag_get t h1 0 _ rfl)) (run_part_plain W plainInt (tag_get u h2 0 _ rfl)) (twoInt _ _ _ W) ?_
    refine eqF_two (by decide) (run_part_plain W plainStr (tag_get t h1 1 _ rfl)) (run_part_plain W plainStr (tag_get u h2 1 _ rfl)) (twoStr _ ht.name.1 hu.name.1 W) ?_
    refine eqF_two (by decide) (run_part_plain W plainStr (tag_get t h1 2 _ rfl)) (run_part_plain W plainStr (tag_get u h2 2 _ rfl)) (twoStr _ ht.who.1 hu.who.1 W) ?_
    refine eqF_two (by decide) (run_part_plain W plainU64 (tag_get t h1 3 _ rfl)) (run_part_plain W plainU64 (tag_get u h2 3 _ rfl)) (twoU64 _ _ _ W) ?_
    refine eqF_two (by decide) (run_part_plain W plainStr (tag_get t h1 4 _ rfl)) (run_part_plain W plainStr (tag_get u h2 4 _ rfl)) (twoStr _ ht.text.1 hu.text.1 W) ?_
    rfl
end Go.Proofs.YtnfbiemmdaenpaaDoor

namespace Go.Proofs.YtnfbiemmdaenpaaDoor
open Go.RowKit

theorem run_ent_neq (x y : Operand) (A B : Array Value) (W : World) (r : Bool) (hr : (Op.equalIn 10000 74 (.agg A) (.agg B)).run Tryd.prog W = .ok r W) :
    Sem.run Tryd.prog (do eqGuard BinOp.neq 74 x y (Value.agg A) (Value.agg B); binOp BinOp.neq 74 (Value.agg A) (Value.agg B)) W = .ok (.bool !r) W := by
  have hm : Tryd.prog.eqGuardType Tryd.prog.depth 74 = false := by kernel_rfl
  rw [Sem.run_bind, run_eqGuard_agg W .neq 74 x y A B hm, Result.andThen_ok, run_neq_struct W 74 A B, hr]
  rfl
section
variable {ops : Array Oper} {C : World → Prop} {Q : Act → Prop} {rest : List Oper} {o : Oper} {a : Act}
theorem quiet_neqE (hw : Region.wanted o (yielded ops a.tmps) = true) (x y : Operand) (rt : TypeId) (ho : o.op = .binOp .neq 74 x y rt) (A B : Array Value) (hx : a.eval x = .agg A) (hy : a.eval y = .agg B) (r : Bool)
    (hr : ∀ W, (Op.equalIn 10000 74 (.agg A) (.agg B)).run Tryd.prog W = .ok r W) (h : wpQuiet Tryd.prog ops C Q rest (a.put o.dst (.bool !r))) : wpQuiet Tryd.prog ops C Q (o :: rest) a := by
  refine quiet_val hw (.bool !r) (fun W => ?_) h
  unfold execOp
  simp only [ho, hx, hy]
  rw [Sem.run_bind, run_ent_neq x y A B W r (hr W)]
  rfl
end
end Go.Proofs.YtnfbiemmdaenpaaDoor

namespace Go.Proofs.YtnfbiemmdaenpaaDoor
open Go.ChangeShapes Go.WideShapes Go.ChangeAt Go.RowKit Go.Deep

/-- Its lists fit into memory once more. -/
structure ObjL.Fits (o : ObjL) : Prop where
  es : o.es.length * 56 ≤ 140737488351232
  ps : o.com.parents.length * 32 ≤ 140737488351232

theorem ObjL.Good.kept {w w' : World} {o : ObjL} (h : ObjL.Good w o) (k : Kept [] w w') : ObjL.Good w' o :=
  ⟨h.lo, h.hi, h.bv.keep k (fun _ _ _ => by simp), h.blob, h.ev.keep k (fun _ _ _ => by simp), h.es, h.pv.keep k (fun _ _ _ => by simp), h.com, h.tag⟩
theorem objL_len {o : ObjL} (hc : o.com.tree.length = 32) (ht : o.tag.target.length = 32) : o.row.length = 76 := by
  unfold ObjL.row
  rw [List.length_append, List.length_append, com_len' _ _ hc, show o.tag.row.length = 37 by simp [TagL.row, ht]]
  rfl
theorem Tryd.cells_id : Tryd.prog.cellsOf 25 = 32 := by kernel_rfl
theorem Tryd.cells_idl : Tryd.prog.cellsOf 26 = 1 := by kernel_rfl
theorem Tryd.bytes_id : Tryd.prog.bytesOf 25 = 32 := by kernel_rfl
theorem Tryd.cells_ent : Tryd.prog.cellsOf 74 = 34 := by kernel_rfl
theorem Tryd.cells_entl : Tryd.prog.cellsOf 23 = 1 := by kernel_rfl
theorem Tryd.bytes_ent : Tryd.prog.bytesOf 74 = 56 := by kernel_rfl
theorem Tryd.cells_com : Tryd.prog.cellsOf 29 = 36 := by kernel_rfl
theorem Tryd.cells_tag : Tryd.prog.cellsOf 31 = 37 := by kernel_rfl
theorem Tryd.cells_obj : Tryd.prog.cellsOf 33 = 76 := by kernel_rfl
theorem Tryd.cells_u64 : Tryd.prog.cellsOf 27 = 1 := by kernel_rfl
theorem Tryd.cells_str : Tryd.prog.cellsOf 9 = 1 := by kernel_rfl

theorem cut3 {α : Type} (cs : List α) (a b c : Nat) (h : cs.length = a + b + c) : cs = cs.take a ++ ((cs.drop a).take b ++ (cs.drop (a + b)).take c) := by
  have h1 := (List.take_append_drop a cs).symm
  have h2 := drop_cut cs a b
  have h3 := drop_cut cs (a + b) c
  rw [List.drop_eq_nil_of_le (show cs.length ≤ a + b + c by omega), List.append_nil] at h3
  rw [← h3, ← h2]
  exact h1
theorem cut4 {α : Type} (cs : List α) (a b c d : Nat) (h : cs.length = a + b + c + d) : cs = cs.take a ++ ((cs.drop a).take b ++ ((cs.drop (a + b)).take c ++ (cs.drop (a + b + c)).take d)) := by
  have h2 := drop_cut cs (a + b) c
  have h3 := drop_cut cs (a + b + c) d
  rw [List.drop_eq_nil_of_le (show cs.length ≤ a + b + c + d by omega), List.append_nil] at h3
  rw [← h3, ← h2, ← drop_cut cs a b]
  exact (List.take_append_drop a cs).symm
theorem cut5 {α : Type} (cs : List α) (a b c d e : Nat) (h : cs.length = a + b + c + d + e) : cs = cs.take a ++ ((cs.drop a).take b ++ ((cs.drop (a + b)).take c ++ ((cs.drop (a + b + c)).take d ++ (cs.drop (a + b + c + d)).take e))) := by
  have h3 := drop_cut cs (a + b + c + d) e
  rw [List.drop_eq_nil_of_le (show cs.length ≤ a + b + c + d + e by omega), List.append_nil] at h3
  rw [← h3, ← drop_cut cs (a + b + c) d, ← drop_cut cs (a + b) c, ← drop_cut cs a b]
  exact (List.take_append_drop a cs).symm
theorem cut6 {α : Type} (cs : List α) (a b c d e f : Nat) (h : cs.length = a + b + c + d + e + f) : cs = cs.take a ++ ((cs.drop a).take b ++ ((cs.drop (a + b)).take c ++ ((cs.drop (a + b + c)).take d ++ ((cs.drop (a + b + c + d)).take e ++ (cs.drop (a + b + c + d + e)).take f)))) := by
  have h3 := drop_cut cs (a + b + c + d + e) f
  rw [List.drop_eq_nil_of_le (show cs.length ≤ a + b + c + d + e + f by omega), List.append_nil] at h3
  rw [← h3, ← drop_cut cs (a + b + c + d) e, ← drop_cut cs (a + b + c) d, ← drop_cut cs (a + b) c, ← drop_cut cs a b]
  exact (List.take_append_drop a cs).symm

section
variable {H : Type} {enc : TypeId × Value → H} {w : World} {base : Nat} {spare : Nat → Bool} {held : Bool} {fuel : Nat} {cs : List Value} {x : DataW H × List MemPlace}

theorem u8_wf {n : Int} (h : (Lit.int .u8 n).wf = true) : 0 ≤ n ∧ n ≤ 255 := by
  have e1 : IntKind.u8.min = 0 := rfl
  have e2 : IntKind.u8.max = 255 := rfl
  simp only [Lit.wf, Bool.and_eq_true, decide_eq_true_eq, e1, e2] at h
  omega
/-- An id, opened. -/
theorem open_id (h : DataW.trod enc Tryd.prog w base spare held fuel 25 cs = some x) : ∃ bs : List Int, cs = bs.map (Value.int .u8) ∧ GoodID bs := by
  obtain ⟨xs, m, rfl, rfl, hlen, hxs, hel⟩ := DataW.trod_array Tryd.underlying25 h
  rw [Tryd.cells_id] at hlen
  have hop : ∀ i, i < 32 → ∃ a : Int, cs[i]? = some (.int .u8 a) ∧ 0 ≤ a ∧ a ≤ 255 := by
    intro i hi
    have h1 := hel i hi
    rw [Tryd.cells_u8, Nat.mul_one, List.getElem?_eq_getElem (show i < xs.length by omega)] at h1
    obtain ⟨a, e, _, hw⟩ := DataW.trod_int Tryd.underlying5 h1
    refine ⟨a, ?_, u8_wf hw⟩
    rw [List.drop_eq_getElem_cons (show i < cs.length by omega)] at e
    simp only [List.take_succ_cons, List.take_zero, List.cons.injEq, and_true] at e
    rw [List.getElem?_eq_getElem (show i < cs.length by omega), e]
  obtain ⟨A, hA⟩ := choose_lt hop
  refine ⟨(List.range 32).map A, ?_, by simp, ?_⟩
  · refine List.ext_getElem? fun i => ?_
    by_cases hi : i < 32
    · rw [(hA i hi).1]
      simp [hi]
    · rw [List.getElem?_eq_none (by omega), List.getElem?_eq_none (by simp; omega)]
  · intro u hu
    simp only [List.mem_map, List.mem_range] at hu
    obtain ⟨i, hi, rfl⟩ := hu
    have := (hA i hi).2
    omega
theorem open_str (h : DataW.trod enc Tryd.prog w base spare held fuel 9 cs = some x) : ∃ xs : List Int, cs = [.string (strOfNums xs)] ∧ Octs xs ∧ ∀ B, (DataW.weights Tryd.prog 9 x.1).all (· ≤ B) = true → xs.length ≤ B := by
  obtain ⟨s, e, rfl, _⟩ := DataW.trod_string Tryd.underlying9 h
  refine ⟨numsOf s, by rw [nums_str]; exact e, nums_octs s, fun B hB => ?_⟩
  simp only [DataW.weights] at hB
  simpa [numsOf] using hB
theorem open_int (h : DataW.trod enc Tryd.prog w base spare held fuel 3 cs = some x) : ∃ n : Int, cs = [.int .i64 n] ∧ -9223372036854775808 ≤ n ∧ n ≤ 9223372036854775807 := by
  obtain ⟨n, e, _, hw⟩ := DataW.trod_int Tryd.underlying3 h
  exact ⟨n, e, i64_wf hw⟩
theorem open_u64 (h : DataW.trod enc Tryd.prog w base spare held fuel 27 cs = some x) : ∃ n : Int, cs = [.int .u64 n] ∧ 0 ≤ n ∧ n ≤ 18446744073709551615 := by
  obtain ⟨n, e, _, hw⟩ := DataW.trod_int Tryd.underlying27 h
  exact ⟨n, e, u64_wf hw⟩

theorem open_ent (h : DataW.trod enc Tryd.prog w base spare held fuel 74 cs = some x) : ∃ e : EntL, cs = e.row ∧ ((DataW.weights Tryd.prog 74 x.1).all (· ≤ 140737488351232) = true → e.Good) := by
  obtain ⟨zs, n, rfl, rfl, hlen, hxs, hfl⟩ := DataW.trod_struct Tryd.underlying74 h
  rw [Tryd.cells_ent] at hlen
  have f0 := hfl 0 _ rfl
  have f1 := hfl 1 _ rfl
  have f2 := hfl 2 _ rfl
  match zs, hxs with
  | [y0, y1, y2], _ =>
    simp [Tryd.cells_str, Tryd.cells_int, Tryd.cells_id] at f0 f1 f2
    obtain ⟨a0, e0, w0, w1⟩ := open_int f0
    obtain ⟨s, e1, o1, k1⟩ := open_str f1
    obtain ⟨id, e2, hgi⟩ := open_id f2
    have c : cs = cs.take 1 ++ ((cs.drop 1).take 1 ++ (cs.drop 2).take 32) := cut3 cs 1 1 32 hlen
    rw [List.drop_one] at c
    rw [e0, e1, e2] at c
    refine ⟨⟨a0, s, id⟩, c, fun hB => ⟨w0, w1, ⟨o1, ?_⟩, hgi⟩⟩
    simp only [DataW.weights, Tryd.underlying74, DataW.weightsEach, List.map_cons, List.map_nil, List.append_nil, List.all_append, Bool.and_eq_true] at hB
    exact k1 _ hB.2.1
instance : Inhabited EntL := ⟨⟨0, [], []⟩⟩
instance : Inhabited ComL := ⟨⟨[], [], [], 0, []⟩⟩
instance : Inhabited TagL := ⟨⟨[], 0, [], [], 0, []⟩⟩
instance : Inhabited ObjL := ⟨⟨0, .slice none 0 0, [], .slice none 0 0, [], default, .slice none 0 0, default⟩⟩

theorem open_entl (h : DataW.trod enc Tryd.prog w base spare held fuel 23 cs = some x) : ∃ v es, cs = [v] ∧ ((DataW.weights Tryd.prog 23 x.1).all (· ≤ 140737488351232) = true → EntsAt w v es ∧ es.length * 56 ≤ 140737488351232 ∧ ∀ e, e ∈ es → e.Good) := by
  obtain ⟨ao, cap, ls, rfl, h1, h0, hc, hB⟩ := open_rowl EntL.row EntL.Good 140737488351232 Tryd.underlying23 Tryd.cells_ent (by decide) h (fun _ _ _ => open_ent)
  rw [Tryd.bytes_ent] at hB
  refine ⟨_, ls, rfl, fun hb => ⟨⟨ao, cap, by rw [List.length_map], by rw [List.length_map]; exact h1, h0, by rw [List.length_map]; have := (hB hb).1; omega, fun hne => ?_⟩, (hB hb).1, (hB hb).2⟩⟩
  obtain ⟨b, off, hao, hh⟩ := hc (by simpa using hne)
  refine ⟨b, off, hao, fun i r hr => ?_⟩
  rw [List.getElem?_map] at hr
  obtain ⟨e, he, rfl⟩ := Option.map_eq_some_iff.1 hr
  exact hh i e he
theorem open_idl (h : DataW.trod enc Tryd.prog w base spare held fuel 26 cs = some x) : ∃ v ids, cs = [v] ∧ ((DataW.weights Tryd.prog 26 x.1).all (· ≤ 140737488351232) = true → IdsAt w v ids ∧ ids.length * 32 ≤ 140737488351232 ∧ ∀ o, o ∈ ids → GoodID o) := by
  obtain ⟨ao, cap, ls, rfl, h1, h0, hc, hB⟩ := open_rowl (fun o : List Int => o.map (Value.int .u8)) GoodID 140737488351232 Tryd.underlying26 Tryd.cells_id (by decide) h (fun _ _ _ h => (open_id h).imp fun _ q => ⟨q.1, fun _ => q.2⟩)
  rw [Tryd.bytes_id] at hB
  exact ⟨_, ls, rfl, fun hb => ⟨⟨ao, cap, rfl, h1, h0, by have := (hB hb).1; omega, hc⟩, (hB hb).1, (hB hb).2⟩⟩

theorem open_com (h : DataW.trod enc Tryd.prog w base spare held fuel 29 cs = some x) : ∃ (c : ComL) (pv : Value), cs = c.row pv ∧ ((DataW.weights Tryd.prog 29 x.1).all (· ≤ 140737488351232) = true → IdsAt w pv c.parents ∧ c.parents.length * 32 ≤ 140737488351232 ∧ c.Good) := by
  obtain ⟨zs, n, rfl, rfl, hlen, hxs, hfl⟩ := DataW.trod_struct Tryd.underlying29 h
  rw [Tryd.cells_com] at hlen
  have f0 := hfl 0 _ rfl
  have f1 := hfl 1 _ rfl
  have f2 := hfl 2 _ rfl
  have f3 := hfl 3 _ rfl
  have f4 := hfl 4 _ rfl
  match zs, hxs with
  | [y0, y1, y2, y3, y4], _ =>
    simp [Tryd.cells_str, Tryd.cells_id, Tryd.cells_idl, Tryd.cells_u64] at f0 f1 f2 f3 f4
    obtain ⟨t, e0, hgt⟩ := open_id f0
    obtain ⟨pv, ids, e1, k1⟩ := open_idl f1
    obtain ⟨s2, e2, o2, k2⟩ := open_str f2
    obtain ⟨tm, e3, w0, w1⟩ := open_u64 f3
    obtain ⟨s4, e4, o4, k4⟩ := open_str f4
    have c : cs = cs.take 32 ++ ((cs.drop 32).take 1 ++ ((cs.drop 33).take 1 ++ ((cs.drop 34).take 1 ++ (cs.drop 35).take 1))) := cut5 cs 32 1 1 1 1 hlen
    rw [e0, e1, e2, e3, e4] at c
    refine ⟨⟨t, ids, s2, tm, s4⟩, pv, c, fun hB => ?_⟩
    simp only [DataW.weights, Tryd.underlying29, DataW.weightsEach, List.map_cons, List.map_nil, List.append_nil, List.all_append, Bool.and_eq_true] at hB
    obtain ⟨_, b1, b2, _, b4⟩ := hB
    exact ⟨(k1 b1).1, (k1 b1).2.1, hgt, (k1 b1).2.2, ⟨o2, k2 _ b2⟩, w0, w1, ⟨o4, k4 _ b4⟩⟩
theorem open_tag (h : DataW.trod enc Tryd.prog w base spare held fuel 31 cs = some x) : ∃ t : TagL, cs = t.row ∧ ((DataW.weights Tryd.prog 31 x.1).all (· ≤ 140737488351232) = true → t.Good) := by
  obtain ⟨zs, n, rfl, rfl, hlen, hxs, hfl⟩ := DataW.trod_struct Tryd.underlying31 h
  rw [Tryd.cells_tag] at hlen
  have f0 := hfl 0 _ rfl
  have f1 := hfl 1 _ rfl
  have f2 := hfl 2 _ rfl
  have f3 := hfl 3 _ rfl
  have f4 := hfl 4 _ rfl
  have f5 := hfl 5 _ rfl
  match zs, hxs with
  | [y0, y1, y2, y3, y4, y5], _ =>
    simp [Tryd.cells_str, Tryd.cells_int, Tryd.cells_id, Tryd.cells_u64] at f0 f1 f2 f3 f4 f5
    obtain ⟨t, e0, hgt⟩ := open_id f0
    obtain ⟨kd, e1, l1, l2⟩ := open_int f1
    obtain ⟨s2, e2, o2, k2⟩ := open_str f2
    obtain ⟨s3, e3, o3, k3⟩ := open_str f3
    obtain ⟨tm, e4, w0, w1⟩ := open_u64 f4
    obtain ⟨s5, e5, o5, k5⟩ := open_str f5
    have c : cs = cs.take 32 ++ ((cs.drop 32).take 1 ++ ((cs.drop 33).take 1 ++ ((cs.drop 34).take 1 ++ ((cs.drop 35).take 1 ++ (cs.drop 36).take 1)))) := cut6 cs 32 1 1 1 1 1 hlen
    rw [e0, e1, e2, e3, e4, e5] at c
    refine ⟨⟨t, kd, s2, s3, tm, s5⟩, c, fun hB => ?_⟩
    simp only [DataW.weights, Tryd.underlying31, DataW.weightsEach, List.map_cons, List.map_nil, List.append_nil, List.all_append, Bool.and_eq_true] at hB
    obtain ⟨_, _, b2, b3, _, b5⟩ := hB
    exact ⟨hgt, l1, l2, ⟨o2, k2 _ b2⟩, ⟨o3, k3 _ b3⟩, w0, w1, ⟨o5, k5 _ b5⟩⟩
theorem open_obj (h : DataW.trod enc Tryd.prog w base spare held fuel 33 cs = some x) : ∃ o : ObjL, cs = o.row ∧ ((DataW.weights Tryd.prog 33 x.1).all (· ≤ 140737488351232) = true → ObjL.Good w o ∧ o.Fits) := by
  obtain ⟨zs, n, rfl, rfl, hlen, hxs, hfl⟩ := DataW.trod_struct Tryd.underlying33 h
  rw [Tryd.cells_obj] at hlen
  have f0 := hfl 0 _ rfl
  have f1 := hfl 1 _ rfl
  have f2 := hfl 2 _ rfl
  have f3 := hfl 3 _ rfl
  have f4 := hfl 4 _ rfl
  match zs, hxs with
  | [y0, y1, y2, y3, y4], _ =>
    simp [Tryd.cells_int, Tryd.cells_bytes, Tryd.cells_entl, Tryd.cells_com, Tryd.cells_tag] at f0 f1 f2 f3 f4
    obtain ⟨kd, e0, l1, l2⟩ := open_int f0
    obtain ⟨ao, cap, bs, e1, hb1, o1, k1, _⟩ := open_bytes f1
    obtain ⟨ev, es, e2, k2⟩ := open_entl f2
    obtain ⟨co, pv, e3, k3⟩ := open_com f3
    obtain ⟨tg, e4, k4⟩ := open_tag f4
    have c : cs = cs.take 1 ++ ((cs.drop 1).take 1 ++ ((cs.drop 2).take 1 ++ ((cs.drop 3).take 36 ++ (cs.drop 39).take 37))) := cut5 cs 1 1 1 36 37 hlen
    rw [List.drop_one] at c
    rw [e0, e1, e2, e3, e4] at c
    refine ⟨⟨kd, .slice ao bs.length cap, bs, ev, es, co, pv, tg⟩, c, fun hB => ?_⟩
    simp only [DataW.weights, Tryd.underlying33, DataW.weightsEach, List.map_cons, List.map_nil, List.append_nil, List.all_append, Bool.and_eq_true] at hB
    obtain ⟨_, b1, b2, b3, b4⟩ := hB
    exact ⟨⟨l1, l2, hb1, ⟨o1, k1 _ b1⟩, (k2 b2).1, (k2 b2).2.2, (k3 b3).1, (k3 b3).2.2, k4 b4⟩, (k2 b2).2.1, (k3 b3).2.1⟩
end
end Go.Proofs.YtnfbiemmdaenpaaDoor
