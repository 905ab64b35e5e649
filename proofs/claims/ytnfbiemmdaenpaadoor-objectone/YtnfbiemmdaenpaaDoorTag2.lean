/-
  WALKS: (object.tag).fault, write, children.
  WALKS: (object.tag).children, object.readTag.
-/
import Derived.Test.YtnfbiemmdaenpaaDoorTag0
import Derived.Great.BuildSlice
namespace Go.Proofs.YtnfbiemmdaenpaaDoor
open Go.RowKit

set_option maxRecDepth 100000 in
set_option maxHeartbeats 1000000 in
theorem tagFault_any (t : TagL) (w : World) (hT : Tabs w) (hg : t.Good) :
    Calls Tryd.prog 116 #[.agg t.row.toArray] w fun e w' => e = .returned (.int .i64 (faultG t)) ∧ Kept [] w w' := by
  obtain ⟨c0, c1, c2, c3, c4, c5⟩ := tag_cells hg.target.1 (heap_alloc_new w (.cells t.row.toArray 83))
  have HK0 : Hid (Kept [] w (w.alloc (.cells t.row.toArray 83))) := (Kept.refl _ _).alloc _
  have hname := Name_any t.name hg.name.1 (w.alloc (.cells t.row.toArray 83)) (Nat.le_trans hg.name.2 (by decide)) (hT.kept HK0.out)
  have HSG : Hid (∀ W, Kept [] w W → Calls Tryd.prog 112 #[.string (strOfNums t.who), .int .u64 t.time, .string (strOfNums t.text)] W fun e w' => e = .returned (.int .i64 (if signB t.who t.time t.text = false then 36 else 0)) ∧ Kept [] W w') := fun W hW => signFault_any t.who t.time t.text W (hT.kept hW) hg.who hg.t0 hg.t1
  have HB : Hid ((w.alloc (.cells t.row.toArray 83)).heap[w.heap.size]? = some (.cells t.row.toArray 83 (0, 0))) := heap_alloc_new w _
  have HTC : Hid (∀ W : World, W.heap[w.heap.size]? = some (.cells t.row.toArray 83 (0, 0)) → W.cell? ⟨w.heap.size, 34, none⟩ = some (.string (strOfNums t.who)) ∧ W.cell? ⟨w.heap.size, 35, none⟩ = some (.int .u64 t.time) ∧ W.cell? ⟨w.heap.size, 36, none⟩ = some (.string (strOfNums t.text))) := fun W hW => (tag_cells hg.target.1 hW).2.2.2
  obtain ⟨rv, hrv⟩ : ∃ rv : Int, rv = faultG t := ⟨_, rfl⟩
  rw [← hrv]
  have HRV : Hid (rv = if modeB t.kind = false then 30 else if nameB t.name = false then 32 else if signB t.who t.time t.text = false then 36 else 0) := hrv
  have hlo := hg.lo
  have hhi := hg.hi
  obtain ⟨sv, hsv⟩ : ∃ sv : Int, sv = if signB t.who t.time t.text = false then 36 else 0 := ⟨_, rfl⟩
  rw [← hsv] at HSG HRV
  have hd : decide (t.kind < 1) = true ∧ modeB t.kind = false ∨ decide (t.kind < 1) = false ∧ decide (4 < t.kind) = true ∧ modeB t.kind = false ∨ decide (t.kind < 1) = false ∧ decide (4 < t.kind) = false ∧ modeB t.kind = true := by
    unfold modeB
    by_cases h1 : t.kind < 1
    · exact Or.inl ⟨decide_eq_true h1, by rw [decide_eq_false (by omega)]; rfl⟩
    · by_cases h2 : 4 < t.kind
      · exact Or.inr (Or.inl ⟨decide_eq_false h1, decide_eq_true h2, by rw [decide_eq_false (by omega : ¬ t.kind ≤ 4)]; simp⟩)
      · exact Or.inr (Or.inr ⟨decide_eq_false h1, decide_eq_false h2, by rw [decide_eq_true (by omega : 1 ≤ t.kind), decide_eq_true (by omega : t.kind ≤ 4)]; rfl⟩)
  clear hrv hsv hg hT
  generalize t.row.toArray = tr at *
  generalize t.kind = kd at *
  generalize strOfNums t.name = sn at *
  generalize strOfNums t.who = sw at *
  generalize strOfNums t.text = st at *
  generalize nameB t.name = nb at *
  rcases hd with ⟨h1, h2⟩ | ⟨h1, h2, h3⟩ | ⟨h1, h2, h3⟩
  · rw [h2] at HRV
    go_enter Tryd.func116, Tryd.ntmps116
    go_wp2
    go_ret
    exact ⟨by rw [HRV.out]; rfl, HK0.out⟩
  · rw [h3] at HRV
    go_enter Tryd.func116, Tryd.ntmps116
    go_wp2
    go_ret
    exact ⟨by rw [HRV.out]; rfl, HK0.out⟩
  · rw [h3] at HRV
    cases nb
    · go_enter Tryd.func116, Tryd.ntmps116
      go_wp2_with (go_at_call 17; refine hname.mono ?_; rintro e w1 ⟨rfl, hk1⟩; have HK1 : Hid (Kept [] w w1) := HK0.out.then hk1; clear hk1)
      go_ret
      exact ⟨by rw [HRV.out]; rfl, HK1.out⟩
    · go_enter Tryd.func116, Tryd.ntmps116
      go_wp2_with (first
        | (go_at_call 17; refine hname.mono ?_; rintro e w1 ⟨rfl, hk1⟩
           have HK1 : Hid (Kept [] w w1) := HK0.out.then hk1
           obtain ⟨d3, d4, d5⟩ := HTC.out w1 (hk1.heap HB.out (by simp))
           clear hk1)
        | (go_at_call 112; refine (HSG.out _ HK1.out).mono ?_; rintro e w2 ⟨rfl, hk2⟩
           have HK2 : Hid (Kept [] w w2) := HK1.out.then hk2
           clear hk2))
      go_ret
      exact ⟨by rw [HRV.out]; rfl, HK2.out⟩

/-- A tag's encoding. -/
def encG (t : TagL) : List Int := fixedB 4 1 ++ t.target ++ fixedB t.kind 1 ++ varB t.name.length ++ t.name ++ varB t.who.length ++ t.who ++ fixedB t.time 8 ++ varB t.text.length ++ t.text

set_option maxRecDepth 100000 in
set_option maxHeartbeats 1000000 in
theorem tagWrite_any (t : TagL) {w : World} {wb B : Nat} {zs : List Int} {S : List Nat} (h : WAt w wb B zs S) (hBw : B ≤ w.heap.size) (hg : t.Good) (hk0 : 0 ≤ t.kind) (hk1 : t.kind ≤ 255) (hz : zs.length + t.name.length + t.who.length + t.text.length ≤ 100000000) :
    Calls Tryd.prog 117 #[.agg t.row.toArray, .pointer (some ⟨wb, 0, none⟩)] w fun e w' => e = .returned (.tuple #[]) ∧ Wrote w w' wb B (zs ++ encG t) S := by
  have HE : Hid (zs ++ encG t = zs ++ fixedB 4 1 ++ t.target ++ fixedB t.kind 1 ++ varB t.name.length ++ t.name ++ varB t.who.length ++ t.who ++ fixedB t.time 8 ++ varB t.text.length ++ t.text) := by
    have : zs ++ encG t = zs ++ fixedB 4 1 ++ t.target ++ fixedB t.kind 1 ++ varB t.name.length ++ t.name ++ varB t.who.length ++ t.who ++ fixedB t.time 8 ++ varB t.text.length ++ t.text := by unfold encG; simp only [List.append_assoc]
    exact this
  have v1 := varB_len (t.name.length : Int) (by omega) (by omega)
  have v2 := varB_len (t.who.length : Int) (by omega) (by omega)
  have v3 := varB_len (t.text.length : Int) (by omega) (by omega)
  have l0 := hg.target.1
  have H0 : Hid (WB w (w.alloc (.cells t.row.toArray 83)) wb B zs S w.heap.size t.row.toArray 83) := WB.start h _ _
  have HTC : Hid (∀ W : World, W.heap[w.heap.size]? = some (.cells t.row.toArray 83 (0, 0)) → W.rangeAt w.heap.size 0 (t.target.map (Value.int .u8)) ∧ W.cell? ⟨w.heap.size, 32, none⟩ = some (.int .i64 t.kind) ∧ W.cell? ⟨w.heap.size, 33, none⟩ = some (.string (strOfNums t.name)) ∧ W.cell? ⟨w.heap.size, 34, none⟩ = some (.string (strOfNums t.who)) ∧ W.cell? ⟨w.heap.size, 35, none⟩ = some (.int .u64 t.time) ∧ W.cell? ⟨w.heap.size, 36, none⟩ = some (.string (strOfNums t.text))) := fun W hW => tag_cells hg.target.1 hW
  have hsl := fun W => slice_id w.heap.size 0 W
  have C1 : Hid (∀ W, WB w W wb B zs S w.heap.size t.row.toArray 83 → Calls Tryd.prog 98 #[.pointer (some ⟨wb, 0, none⟩), .int .u8 4] W fun e w' => e = .returned (.tuple #[]) ∧ WB w w' wb B (zs ++ fixedB 4 1) S w.heap.size t.row.toArray 83) := fun W q => q.u8 hBw 4 (by decide) (by decide) (by omega)
  have C2 : Hid (∀ W, WB w W wb B (zs ++ fixedB 4 1) S w.heap.size t.row.toArray 83 → Calls Tryd.prog 99 #[.pointer (some ⟨wb, 0, none⟩), .slice (some ⟨w.heap.size, 0, none⟩) 32 32] W fun e w' => e = .returned (.tuple #[]) ∧ WB w w' wb B (zs ++ fixedB 4 1 ++ t.target) S w.heap.size t.row.toArray 83) := fun W q => by
    have hb := range_bytes (HTC.out W q.block).1
    rw [l0] at hb
    exact q.raw hBw _ _ hb hg.target.2 (by simp only [List.length_append, fixedB_len, l0]; omega)
  have C3 : Hid (∀ W, WB w W wb B (zs ++ fixedB 4 1 ++ t.target) S w.heap.size t.row.toArray 83 → Calls Tryd.prog 98 #[.pointer (some ⟨wb, 0, none⟩), .int .u8 t.kind] W fun e w' => e = .returned (.tuple #[]) ∧ WB w w' wb B (zs ++ fixedB 4 1 ++ t.target ++ fixedB t.kind 1) S w.heap.size t.row.toArray 83) := fun W q => q.u8 hBw _ hk0 hk1 (by simp only [List.length_append, fixedB_len, l0]; omega)
  have C4 : Hid (∀ W, WB w W wb B (zs ++ fixedB 4 1 ++ t.target ++ fixedB t.kind 1) S w.heap.size t.row.toArray 83 → Calls Tryd.prog 105 #[.pointer (some ⟨wb, 0, none⟩), .string (strOfNums t.name)] W fun e w' => e = .returned (.tuple #[]) ∧ WB w w' wb B (zs ++ fixedB 4 1 ++ t.target ++ fixedB t.kind 1 ++ varB t.name.length ++ t.name) S w.heap.size t.row.toArray 83) := fun W q => q.text hBw _ hg.name.1 (by simp only [List.length_append, fixedB_len, l0]; omega)
  have C5 : Hid (∀ W, WB w W wb B (zs ++ fixedB 4 1 ++ t.target ++ fixedB t.kind 1 ++ varB t.name.length ++ t.name) S w.heap.size t.row.toArray 83 → Calls Tryd.prog 105 #[.pointer (some ⟨wb, 0, none⟩), .string (strOfNums t.who)] W fun e w' => e = .returned (.tuple #[]) ∧ WB w w' wb B (zs ++ fixedB 4 1 ++ t.target ++ fixedB t.kind 1 ++ varB t.name.length ++ t.name ++ varB t.who.length ++ t.who) S w.heap.size t.row.toArray 83) := fun W q => q.text hBw _ hg.who.1 (by simp only [List.length_append, fixedB_len, l0]; omega)
  have C6 : Hid (∀ W, WB w W wb B (zs ++ fixedB 4 1 ++ t.target ++ fixedB t.kind 1 ++ varB t.name.length ++ t.name ++ varB t.who.length ++ t.who) S w.heap.size t.row.toArray 83 → Calls Tryd.prog 113 #[.pointer (some ⟨wb, 0, none⟩), .int .u64 t.time] W fun e w' => e = .returned (.tuple #[]) ∧ WB w w' wb B (zs ++ fixedB 4 1 ++ t.target ++ fixedB t.kind 1 ++ varB t.name.length ++ t.name ++ varB t.who.length ++ t.who ++ fixedB t.time 8) S w.heap.size t.row.toArray 83) := fun W q => q.u64 hBw _ (by simp only [List.length_append, fixedB_len, l0]; omega)
  have C7 : Hid (∀ W, WB w W wb B (zs ++ fixedB 4 1 ++ t.target ++ fixedB t.kind 1 ++ varB t.name.length ++ t.name ++ varB t.who.length ++ t.who ++ fixedB t.time 8) S w.heap.size t.row.toArray 83 → Calls Tryd.prog 105 #[.pointer (some ⟨wb, 0, none⟩), .string (strOfNums t.text)] W fun e w' => e = .returned (.tuple #[]) ∧ WB w w' wb B (zs ++ fixedB 4 1 ++ t.target ++ fixedB t.kind 1 ++ varB t.name.length ++ t.name ++ varB t.who.length ++ t.who ++ fixedB t.time 8 ++ varB t.text.length ++ t.text) S w.heap.size t.row.toArray 83) := fun W q => q.text hBw _ hg.text.1 (by simp only [List.length_append, fixedB_len, l0]; omega)
  have hmw : IntKind.u8.wrap t.kind = t.kind := by rw [IntKind.wrap_u8]; omega
  clear h hg v1 v2 v3 hz
  rw [HE.out]
  clear HE
  generalize zs ++ fixedB 4 1 ++ t.target ++ fixedB t.kind 1 ++ varB t.name.length ++ t.name ++ varB t.who.length ++ t.who ++ fixedB t.time 8 ++ varB t.text.length ++ t.text = q7 at *
  generalize zs ++ fixedB 4 1 ++ t.target ++ fixedB t.kind 1 ++ varB t.name.length ++ t.name ++ varB t.who.length ++ t.who ++ fixedB t.time 8 = q6 at *
  generalize zs ++ fixedB 4 1 ++ t.target ++ fixedB t.kind 1 ++ varB t.name.length ++ t.name ++ varB t.who.length ++ t.who = q5 at *
  generalize zs ++ fixedB 4 1 ++ t.target ++ fixedB t.kind 1 ++ varB t.name.length ++ t.name = q4 at *
  generalize zs ++ fixedB 4 1 ++ t.target ++ fixedB t.kind 1 = q3 at *
  generalize zs ++ fixedB 4 1 ++ t.target = q2 at *
  generalize zs ++ fixedB 4 1 = q1 at *
  generalize t.row.toArray = tr at *
  generalize t.target.map (Value.int .u8) = tt at *
  generalize strOfNums t.name = sn at *
  generalize strOfNums t.who = sw at *
  generalize strOfNums t.text = st at *
  generalize t.time = tm at *
  generalize t.kind = kd at *
  go_enter Tryd.func117, Tryd.ntmps117
  go_wp2_with (first
    | (go_at_call 98; (with_reducible refine (C1.out _ H0.out).mono ?_); rintro e w1 ⟨rfl, hw1⟩; have H1 : Hid (WB w w1 wb B q1 S w.heap.size tr 83) := hw1; obtain ⟨a0, a1, a2, a3, a4, a5⟩ := HTC.out w1 hw1.block; clear hw1)
    | (go_at_call 99; (with_reducible refine (C2.out _ H1.out).mono ?_); rintro e w2 ⟨rfl, hw2⟩; have H2 : Hid (WB w w2 wb B q2 S w.heap.size tr 83) := hw2; obtain ⟨b0, b1, b2, b3, b4, b5⟩ := HTC.out w2 hw2.block; clear hw2)
    | (go_at_call 98; (with_reducible refine (C3.out _ H2.out).mono ?_); rintro e w3 ⟨rfl, hw3⟩; have H3 : Hid (WB w w3 wb B q3 S w.heap.size tr 83) := hw3; obtain ⟨c0, c1, c2, c3, c4, c5⟩ := HTC.out w3 hw3.block; clear hw3)
    | (go_at_call 105; (with_reducible refine (C4.out _ H3.out).mono ?_); rintro e w4 ⟨rfl, hw4⟩; have H4 : Hid (WB w w4 wb B q4 S w.heap.size tr 83) := hw4; obtain ⟨d0, d1, d2, d3, d4, d5⟩ := HTC.out w4 hw4.block; clear hw4)
    | (go_at_call 105; (with_reducible refine (C5.out _ H4.out).mono ?_); rintro e w5 ⟨rfl, hw5⟩; have H5 : Hid (WB w w5 wb B q5 S w.heap.size tr 83) := hw5; obtain ⟨e0, e1, e2, e3, e4, e5⟩ := HTC.out w5 hw5.block; clear hw5)
    | (go_at_call 113; (with_reducible refine (C6.out _ H5.out).mono ?_); rintro e w6 ⟨rfl, hw6⟩; have H6 : Hid (WB w w6 wb B q6 S w.heap.size tr 83) := hw6; obtain ⟨f0, f1, f2, f3, f4, f5⟩ := HTC.out w6 hw6.block; clear hw6)
    | (go_at_call 105; (with_reducible refine (C7.out _ H6.out).mono ?_); rintro e w7 ⟨rfl, hw7⟩; have H7 : Hid (WB w w7 wb B q7 S w.heap.size tr 83) := hw7; clear hw7))
  go_end0
  exact ⟨rfl, H7.out.wrote⟩
end Go.Proofs.YtnfbiemmdaenpaaDoor

namespace Go.Proofs.YtnfbiemmdaenpaaDoor
open Go.RowKit

theorem fill_nil (place : Nat → Option (Nat × Nat)) (cells : Array Value) : Instr.fill place cells [] = some cells := rfl
set_option maxRecDepth 100000 in
theorem wpList_build_link1 {ops : Array Oper} {rest : List Oper} {o : Oper} {a : Act} {w : World} {Q : Exit → Act → World → Prop} (hgd : o.guard = none) (x : Operand) (ho : o.op = .buildSlice 52 1 #[(0, x)])
    (k : LinkL) (hg : k.id.length = 32) (hx : a.eval x = .agg k.row.toArray)
    (h : wpList Tryd.prog ops Q rest (a.put o.dst (.slice (some ⟨w.heap.size, 0, none⟩) 1 1)) (w.alloc (.cells k.row.toArray 56))) : wpList Tryd.prog ops Q (o :: rest) a w := by
  obtain ⟨i0, hi, he⟩ := Option.map_eq_some_iff.1 Tryd.zeroLink
  simp only [Prod.mk.injEq] at he
  obtain ⟨hz0, hz1, hz2⟩ := he
  have hkl : k.row.length = 33 := by simp [LinkL.row, hg]
  refine wpList_buildSlice hgd 52 56 1 _ ho k.row.toArray i0 (.agg zeroK.row.toArray) Tryd.underlying52 hi hz0 (by rw [hz1]; decide) (by rw [hz1]; decide) ?_ h
  rw [hz1]
  have e1 : ((#[(0, x)] : Array (Nat × Operand)).map fun (i, x) => (i, a.eval x)).toList = [(0, .agg k.row.toArray)] := by simp [hx]
  rw [e1, fill_step (fun i => some (i * 33, 33)) _ 0 (.agg k.row.toArray) _ 0 33 rfl (by show k.row.toArray.size = 33; rw [List.size_toArray, hkl]) (by simp)]
  rw [fill_nil]
  refine congrArg some ?_
  have e2 : (Value.agg k.row.toArray).cells.toList = k.row := rfl
  rw [e2]
  obtain ⟨s1, s2⟩ := setL_spec k.row 0 ((Array.range (1 * 33)).map ((Value.agg zeroK.row.toArray).cells[· % (Value.agg zeroK.row.toArray).cells.size]!))
  apply Array.ext_getElem?
  intro j
  have e3 : k.row.toArray[j]? = k.row[j]? := by simp
  rw [s2 j, e3, hkl, Array.size_map, Array.size_range]
  by_cases hj : j < 33
  · rw [if_pos ⟨Nat.zero_le _, by omega, by omega⟩, Nat.sub_zero]
  · rw [if_neg (by omega), List.getElem?_eq_none (by omega), Array.getElem?_eq_none (by rw [Array.size_map, Array.size_range]; omega)]

set_option maxRecDepth 100000 in
set_option maxHeartbeats 1000000 in
theorem tagChildren_any (t : TagL) (w : World) (hg : t.Good) :
    Calls Tryd.prog 115 #[.agg t.row.toArray] w fun e w' => ∃ b, e = .returned (.slice (some ⟨b, 0, none⟩) 1 1) ∧ RowsIn w' b 56 [(LinkL.mk t.target t.kind).row] ∧ w.heap.size ≤ b ∧ Kept [] w w' := by
  obtain ⟨c0, c1, c2, c3, c4, c5⟩ := tag_cells hg.target.1 (heap_alloc_new w (.cells t.row.toArray 83))
  have hbl := built_link t.target hg.target.1 t.kind
  have hsi : (Tryd.prog.info? 25).map (·.size) = some (t.target.map (Value.int .u8)).length := by rw [List.length_map, hg.target.1]; exact Tryd.infoID
  have hmid : (t.target.map (Value.int .u8)).toArray = idC t.target := rfl
  have hl := hg.target.1
  clear hg
  generalize t.row.toArray = tr at *
  have HF : Hid (RowsIn ((w.alloc (.cells tr 83)).alloc (.cells (LinkL.mk t.target t.kind).row.toArray 56)) (w.heap.size + 1) 56 [(LinkL.mk t.target t.kind).row]) := by
    have h := heap_alloc_new (w.alloc (.cells tr 83)) (.cells (LinkL.mk t.target t.kind).row.toArray 56)
    rw [World.size_alloc] at h
    unfold RowsIn
    rw [List.flatten_singleton]
    exact h
  go_enter Tryd.func115, Tryd.ntmps115
  go_wp2_with (first
    | (refine wpList_load_mid (by rfl) 25 (.tmp 3) (by rfl) w.heap.size 0 (by rfl) (t.target.map (Value.int .u8)) _ c0 Tryd.underlying25 rfl hsi ?_; rw [hmid])
    | (refine wpList_build_some (by rfl) 56 _ (by rfl) (LinkL.mk t.target t.kind).row.toArray (by simp; exact hbl) ?_)
    | (refine wpList_build_link1 (by rfl) (.tmp 7) (by rfl) (LinkL.mk t.target t.kind) hl (by rfl) ?_))
  go_ret
  exact ⟨w.heap.size + 1, by simp, HF.out, by omega, ((Kept.refl _ _).alloc _).alloc _⟩

/-- A Reader, and two variables beside it, since w0. -/
structure RV (w0 W : World) (r g : Nat) (xs : List Int) (p q b0 b1 : Nat) (c0 c1 : Array Value) (ty : TypeId) : Prop where
  rd : Rdr W r g xs p q
  v0 : W.heap[b0]? = some (.cells c0 ty (0, 0))
  v1 : W.heap[b1]? = some (.cells c1 ty (0, 0))
  keep : Kept [r] w0 W
  a0 : w0.heap.size ≤ b0
  a1 : b0 < b1
  rl : r < w0.heap.size
  gl : g < w0.heap.size
section
variable {w0 W W' : World} {r g : Nat} {xs : List Int} {p q p' q' b0 b1 : Nat} {c0 c1 : Array Value} {ty : TypeId}
theorem RV.step (h : RV w0 W r g xs p q b0 b1 c0 c1 ty) (hr : Rdr W' r g xs p' q') (k : Kept [r] W W') : RV w0 W' r g xs p' q' b0 b1 c0 c1 ty :=
  ⟨hr, k.heap h.v0 (by have := h.a0; have := h.rl; simp; omega), k.heap h.v1 (by have := h.a0; have := h.a1; have := h.rl; simp; omega), h.keep.then k, h.a0, h.a1, h.rl, h.gl⟩
theorem RV.set (h : RV w0 W r g xs p q b0 b1 c0 c1 ty) (o : Nat) (v : Value) : RV w0 (W.setCell ⟨b1, o, none⟩ v) r g xs p q b0 b1 c0 (c1.setIfInBounds o v) ty := by
  have h1 := h.a0
  have h2 := h.a1
  have h3 := h.rl
  have h4 := h.gl
  have k : Kept [b1] W (W.setCell ⟨b1, o, none⟩ v) := (Kept.refl _ _).setCell (Or.inl (by simp)) _
  exact ⟨h.rd.kept k (by simp; omega) (by simp; omega), k.heap h.v0 (by simp; omega), heap_setCell_same _ _ _ _ _ _ h.v1, h.keep.setCell (Or.inr (by show w0.heap.size ≤ b1; omega)) _, h1, h2, h3, h4⟩
end

def zeroG : TagL := ⟨zero32, 0, [], [], 0, []⟩
theorem Tryd.zeroTag : (Tryd.prog.info? 83).map (fun i => (i.zero, i.size)) = some (some (.agg zeroG.row.toArray), 37) := by kernel_rfl
theorem Tryd.builtTag (parts : List (Nat × Value)) : Tryd.prog.built 83 parts = Instr.fill (fun i => (#[(0, 32), (32, 1), (33, 1), (34, 1), (35, 1), (36, 1)] : Array (Nat × Nat))[i]?) zeroG.row.toArray parts := by kernel_rfl
theorem built_tag (id : List Int) (hi : id.length = 32) : Tryd.prog.built 83 [(0, .agg (idC id))] = some (TagL.mk id 0 [] [] 0 []).row.toArray := by
  rw [Tryd.builtTag, fill_step (fun i => (#[(0, 32), (32, 1), (33, 1), (34, 1), (35, 1), (36, 1)] : Array (Nat × Nat))[i]?) zeroG.row.toArray 0 (.agg (idC id)) _ 0 32 rfl (idC_size hi) (by decide), fill_nil]
  have e : (Value.agg (idC id)).cells.toList = id.map (Value.int .u8) := rfl
  rw [e, setL_put _ _ _ (by rw [List.length_map, hi]; decide)]
  congr 2
  unfold putL TagL.row zeroG
  simp [zero32, hi]
theorem tag_set (t : TagL) (hl : t.target.length = 32) : (∀ k, t.row.toArray.setIfInBounds 32 (.int .i64 k) = ({ t with kind := k } : TagL).row.toArray) ∧ (∀ s, t.row.toArray.setIfInBounds 33 (.string (strOfNums s)) = ({ t with name := s } : TagL).row.toArray) ∧
    (∀ s, t.row.toArray.setIfInBounds 34 (.string (strOfNums s)) = ({ t with who := s } : TagL).row.toArray) ∧ (∀ k, t.row.toArray.setIfInBounds 35 (.int .u64 k) = ({ t with time := k } : TagL).row.toArray) ∧
    (∀ s, t.row.toArray.setIfInBounds 36 (.string (strOfNums s)) = ({ t with text := s } : TagL).row.toArray) := by
  have hm : (t.target.map (Value.int .u8)).length = 32 := by rw [List.length_map, hl]
  refine ⟨fun k => ?_, fun k => ?_, fun k => ?_, fun k => ?_, fun k => ?_⟩
  all_goals
    unfold TagL.row
    rw [List.setIfInBounds_toArray, List.set_append_right _ _ (by omega), hm]
    rfl
theorem tag_len (t : TagL) (hl : t.target.length = 32) : t.row.toArray.size = 37 := by simp [TagL.row, hl]
theorem tag_one (t : TagL) : t.row.toArray.all (·.oneCell') = true := all_oneCell_toArray fun v hv => by
  unfold TagL.row at hv
  rcases List.mem_append.1 hv with h | h
  · exact map_oneCell _ v h
  · simp at h
    rcases h with rfl | rfl | rfl | rfl | rfl <;> rfl
end Go.Proofs.YtnfbiemmdaenpaaDoor
