/-
  WALKS: (object.tag).fault, write, children.
  WALKS: (object.tag).children, object.readTag.
  WALK: object.readTag.
  WALKS: slices.Index, slices.Contains of ids; commits: (object.commit).fault.
-/
import Derived.Test.YtfcoeinhfdbcgaaGreatDoorRe1
import Derived.Great.BuildSlice
import Derived.Test.YtfcoeinhfdbcgaaGreatDoorEqA
namespace Go.Proofs.YtfcoeinhfdbcgaaGreatDoor
open Go.RowKit

set_option maxRecDepth 100000 in
set_option maxHeartbeats 1000000 in
theorem tagFault_any (t : TagL) (w : World) (hT : Tabs w) (hg : t.Good) :
    Calls Tryz.prog 135 #[.agg t.row.toArray] w fun e w' => e = .returned (.int .i64 (faultG t)) ∧ Kept [] w w' := by
  obtain ⟨c0, c1, c2, c3, c4, c5⟩ := tag_cells hg.target.1 (heap_alloc_new w (.cells t.row.toArray 91))
  have HK0 : Hid (Kept [] w (w.alloc (.cells t.row.toArray 91))) := (Kept.refl _ _).alloc _
  have hname := Name_any t.name hg.name.1 (w.alloc (.cells t.row.toArray 91)) (Nat.le_trans hg.name.2 (by decide)) (hT.kept HK0.out)
  have HSG : Hid (∀ W, Kept [] w W → Calls Tryz.prog 131 #[.string (strOfNums t.who), .int .u64 t.time, .string (strOfNums t.text)] W fun e w' => e = .returned (.int .i64 (if signB t.who t.time t.text = false then 36 else 0)) ∧ Kept [] W w') := fun W hW => signFault_any t.who t.time t.text W (hT.kept hW) hg.who hg.t0 hg.t1
  have HB : Hid ((w.alloc (.cells t.row.toArray 91)).heap[w.heap.size]? = some (.cells t.row.toArray 91 (0, 0))) := heap_alloc_new w _
  have HTC : Hid (∀ W : World, W.heap[w.heap.size]? = some (.cells t.row.toArray 91 (0, 0)) → W.cell? ⟨w.heap.size, 34, none⟩ = some (.string (strOfNums t.who)) ∧ W.cell? ⟨w.heap.size, 35, none⟩ = some (.int .u64 t.time) ∧ W.cell? ⟨w.heap.size, 36, none⟩ = some (.string (strOfNums t.text))) := fun W hW => (tag_cells hg.target.1 hW).2.2.2
  obtain ⟨rv, hrv⟩ : ∃ rv : Int, rv = faultG t := ⟨_, rfl⟩
  rw [← hrv]
  have HRV : Hid (rv = if modeB t.kind = false then 30 else if nameB t.name = false then 32 else if signB t.who t.time t.text = false then 36 else 0) := hrv
  have hlo := hg.lo
  have hhi := hg.hi
  obtain ⟨sv, hsv⟩ : ∃ sv : Int, sv = if signB t.who t.time t.text = false then 36 else 0 := ⟨_, rfl⟩
  rw [← hsv] at HSG HRV
  have hd : decide (t.kind < 1) = true ∧ modeB t.kind = false ∨ decide (t.kind < 1) = false ∧ decide (4 < t.kind) = true ∧ modeB t.kind = false ∨ decide (t.kind < 1) = false ∧ decide (4 < t.kind) = false ∧ modeB t.kind = true := by
    unfold modeB
    by_cases h1 : t.kind < 1
    · exact Or.inl ⟨decide_eq_true h1, by rw [decide_eq_false (by omega)]; rfl⟩
    · by_cases h2 : 4 < t.kind
      · exact Or.inr (Or.inl ⟨decide_eq_false h1, decide_eq_true h2, by rw [decide_eq_false (by omega : ¬ t.kind ≤ 4)]; simp⟩)
      · exact Or.inr (Or.inr ⟨decide_eq_false h1, decide_eq_false h2, by rw [decide_eq_true (by omega : 1 ≤ t.kind), decide_eq_true (by omega : t.kind ≤ 4)]; rfl⟩)
  clear hrv hsv hg hT
  generalize t.row.toArray = tr at *
  generalize t.kind = kd at *
  generalize strOfNums t.name = sn at *
  generalize strOfNums t.who = sw at *
  generalize strOfNums t.text = st at *
  generalize nameB t.name = nb at *
  rcases hd with ⟨h1, h2⟩ | ⟨h1, h2, h3⟩ | ⟨h1, h2, h3⟩
  · rw [h2] at HRV
    go_enter Tryz.func135, Tryz.ntmps135
    go_wp2
    go_ret
    exact ⟨by rw [HRV.out]; rfl, HK0.out⟩
  · rw [h3] at HRV
    go_enter Tryz.func135, Tryz.ntmps135
    go_wp2
    go_ret
    exact ⟨by rw [HRV.out]; rfl, HK0.out⟩
  · rw [h3] at HRV
    cases nb
    · go_enter Tryz.func135, Tryz.ntmps135
      go_wp2_with (go_at_call 12; refine hname.mono ?_; rintro e w1 ⟨rfl, hk1⟩; have HK1 : Hid (Kept [] w w1) := HK0.out.then hk1; clear hk1)
      go_ret
      exact ⟨by rw [HRV.out]; rfl, HK1.out⟩
    · go_enter Tryz.func135, Tryz.ntmps135
      go_wp2_with (first
        | (go_at_call 12; refine hname.mono ?_; rintro e w1 ⟨rfl, hk1⟩
           have HK1 : Hid (Kept [] w w1) := HK0.out.then hk1
           obtain ⟨d3, d4, d5⟩ := HTC.out w1 (hk1.heap HB.out (by simp))
           clear hk1)
        | (go_at_call 131; refine (HSG.out _ HK1.out).mono ?_; rintro e w2 ⟨rfl, hk2⟩
           have HK2 : Hid (Kept [] w w2) := HK1.out.then hk2
           clear hk2))
      go_ret
      exact ⟨by rw [HRV.out]; rfl, HK2.out⟩

/-- A tag's encoding. -/
def encG (t : TagL) : List Int := fixedB 4 1 ++ t.target ++ fixedB t.kind 1 ++ varB t.name.length ++ t.name ++ varB t.who.length ++ t.who ++ fixedB t.time 8 ++ varB t.text.length ++ t.text

set_option maxRecDepth 100000 in
set_option maxHeartbeats 1000000 in
theorem tagWrite_any (t : TagL) {w : World} {wb B : Nat} {zs : List Int} {S : List Nat} (h : WAt w wb B zs S) (hBw : B ≤ w.heap.size) (hg : t.Good) (hk0 : 0 ≤ t.kind) (hk1 : t.kind ≤ 255) (hz : zs.length + t.name.length + t.who.length + t.text.length ≤ 100000000) :
    Calls Tryz.prog 136 #[.agg t.row.toArray, .pointer (some ⟨wb, 0, none⟩)] w fun e w' => e = .returned (.tuple #[]) ∧ Wrote w w' wb B (zs ++ encG t) S := by
  have HE : Hid (zs ++ encG t = zs ++ fixedB 4 1 ++ t.target ++ fixedB t.kind 1 ++ varB t.name.length ++ t.name ++ varB t.who.length ++ t.who ++ fixedB t.time 8 ++ varB t.text.length ++ t.text) := by
    have : zs ++ encG t = zs ++ fixedB 4 1 ++ t.target ++ fixedB t.kind 1 ++ varB t.name.length ++ t.name ++ varB t.who.length ++ t.who ++ fixedB t.time 8 ++ varB t.text.length ++ t.text := by unfold encG; simp only [List.append_assoc]
    exact this
  have v1 := varB_len (t.name.length : Int) (by omega) (by omega)
  have v2 := varB_len (t.who.length : Int) (by omega) (by omega)
  have v3 := varB_len (t.text.length : Int) (by omega) (by omega)
  have l0 := hg.target.1
  have H0 : Hid (WB w (w.alloc (.cells t.row.toArray 91)) wb B zs S w.heap.size t.row.toArray 91) := WB.start h _ _
  have HTC : Hid (∀ W : World, W.heap[w.heap.size]? = some (.cells t.row.toArray 91 (0, 0)) → W.rangeAt w.heap.size 0 (t.target.map (Value.int .u8)) ∧ W.cell? ⟨w.heap.size, 32, none⟩ = some (.int .i64 t.kind) ∧ W.cell? ⟨w.heap.size, 33, none⟩ = some (.string (strOfNums t.name)) ∧ W.cell? ⟨w.heap.size, 34, none⟩ = some (.string (strOfNums t.who)) ∧ W.cell? ⟨w.heap.size, 35, none⟩ = some (.int .u64 t.time) ∧ W.cell? ⟨w.heap.size, 36, none⟩ = some (.string (strOfNums t.text))) := fun W hW => tag_cells hg.target.1 hW
  have hsl := fun W => slice_id w.heap.size 0 W
  have C1 : Hid (∀ W, WB w W wb B zs S w.heap.size t.row.toArray 91 → Calls Tryz.prog 117 #[.pointer (some ⟨wb, 0, none⟩), .int .u8 4] W fun e w' => e = .returned (.tuple #[]) ∧ WB w w' wb B (zs ++ fixedB 4 1) S w.heap.size t.row.toArray 91) := fun W q => q.u8 hBw 4 (by decide) (by decide) (by omega)
  have C2 : Hid (∀ W, WB w W wb B (zs ++ fixedB 4 1) S w.heap.size t.row.toArray 91 → Calls Tryz.prog 118 #[.pointer (some ⟨wb, 0, none⟩), .slice (some ⟨w.heap.size, 0, none⟩) 32 32] W fun e w' => e = .returned (.tuple #[]) ∧ WB w w' wb B (zs ++ fixedB 4 1 ++ t.target) S w.heap.size t.row.toArray 91) := fun W q => by
    have hb := range_bytes (HTC.out W q.block).1
    rw [l0] at hb
    exact q.raw hBw _ _ hb hg.target.2 (by simp only [List.length_append, fixedB_len, l0]; omega)
  have C3 : Hid (∀ W, WB w W wb B (zs ++ fixedB 4 1 ++ t.target) S w.heap.size t.row.toArray 91 → Calls Tryz.prog 117 #[.pointer (some ⟨wb, 0, none⟩), .int .u8 t.kind] W fun e w' => e = .returned (.tuple #[]) ∧ WB w w' wb B (zs ++ fixedB 4 1 ++ t.target ++ fixedB t.kind 1) S w.heap.size t.row.toArray 91) := fun W q => q.u8 hBw _ hk0 hk1 (by simp only [List.length_append, fixedB_len, l0]; omega)
  have C4 : Hid (∀ W, WB w W wb B (zs ++ fixedB 4 1 ++ t.target ++ fixedB t.kind 1) S w.heap.size t.row.toArray 91 → Calls Tryz.prog 124 #[.pointer (some ⟨wb, 0, none⟩), .string (strOfNums t.name)] W fun e w' => e = .returned (.tuple #[]) ∧ WB w w' wb B (zs ++ fixedB 4 1 ++ t.target ++ fixedB t.kind 1 ++ varB t.name.length ++ t.name) S w.heap.size t.row.toArray 91) := fun W q => q.text hBw _ hg.name.1 (by simp only [List.length_append, fixedB_len, l0]; omega)
  have C5 : Hid (∀ W, WB w W wb B (zs ++ fixedB 4 1 ++ t.target ++ fixedB t.kind 1 ++ varB t.name.length ++ t.name) S w.heap.size t.row.toArray 91 → Calls Tryz.prog 124 #[.pointer (some ⟨wb, 0, none⟩), .string (strOfNums t.who)] W fun e w' => e = .returned (.tuple #[]) ∧ WB w w' wb B (zs ++ fixedB 4 1 ++ t.target ++ fixedB t.kind 1 ++ varB t.name.length ++ t.name ++ varB t.who.length ++ t.who) S w.heap.size t.row.toArray 91) := fun W q => q.text hBw _ hg.who.1 (by simp only [List.length_append, fixedB_len, l0]; omega)
  have C6 : Hid (∀ W, WB w W wb B (zs ++ fixedB 4 1 ++ t.target ++ fixedB t.kind 1 ++ varB t.name.length ++ t.name ++ varB t.who.length ++ t.who) S w.heap.size t.row.toArray 91 → Calls Tryz.prog 132 #[.pointer (some ⟨wb, 0, none⟩), .int .u64 t.time] W fun e w' => e = .returned (.tuple #[]) ∧ WB w w' wb B (zs ++ fixedB 4 1 ++ t.target ++ fixedB t.kind 1 ++ varB t.name.length ++ t.name ++ varB t.who.length ++ t.who ++ fixedB t.time 8) S w.heap.size t.row.toArray 91) := fun W q => q.u64 hBw _ (by simp only [List.length_append, fixedB_len, l0]; omega)
  have C7 : Hid (∀ W, WB w W wb B (zs ++ fixedB 4 1 ++ t.target ++ fixedB t.kind 1 ++ varB t.name.length ++ t.name ++ varB t.who.length ++ t.who ++ fixedB t.time 8) S w.heap.size t.row.toArray 91 → Calls Tryz.prog 124 #[.pointer (some ⟨wb, 0, none⟩), .string (strOfNums t.text)] W fun e w' => e = .returned (.tuple #[]) ∧ WB w w' wb B (zs ++ fixedB 4 1 ++ t.target ++ fixedB t.kind 1 ++ varB t.name.length ++ t.name ++ varB t.who.length ++ t.who ++ fixedB t.time 8 ++ varB t.text.length ++ t.text) S w.heap.size t.row.toArray 91) := fun W q => q.text hBw _ hg.text.1 (by simp only [List.length_append, fixedB_len, l0]; omega)
  have hmw : IntKind.u8.wrap t.kind = t.kind := by rw [IntKind.wrap_u8]; omega
  clear h hg v1 v2 v3 hz
  rw [HE.out]
  clear HE
  generalize zs ++ fixedB 4 1 ++ t.target ++ fixedB t.kind 1 ++ varB t.name.length ++ t.name ++ varB t.who.length ++ t.who ++ fixedB t.time 8 ++ varB t.text.length ++ t.text = q7 at *
  generalize zs ++ fixedB 4 1 ++ t.target ++ fixedB t.kind 1 ++ varB t.name.length ++ t.name ++ varB t.who.length ++ t.who ++ fixedB t.time 8 = q6 at *
  generalize zs ++ fixedB 4 1 ++ t.target ++ fixedB t.kind 1 ++ varB t.name.length ++ t.name ++ varB t.who.length ++ t.who = q5 at *
  generalize zs ++ fixedB 4 1 ++ t.target ++ fixedB t.kind 1 ++ varB t.name.length ++ t.name = q4 at *
  generalize zs ++ fixedB 4 1 ++ t.target ++ fixedB t.kind 1 = q3 at *
  generalize zs ++ fixedB 4 1 ++ t.target = q2 at *
  generalize zs ++ fixedB 4 1 = q1 at *
  generalize t.row.toArray = tr at *
  generalize t.target.map (Value.int .u8) = tt at *
  generalize strOfNums t.name = sn at *
  generalize strOfNums t.who = sw at *
  generalize strOfNums t.text = st at *
  generalize t.time = tm at *
  generalize t.kind = kd at *
  go_enter Tryz.func136, Tryz.ntmps136
  go_wp2_with (first
    | (go_at_call 117; (with_reducible refine (C1.out _ H0.out).mono ?_); rintro e w1 ⟨rfl, hw1⟩; have H1 : Hid (WB w w1 wb B q1 S w.heap.size tr 91) := hw1; obtain ⟨a0, a1, a2, a3, a4, a5⟩ := HTC.out w1 hw1.block; clear hw1)
    | (go_at_call 118; (with_reducible refine (C2.out _ H1.out).mono ?_); rintro e w2 ⟨rfl, hw2⟩; have H2 : Hid (WB w w2 wb B q2 S w.heap.size tr 91) := hw2; obtain ⟨b0, b1, b2, b3, b4, b5⟩ := HTC.out w2 hw2.block; clear hw2)
    | (go_at_call 117; (with_reducible refine (C3.out _ H2.out).mono ?_); rintro e w3 ⟨rfl, hw3⟩; have H3 : Hid (WB w w3 wb B q3 S w.heap.size tr 91) := hw3; obtain ⟨c0, c1, c2, c3, c4, c5⟩ := HTC.out w3 hw3.block; clear hw3)
    | (go_at_call 124; (with_reducible refine (C4.out _ H3.out).mono ?_); rintro e w4 ⟨rfl, hw4⟩; have H4 : Hid (WB w w4 wb B q4 S w.heap.size tr 91) := hw4; obtain ⟨d0, d1, d2, d3, d4, d5⟩ := HTC.out w4 hw4.block; clear hw4)
    | (go_at_call 124; (with_reducible refine (C5.out _ H4.out).mono ?_); rintro e w5 ⟨rfl, hw5⟩; have H5 : Hid (WB w w5 wb B q5 S w.heap.size tr 91) := hw5; obtain ⟨e0, e1, e2, e3, e4, e5⟩ := HTC.out w5 hw5.block; clear hw5)
    | (go_at_call 132; (with_reducible refine (C6.out _ H5.out).mono ?_); rintro e w6 ⟨rfl, hw6⟩; have H6 : Hid (WB w w6 wb B q6 S w.heap.size tr 91) := hw6; obtain ⟨f0, f1, f2, f3, f4, f5⟩ := HTC.out w6 hw6.block; clear hw6)
    | (go_at_call 124; (with_reducible refine (C7.out _ H6.out).mono ?_); rintro e w7 ⟨rfl, hw7⟩; have H7 : Hid (WB w w7 wb B q7 S w.heap.size tr 91) := hw7; clear hw7))
  go_end0
  exact ⟨rfl, H7.out.wrote⟩
end Go.Proofs.YtfcoeinhfdbcgaaGreatDoor

namespace Go.Proofs.YtfcoeinhfdbcgaaGreatDoor
open Go.RowKit

theorem fill_nil (place : Nat → Option (Nat × Nat)) (cells : Array Value) : Instr.fill place cells [] = some cells := rfl
set_option maxRecDepth 100000 in
theorem wpList_build_link1 {ops : Array Oper} {rest : List Oper} {o : Oper} {a : Act} {w : World} {Q : Exit → Act → World → Prop} (hgd : o.guard = none) (x : Operand) (ho : o.op = .buildSlice 47 1 #[(0, x)])
    (k : LinkL) (hg : k.id.length = 32) (hx : a.eval x = .agg k.row.toArray)
    (h : wpList Tryz.prog ops Q rest (a.put o.dst (.slice (some ⟨w.heap.size, 0, none⟩) 1 1)) (w.alloc (.cells k.row.toArray 52))) : wpList Tryz.prog ops Q (o :: rest) a w := by
  obtain ⟨i0, hi, he⟩ := Option.map_eq_some_iff.1 Tryz.zeroLink
  simp only [Prod.mk.injEq] at he
  obtain ⟨hz0, hz1, hz2⟩ := he
  have hkl : k.row.length = 33 := by simp [LinkL.row, hg]
  refine wpList_buildSlice hgd 47 52 1 _ ho k.row.toArray i0 (.agg zeroK.row.toArray) Tryz.underlying47 hi hz0 (by rw [hz1]; decide) (by rw [hz1]; decide) ?_ h
  rw [hz1]
  have e1 : ((#[(0, x)] : Array (Nat × Operand)).map fun (i, x) => (i, a.eval x)).toList = [(0, .agg k.row.toArray)] := by simp [hx]
  rw [e1, fill_step (fun i => some (i * 33, 33)) _ 0 (.agg k.row.toArray) _ 0 33 rfl (by show k.row.toArray.size = 33; rw [List.size_toArray, hkl]) (by simp)]
  rw [fill_nil]
  refine congrArg some ?_
  have e2 : (Value.agg k.row.toArray).cells.toList = k.row := rfl
  rw [e2]
  obtain ⟨s1, s2⟩ := setL_spec k.row 0 ((Array.range (1 * 33)).map ((Value.agg zeroK.row.toArray).cells[· % (Value.agg zeroK.row.toArray).cells.size]!))
  apply Array.ext_getElem?
  intro j
  have e3 : k.row.toArray[j]? = k.row[j]? := by simp
  rw [s2 j, e3, hkl, Array.size_map, Array.size_range]
  by_cases hj : j < 33
  · rw [if_pos ⟨Nat.zero_le _, by omega, by omega⟩, Nat.sub_zero]
  · rw [if_neg (by omega), List.getElem?_eq_none (by omega), Array.getElem?_eq_none (by rw [Array.size_map, Array.size_range]; omega)]

set_option maxRecDepth 100000 in
set_option maxHeartbeats 1000000 in
theorem tagChildren_any (t : TagL) (w : World) (hg : t.Good) :
    Calls Tryz.prog 134 #[.agg t.row.toArray] w fun e w' => ∃ b, e = .returned (.slice (some ⟨b, 0, none⟩) 1 1) ∧ RowsIn w' b 52 [(LinkL.mk t.target t.kind).row] ∧ w.heap.size ≤ b ∧ Kept [] w w' := by
  obtain ⟨c0, c1, c2, c3, c4, c5⟩ := tag_cells hg.target.1 (heap_alloc_new w (.cells t.row.toArray 91))
  have hbl := built_link t.target hg.target.1 t.kind
  have hsi : (Tryz.prog.info? 29).map (·.size) = some (t.target.map (Value.int .u8)).length := by rw [List.length_map, hg.target.1]; exact Tryz.infoID
  have hmid : (t.target.map (Value.int .u8)).toArray = idC t.target := rfl
  have hl := hg.target.1
  clear hg
  generalize t.row.toArray = tr at *
  have HF : Hid (RowsIn ((w.alloc (.cells tr 91)).alloc (.cells (LinkL.mk t.target t.kind).row.toArray 52)) (w.heap.size + 1) 52 [(LinkL.mk t.target t.kind).row]) := by
    have h := heap_alloc_new (w.alloc (.cells tr 91)) (.cells (LinkL.mk t.target t.kind).row.toArray 52)
    rw [World.size_alloc] at h
    unfold RowsIn
    rw [List.flatten_singleton]
    exact h
  go_enter Tryz.func134, Tryz.ntmps134
  go_wp2_with (first
    | (refine wpList_load_mid (by rfl) 29 (.tmp 3) (by rfl) w.heap.size 0 (by rfl) (t.target.map (Value.int .u8)) _ c0 Tryz.underlying29 rfl hsi ?_; rw [hmid])
    | (refine wpList_build_some (by rfl) 52 _ (by rfl) (LinkL.mk t.target t.kind).row.toArray (by simp; exact hbl) ?_)
    | (refine wpList_build_link1 (by rfl) (.tmp 7) (by rfl) (LinkL.mk t.target t.kind) hl (by rfl) ?_))
  go_ret
  exact ⟨w.heap.size + 1, by simp, HF.out, by omega, ((Kept.refl _ _).alloc _).alloc _⟩

/-- A Reader, and two variables beside it, since w0. -/
structure RV (w0 W : World) (r g : Nat) (xs : List Int) (p q b0 b1 : Nat) (c0 c1 : Array Value) (ty : TypeId) : Prop where
  rd : Rdr W r g xs p q
  v0 : W.heap[b0]? = some (.cells c0 ty (0, 0))
  v1 : W.heap[b1]? = some (.cells c1 ty (0, 0))
  keep : Kept [r] w0 W
  a0 : w0.heap.size ≤ b0
  a1 : b0 < b1
  rl : r < w0.heap.size
  gl : g < w0.heap.size
section
variable {w0 W W' : World} {r g : Nat} {xs : List Int} {p q p' q' b0 b1 : Nat} {c0 c1 : Array Value} {ty : TypeId}
theorem RV.step (h : RV w0 W r g xs p q b0 b1 c0 c1 ty) (hr : Rdr W' r g xs p' q') (k : Kept [r] W W') : RV w0 W' r g xs p' q' b0 b1 c0 c1 ty :=
  ⟨hr, k.heap h.v0 (by have := h.a0; have := h.rl; simp; omega), k.heap h.v1 (by have := h.a0; have := h.a1; have := h.rl; simp; omega), h.keep.then k, h.a0, h.a1, h.rl, h.gl⟩
theorem RV.set (h : RV w0 W r g xs p q b0 b1 c0 c1 ty) (o : Nat) (v : Value) : RV w0 (W.setCell ⟨b1, o, none⟩ v) r g xs p q b0 b1 c0 (c1.setIfInBounds o v) ty := by
  have h1 := h.a0
  have h2 := h.a1
  have h3 := h.rl
  have h4 := h.gl
  have k : Kept [b1] W (W.setCell ⟨b1, o, none⟩ v) := (Kept.refl _ _).setCell (Or.inl (by simp)) _
  exact ⟨h.rd.kept k (by simp; omega) (by simp; omega), k.heap h.v0 (by simp; omega), heap_setCell_same _ _ _ _ _ _ h.v1, h.keep.setCell (Or.inr (by show w0.heap.size ≤ b1; omega)) _, h1, h2, h3, h4⟩
end

def zeroG : TagL := ⟨zero32, 0, [], [], 0, []⟩
theorem Tryz.zeroTag : (Tryz.prog.info? 91).map (fun i => (i.zero, i.size)) = some (some (.agg zeroG.row.toArray), 37) := by kernel_rfl
theorem Tryz.builtTag (parts : List (Nat × Value)) : Tryz.prog.built 91 parts = Instr.fill (fun i => (#[(0, 32), (32, 1), (33, 1), (34, 1), (35, 1), (36, 1)] : Array (Nat × Nat))[i]?) zeroG.row.toArray parts := by kernel_rfl
theorem built_tag (id : List Int) (hi : id.length = 32) : Tryz.prog.built 91 [(0, .agg (idC id))] = some (TagL.mk id 0 [] [] 0 []).row.toArray := by
  rw [Tryz.builtTag, fill_step (fun i => (#[(0, 32), (32, 1), (33, 1), (34, 1), (35, 1), (36, 1)] : Array (Nat × Nat))[i]?) zeroG.row.toArray 0 (.agg (idC id)) _ 0 32 rfl (idC_size hi) (by decide), fill_nil]
  have e : (Value.agg (idC id)).cells.toList = id.map (Value.int .u8) := rfl
  rw [e, setL_put _ _ _ (by rw [List.length_map, hi]; decide)]
  congr 2
  unfold putL TagL.row zeroG
  simp [zero32, hi]
theorem tag_set (t : TagL) (hl : t.target.length = 32) : (∀ k, t.row.toArray.setIfInBounds 32 (.int .i64 k) = ({ t with kind := k } : TagL).row.toArray) ∧ (∀ s, t.row.toArray.setIfInBounds 33 (.string (strOfNums s)) = ({ t with name := s } : TagL).row.toArray) ∧
    (∀ s, t.row.toArray.setIfInBounds 34 (.string (strOfNums s)) = ({ t with who := s } : TagL).row.toArray) ∧ (∀ k, t.row.toArray.setIfInBounds 35 (.int .u64 k) = ({ t with time := k } : TagL).row.toArray) ∧
    (∀ s, t.row.toArray.setIfInBounds 36 (.string (strOfNums s)) = ({ t with text := s } : TagL).row.toArray) := by
  have hm : (t.target.map (Value.int .u8)).length = 32 := by rw [List.length_map, hl]
  refine ⟨fun k => ?_, fun k => ?_, fun k => ?_, fun k => ?_, fun k => ?_⟩
  all_goals
    unfold TagL.row
    rw [List.setIfInBounds_toArray, List.set_append_right _ _ (by omega), hm]
    rfl
theorem tag_len (t : TagL) (hl : t.target.length = 32) : t.row.toArray.size = 37 := by simp [TagL.row, hl]
theorem tag_one (t : TagL) : t.row.toArray.all (·.oneCell') = true := all_oneCell_toArray fun v hv => by
  unfold TagL.row at hv
  rcases List.mem_append.1 hv with h | h
  · exact map_oneCell _ v h
  · simp at h
    rcases h with rfl | rfl | rfl | rfl | rfl <;> rfl
end Go.Proofs.YtfcoeinhfdbcgaaGreatDoor

namespace Go.Proofs.YtfcoeinhfdbcgaaGreatDoor
open Go.RowKit

set_option maxRecDepth 100000 in
set_option maxHeartbeats 2000000 in
theorem readTag_any {w : World} {r g : Nat} {xs : List Int} {pl f : Nat} (R : Rdr w r g xs pl f) (y1 y2 y3 y4 y5 y6 : Took) (h1 : Hid (y1 = takeL xs pl f 3 32 0)) (h2 : Hid (y2 = takeL xs y1.pl y1.f 0 1 0)) (h3 : Hid (y3 = takeL xs y2.pl y2.f 2 0 255))
    (h4 : Hid (y4 = takeL xs y3.pl y3.f 2 0 255)) (h5 : Hid (y5 = takeL xs y4.pl y4.f 0 8 0)) (h6 : Hid (y6 = takeL xs y5.pl y5.f 2 0 4096)) :
    Calls Tryz.prog 49 #[.pointer (some ⟨r, 0, none⟩)] w fun e w' => e = .returned (.agg (TagL.mk (idOf y1.text) y2.n y3.text y4.text y5.n y6.text).row.toArray) ∧ Rdr w' r g xs y6.pl y6.f ∧ Kept [r] w w' := by
  have hl1 : (idOf y1.text).length = 32 := by rw [h1.out]; exact idOf_len (raw32_len _ _ _)
  have hb2 : 0 ≤ y2.n ∧ y2.n < 256 := by rw [h2.out]; exact take_lt xs R.oct _ _ 1
  have C1 : Hid (∀ W, Rdr W r g xs pl f → Calls Tryz.prog 75 #[.pointer (some ⟨r, 0, none⟩)] W fun e w' => e = .returned (.agg (idC (idOf y1.text))) ∧ Rdr w' r g xs y1.pl y1.f ∧ Kept [r] W w') := fun W hW => readID_any hW y1 h1
  have C2 : Hid (∀ W, Rdr W r g xs y1.pl y1.f → Calls Tryz.prog 44 #[.pointer (some ⟨r, 0, none⟩)] W fun e w' => e = .returned (.int .u8 y2.n) ∧ Rdr w' r g xs y2.pl y2.f ∧ Kept [r] W w') := fun W hW => U8_any hW y2 h2
  have C3 : Hid (∀ W, Rdr W r g xs y2.pl y2.f → Calls Tryz.prog 74 #[.pointer (some ⟨r, 0, none⟩), .int .i64 255] W fun e w' => e = .returned (.string (strOfNums y3.text)) ∧ Rdr w' r g xs y3.pl y3.f ∧ Kept [r] W w') := fun W hW => readText_any hW 255 (by decide) (by decide) y3 h3
  have C4 : Hid (∀ W, Rdr W r g xs y3.pl y3.f → Calls Tryz.prog 74 #[.pointer (some ⟨r, 0, none⟩), .int .i64 255] W fun e w' => e = .returned (.string (strOfNums y4.text)) ∧ Rdr w' r g xs y4.pl y4.f ∧ Kept [r] W w') := fun W hW => readText_any hW 255 (by decide) (by decide) y4 h4
  have C5 : Hid (∀ W, Rdr W r g xs y4.pl y4.f → Calls Tryz.prog 76 #[.pointer (some ⟨r, 0, none⟩)] W fun e w' => e = .returned (.int .u64 y5.n) ∧ Rdr w' r g xs y5.pl y5.f ∧ Kept [r] W w') := fun W hW => U64_any hW y5 h5
  have C6 : Hid (∀ W, Rdr W r g xs y5.pl y5.f → Calls Tryz.prog 74 #[.pointer (some ⟨r, 0, none⟩), .int .i64 4096] W fun e w' => e = .returned (.string (strOfNums y6.text)) ∧ Rdr w' r g xs y6.pl y6.f ∧ Kept [r] W w') := fun W hW => readText_any hW 4096 (by decide) (by decide) y6 h6
  have hrl := lt_of_block R.blk
  have hgl := lt_of_block R.row
  have HRa : Hid (Rdr (w.alloc (.cells zeroG.row.toArray 91)) r g xs pl f) := R.alloc _
  have HZ : Hid ((w.alloc (.cells zeroG.row.toArray 91)).heap[w.heap.size]? = some (.cells zeroG.row.toArray 91 (0, 0))) := heap_alloc_new w _
  have HKa : Hid (Kept [r] w (w.alloc (.cells zeroG.row.toArray 91))) := (Kept.refl _ _).alloc _
  have hbt := built_tag (idOf y1.text) hl1
  have hone1 : (TagL.mk (idOf y1.text) 0 [] [] 0 []).row.toArray.all (·.oneCell') = true := tag_one _
  have hone6 : (TagL.mk (idOf y1.text) y2.n y3.text y4.text y5.n y6.text).row.toArray.all (·.oneCell') = true := tag_one _
  have hs1 : (Tryz.prog.info? 91).map (·.size) = some (TagL.mk (idOf y1.text) 0 [] [] 0 []).row.toArray.size := by rw [tag_len _ hl1]; kernel_rfl
  have hs6 : (Tryz.prog.info? 91).map (·.size) = some (TagL.mk (idOf y1.text) y2.n y3.text y4.text y5.n y6.text).row.toArray.size := by rw [tag_len _ hl1]; kernel_rfl
  have hz1 : (TagL.mk (idOf y1.text) 0 [] [] 0 []).row.toArray.size = 37 := tag_len _ hl1
  have hz6 : zeroG.row.toArray.size = (TagL.mk (idOf y1.text) y2.n y3.text y4.text y5.n y6.text).row.toArray.size := by rw [tag_len (TagL.mk (idOf y1.text) y2.n y3.text y4.text y5.n y6.text) hl1]; rfl
  clear R h1 h2 h3 h4 h5 h6
  go_enter Tryz.func49, Tryz.ntmps49
  go_wp2_with (first
    | (go_at_call 75; refine (C1.out _ HRa.out).mono ?_; rintro e w1 ⟨rfl, hr1, hk1⟩
       have HZ1 : Hid (w1.heap[w.heap.size]? = some (.cells zeroG.row.toArray 91 (0, 0))) := hk1.heap HZ.out (by simp; omega)
       have HR1 : Hid (Rdr w1 r g xs y1.pl y1.f) := hr1
       have HK1 : Hid (Kept [r] (w.alloc (.cells zeroG.row.toArray 91)) w1) := hk1
       clear hr1 hk1)
    | (refine wpList_build_some (by rfl) 91 _ (by rfl) (TagL.mk (idOf y1.text) 0 [] [] 0 []).row.toArray (by simp; exact hbt) ?_)
    | (refine wpList_store_new (by rfl) 91 (.tmp 3) (.tmp 6) (by rfl) w1 _ (TagL.mk (idOf y1.text) 0 [] [] 0 []).row.toArray (by rfl) (by rfl) hs1 (by rw [hz1]; rfl) hone1 ?_
       have HV1 : Hid (RV w (w1.alloc (.cells (TagL.mk (idOf y1.text) 0 [] [] 0 []).row.toArray 91)) r g xs y1.pl y1.f w.heap.size w1.heap.size zeroG.row.toArray (TagL.mk (idOf y1.text) 0 [] [] 0 []).row.toArray 91) :=
         ⟨HR1.out.alloc _, (Below.heap_alloc _ _ _ (lt_of_block HZ1.out)).trans HZ1.out, heap_alloc_new w1 _, (HKa.out.then HK1.out).alloc _, Nat.le_refl _, lt_of_block HZ1.out, hrl, hgl⟩)
    | (go_at_call 44; (with_reducible refine (C2.out _ HV1.out.rd).mono ?_); rintro e w2 ⟨rfl, hr2, hk2⟩
       have hv2 := HV1.out.step hr2 hk2
       have d2 := (tag_cells (b := w1.heap.size) (t := TagL.mk (idOf y1.text) 0 [] [] 0 []) hl1 hv2.v1).2.1
       have f2 := frozen_of_row _ _ 32 _ _ hv2.v1
       have HV2 : Hid (RV w (w2.setCell ⟨w1.heap.size, 32, none⟩ (.int .i64 y2.n)) r g xs y2.pl y2.f w.heap.size w1.heap.size zeroG.row.toArray (TagL.mk (idOf y1.text) y2.n [] [] 0 []).row.toArray 91) := by
         have h := hv2.set 32 (.int .i64 y2.n)
         rw [(tag_set (TagL.mk (idOf y1.text) 0 [] [] 0 []) hl1).1] at h
         exact h
       clear hr2 hk2 hv2)
    | (go_at_call 74; (with_reducible refine (C3.out _ HV2.out.rd).mono ?_); rintro e w3 ⟨rfl, hr3, hk3⟩
       have hv3 := HV2.out.step hr3 hk3
       have d3 := (tag_cells (b := w1.heap.size) (t := TagL.mk (idOf y1.text) y2.n [] [] 0 []) hl1 hv3.v1).2.2.1
       have f3 := frozen_of_row _ _ 33 _ _ hv3.v1
       have HV3 : Hid (RV w (w3.setCell ⟨w1.heap.size, 33, none⟩ (.string (strOfNums y3.text))) r g xs y3.pl y3.f w.heap.size w1.heap.size zeroG.row.toArray (TagL.mk (idOf y1.text) y2.n y3.text [] 0 []).row.toArray 91) := by
         have h := hv3.set 33 (.string (strOfNums y3.text))
         rw [(tag_set (TagL.mk (idOf y1.text) y2.n [] [] 0 []) hl1).2.1] at h
         exact h
       clear hr3 hk3 hv3)
    | (go_at_call 74; (with_reducible refine (C4.out _ HV3.out.rd).mono ?_); rintro e w4 ⟨rfl, hr4, hk4⟩
       have hv4 := HV3.out.step hr4 hk4
       have d4 := (tag_cells (b := w1.heap.size) (t := TagL.mk (idOf y1.text) y2.n y3.text [] 0 []) hl1 hv4.v1).2.2.2.1
       have f4 := frozen_of_row _ _ 34 _ _ hv4.v1
       have HV4 : Hid (RV w (w4.setCell ⟨w1.heap.size, 34, none⟩ (.string (strOfNums y4.text))) r g xs y4.pl y4.f w.heap.size w1.heap.size zeroG.row.toArray (TagL.mk (idOf y1.text) y2.n y3.text y4.text 0 []).row.toArray 91) := by
         have h := hv4.set 34 (.string (strOfNums y4.text))
         rw [(tag_set (TagL.mk (idOf y1.text) y2.n y3.text [] 0 []) hl1).2.2.1] at h
         exact h
       clear hr4 hk4 hv4)
    | (go_at_call 76; (with_reducible refine (C5.out _ HV4.out.rd).mono ?_); rintro e w5 ⟨rfl, hr5, hk5⟩
       have hv5 := HV4.out.step hr5 hk5
       have d5 := (tag_cells (b := w1.heap.size) (t := TagL.mk (idOf y1.text) y2.n y3.text y4.text 0 []) hl1 hv5.v1).2.2.2.2.1
       have f5 := frozen_of_row _ _ 35 _ _ hv5.v1
       have HV5 : Hid (RV w (w5.setCell ⟨w1.heap.size, 35, none⟩ (.int .u64 y5.n)) r g xs y5.pl y5.f w.heap.size w1.heap.size zeroG.row.toArray (TagL.mk (idOf y1.text) y2.n y3.text y4.text y5.n []).row.toArray 91) := by
         have h := hv5.set 35 (.int .u64 y5.n)
         rw [(tag_set (TagL.mk (idOf y1.text) y2.n y3.text y4.text 0 []) hl1).2.2.2.1] at h
         exact h
       clear hr5 hk5 hv5)
    | (go_at_call 74; (with_reducible refine (C6.out _ HV5.out.rd).mono ?_); rintro e w6 ⟨rfl, hr6, hk6⟩
       have hv6 := HV5.out.step hr6 hk6
       have d6 := (tag_cells (b := w1.heap.size) (t := TagL.mk (idOf y1.text) y2.n y3.text y4.text y5.n []) hl1 hv6.v1).2.2.2.2.2
       have f6 := frozen_of_row _ _ 36 _ _ hv6.v1
       have HV6 : Hid (RV w (w6.setCell ⟨w1.heap.size, 36, none⟩ (.string (strOfNums y6.text))) r g xs y6.pl y6.f w.heap.size w1.heap.size zeroG.row.toArray (TagL.mk (idOf y1.text) y2.n y3.text y4.text y5.n y6.text).row.toArray 91) := by
         have h := hv6.set 36 (.string (strOfNums y6.text))
         rw [(tag_set (TagL.mk (idOf y1.text) y2.n y3.text y4.text y5.n []) hl1).2.2.2.2] at h
         exact h
       clear hr6 hk6 hv6)
    | (refine wpList_load_row (by rfl) 91 (.tmp 3) (by rfl) w1.heap.size (by rfl) 91 (TagL.mk (idOf y1.text) y2.n y3.text y4.text y5.n y6.text).row.toArray (0, 0) _ HV6.out.v1 Tryz.underlying91 rfl hs6 ?_)
    | (refine wpList_store_row (by rfl) 91 (.tmp 2) (.tmp 23) (by rfl) w.heap.size (TagL.mk (idOf y1.text) y2.n y3.text y4.text y5.n y6.text).row.toArray (by rfl) (by rfl) 91 _ HV6.out.v0 hs6 hz6 hone6 ?_))
  refine bodyPost_ret (v := .agg (TagL.mk (idOf y1.text) y2.n y3.text y4.text y5.n y6.text).row.toArray) ?_ rfl ⟨rfl, ?_, ?_⟩
  · rw [results_cell1 rfl]
    have hld := run_loadVar_row (P := Tryz.prog) ((w6.setCell ⟨w1.heap.size, 36, none⟩ (.string (strOfNums y6.text))).setRow w.heap.size (TagL.mk (idOf y1.text) y2.n y3.text y4.text y5.n y6.text).row.toArray) w.heap.size 91 91 (TagL.mk (idOf y1.text) y2.n y3.text y4.text y5.n y6.text).row.toArray (0, 0) _ (setRow_heap _ _ _ _ _ _ HV6.out.v0) Tryz.underlying91 rfl hs6
    exact hld
  · exact HV6.out.rd.below (below_setRow (Below.refl w.heap.size _) (Nat.le_refl _) _) hrl hgl
  · exact kept_below HV6.out.keep (below_setRow (Below.refl w.heap.size _) (Nat.le_refl _) _) (Nat.le_refl _)
end Go.Proofs.YtfcoeinhfdbcgaaGreatDoor

namespace Go.Proofs.YtfcoeinhfdbcgaaGreatDoor
open Go.RowKit

set_option maxRecDepth 100000 in
set_option maxHeartbeats 1000000 in
theorem Contains_ids (v : Value) (ids : List (List Int)) (id : List Int) (w : World) (hv : IdsAt w v ids) (hg : ∀ o, o ∈ ids → GoodID o) (hid : GoodID id) :
    Calls Tryz.prog 133 #[v, .agg (idC id)] w fun e w' => (∃ n : Int, e = .returned (.int .i64 n) ∧ -1 ≤ n ∧ decide (0 ≤ n) = decide (id ∈ ids)) ∧ Kept [] w w' := by
  have hsl : (Tryz.prog.info? 29).map (·.size) = some (id.map (Value.int .u8)).length := by rw [List.length_map, hid.1]; exact Tryz.infoID
  have HR : Hid (∀ W, Kept [] (w.alloc (.cells (idC id) 29)) W → W.rangeAt w.heap.size 0 (id.map (Value.int .u8))) := fun W k => range_kept (range_box w id 29) k (by simp)
  have HV : Hid (∀ W, Kept [] w W → IdsAt W v ids) := fun W k => hv.keep k (fun _ _ _ => by simp)
  have HG : Hid (∀ o, o ∈ ids → GoodID o) := hg
  have HD : Hid (GoodID id) := hid
  have hun := Tryz.underlying29
  obtain ⟨ao, cap, rfl, hcap, _, hlen, _⟩ := hv
  clear hg hid
  go_enter Tryz.func133, Tryz.ntmps133
  go_wp2
  go_loopw [5, 8] (fun _ s8 wr => ∃ k : Nat, k ≤ ids.length ∧ s8 = .int .i64 k ∧ Hid (∀ (i : Nat) (o : List Int), ids[i]? = some o → i < k → o ≠ id) ∧ Hid (Kept [] (w.alloc (.cells (idC id) 29)) wr)) (fun _ s8 _ => ids.length - (intOf s8).toNat)
  case atStart => exact ⟨0, Nat.zero_le _, rfl, fun i o _ h => absurd h (by omega), Kept.refl _ _⟩
  case round =>
    obtain ⟨k, hk, rfl, HN, HK⟩ := hrel
    by_cases hlt : k < ids.length
    · obtain ⟨o, ho⟩ : ∃ o, ids[k]? = some o := ⟨_, List.getElem?_eq_getElem hlt⟩
      have hgo := HG.out o (List.mem_of_getElem? ho)
      obtain ⟨ao', cap', he, _, _, _, hc⟩ := HV.out w (Kept.refl _ _)
      injection he with e1 e2 e3
      subst e1 e3
      obtain ⟨b, off, rfl, hh⟩ := hc (by rintro rfl; simp at hlt)
      have hr := hh k o ho
      have hso : (Tryz.prog.info? 29).map (·.size) = some (o.map (Value.int .u8)).length := by rw [List.length_map, hgo.1]; exact Tryz.infoID
      have heqf : ∀ W, (Op.equalIn 10000 29 (.agg (id.map (Value.int .u8)).toArray) (.agg (o.map (Value.int .u8)).toArray)).run Tryz.prog W = .ok (decide (id = o)) W := fun W => idEq id o W HD.out.1 hgo.1
      have HR1 : Hid (∀ W, Kept [] (w.alloc (.cells (idC id) 29)) W → W.rangeAt b (off + k * 32) (o.map (Value.int .u8))) := fun W hW => range_kept hr (((Kept.refl [] w).alloc _).then hW) (by simp)
      have HKW : Hid (∀ W, Kept [] (w.alloc (.cells (idC id) 29)) W → Kept [] w W) := fun W hW => ((Kept.refl [] w).alloc _).then hW
      clear hh hc hgo hr
      go_wp2_with fail
      refine region_quiet (Kept [] (w.alloc (.cells (idC id) 29))) (by kernel_rfl) (by kernel_rfl) HK.out.drew ?_
      refine quiet_row (by rfl) _ _ rfl w.heap.size 0 rfl (id.map (Value.int .u8)) _ HR.out hun rfl hsl ?_
      simp only [Act.put, List.setIfInBounds_toArray, List.set_cons_zero, List.set_cons_succ]
      refine quiet_move (by rfl) (.tmp 0) rfl (.slice (some ⟨b, off, none⟩) ids.length cap) rfl ?_
      simp only [Act.put, List.setIfInBounds_toArray, List.set_cons_zero, List.set_cons_succ]
      refine quiet_move (by rfl) (.tmp 5) rfl (.int .i64 k) rfl ?_
      simp only [Act.put, List.setIfInBounds_toArray, List.set_cons_zero, List.set_cons_succ]
      refine quiet_val (by rfl) (.pointer (some ⟨b, off + k * 32, none⟩)) (fun W => by go_simp) ?_
      simp only [Act.put, List.setIfInBounds_toArray, List.set_cons_zero, List.set_cons_succ]
      refine quiet_row (by rfl) _ _ rfl b (off + k * 32) rfl (o.map (Value.int .u8)) _ HR1.out hun rfl hso ?_
      simp only [Act.put, List.setIfInBounds_toArray, List.set_cons_zero, List.set_cons_succ]
      refine quiet_eql (by rfl) (.tmp 11) (.tmp 15) _ rfl _ _ rfl rfl (decide (id = o)) heqf ?_
      simp only [Act.put, List.setIfInBounds_toArray, List.set_cons_zero, List.set_cons_succ]
      refine wpQuiet_nil fun w3 hk3 => ?_
      have HK3 : Hid (Kept [] (w.alloc (.cells (idC id) 29)) w3) := hk3
      have HF3 : Hid (Kept [] w w3) := HKW.out w3 hk3
      clear hk3 heqf HR1
      by_cases hio : id = o
      · have hd : decide (id = o) = true := decide_eq_true hio
        rw [hd]
        have HM : Hid (decide (id ∈ ids) = true) := decide_eq_true (by rw [hio]; exact List.mem_of_getElem? ho)
        clear hio hd ho
        go_wp2
        go_ret
        exact ⟨⟨(k : Int), rfl, by omega, by rw [HM.out]; exact decide_eq_true (by omega)⟩, HF3.out⟩
      · have hd : decide (id = o) = false := decide_eq_false hio
        rw [hd]
        have HN' : Hid (∀ (i : Nat) (o : List Int), ids[i]? = some o → i < k + 1 → o ≠ id) := fun i x hx hi => by
          by_cases hik : i = k
          · subst hik
            rw [ho] at hx
            cases hx
            exact Ne.symm hio
          · exact HN.out i x hx (by omega)
        clear hio hd ho
        go_wp2
        go_roundw
        case rel => exact ⟨k + 1, by omega, by go_num, HN', HK3⟩
        case measure => simp [intOf]; omega
    · have HM : Hid (decide (id ∈ ids) = false) := decide_eq_false fun hm => by
        obtain ⟨i, hi, he⟩ := List.getElem_of_mem hm
        exact HN.out i id (by rw [List.getElem?_eq_getElem hi, he]) (by omega) rfl
      have HF3 : Hid (Kept [] w wr) := ((Kept.refl [] w).alloc _).then HK.out
      go_wp2
      go_ret
      exact ⟨⟨-1, rfl, by omega, by rw [HM.out]; rfl⟩, HF3.out⟩

set_option maxRecDepth 100000 in
set_option maxHeartbeats 1000000 in
theorem ContainsIDs_any (v : Value) (ids : List (List Int)) (id : List Int) (w : World) (hv : IdsAt w v ids) (hg : ∀ o, o ∈ ids → GoodID o) (hid : GoodID id) :
    Calls Tryz.prog 130 #[v, .agg (idC id)] w fun e w' => e = .returned (.bool (decide (id ∈ ids))) ∧ Kept [] w w' := by
  have hk0 : Kept [] w (w.alloc (.cells (idC id) 29)) := (Kept.refl _ _).alloc _
  have hcall := Contains_ids v ids id (w.alloc (.cells (idC id) 29)) (hv.keep hk0 (fun _ _ _ => by simp)) hg hid
  have hsz : (Tryz.prog.info? 29).map (·.size) = some (idC id).size := by rw [idC_size hid.1]; exact Tryz.infoID
  have HB : Hid ((w.alloc (.cells (idC id) 29)).heap[w.heap.size]? = some (.cells (idC id) 29 (0, 0))) := heap_alloc_new w _
  obtain ⟨ao, cap, rfl, _⟩ := hv
  clear hg hid
  generalize idC id = ic at *
  go_enter Tryz.func130, Tryz.ntmps130
  go_wp2_with (first
    | (refine wpList_load_row (by rfl) 29 (.tmp 3) (by rfl) w.heap.size (by rfl) 29 ic (0, 0) _ HB.out Tryz.underlying29 rfl hsz ?_)
    | (go_at_call 133; refine hcall.mono ?_; rintro e w2 ⟨⟨n, rfl, hn, hd⟩, hk2⟩
       have HK2 : Hid (Kept [] w w2) := hk0.then hk2
       have HD : Hid _ := hd
       clear hk2 hd))
  go_ret
  exact ⟨by rw [← HD.out]; rfl, HK2.out⟩
end Go.Proofs.YtfcoeinhfdbcgaaGreatDoor
