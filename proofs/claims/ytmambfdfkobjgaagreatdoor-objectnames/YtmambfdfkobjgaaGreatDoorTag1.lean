/-
  WALKS: (object.tag).fault, write, children.
-/
import Derived.Test.YtmambfdfkobjgaaGreatDoorTag0
namespace Go.Proofs.YtmambfdfkobjgaaGreatDoor
open Go.RowKit

set_option maxRecDepth 100000 in
set_option maxHeartbeats 1000000 in
theorem tagFault_any (t : TagL) (w : World) (hT : Tabs w) (hg : t.Good) :
    Calls Tryz.prog 134 #[.agg t.row.toArray] w fun e w' => e = .returned (.int .i64 (faultG t)) ∧ Kept [] w w' := by
  obtain ⟨c0, c1, c2, c3, c4, c5⟩ := tag_cells hg.target.1 (heap_alloc_new w (.cells t.row.toArray 91))
  have HK0 : Hid (Kept [] w (w.alloc (.cells t.row.toArray 91))) := (Kept.refl _ _).alloc _
  have hname := Name_any t.name hg.name.1 (w.alloc (.cells t.row.toArray 91)) (Nat.le_trans hg.name.2 (by decide)) (hT.kept HK0.out)
  have HSG : Hid (∀ W, Kept [] w W → Calls Tryz.prog 130 #[.string (strOfNums t.who), .int .u64 t.time, .string (strOfNums t.text)] W fun e w' => e = .returned (.int .i64 (if signB t.who t.time t.text = false then 36 else 0)) ∧ Kept [] W w') := fun W hW => signFault_any t.who t.time t.text W (hT.kept hW) hg.who hg.t0 hg.t1
  have HB : Hid ((w.alloc (.cells t.row.toArray 91)).heap[w.heap.size]? = some (.cells t.row.toArray 91 (0, 0))) := heap_alloc_new w _
  have HTC : Hid (∀ W : World, W.heap[w.heap.size]? = some (.cells t.row.toArray 91 (0, 0)) → W.cell? ⟨w.heap.size, 34, none⟩ = some (.string (strOfNums t.who)) ∧ W.cell? ⟨w.heap.size, 35, none⟩ = some (.int .u64 t.time) ∧ W.cell? ⟨w.heap.size, 36, none⟩ = some (.string (strOfNums t.text))) := fun W hW => (tag_cells hg.target.1 hW).2.2.2
  obtain ⟨rv, hrv⟩ : ∃ rv : Int, rv = faultG t := ⟨_, rfl⟩
  rw [← hrv]
  have HRV : Hid (rv = if modeB t.kind = false then 30 else if nameB t.name = false then 32 else if signB t.who t.time t.text = false then 36 else 0) := hrv
  have hlo := hg.lo
  have hhi := hg.hi
  obtain ⟨sv, hsv⟩ : ∃ sv : Int, sv = if signB t.who t.time t.text = false then 36 else 0 := ⟨_, rfl⟩
  rw [← hsv] at HSG HRV
  have hd : decide (t.kind < 1) = true ∧ modeB t.kind = false ∨ decide (t.kind < 1) = false ∧ decide (4 < t.kind) = true ∧ modeB t.kind = false ∨ decide (t.kind < 1) = false ∧ decide (4 < t.kind) = false ∧ modeB t.kind = true := by
    unfold modeB
    by_cases h1 : t.kind < 1
    · exact Or.inl ⟨decide_eq_true h1, by rw [decide_eq_false (by omega)]; rfl⟩
    · by_cases h2 : 4 < t.kind
      · exact Or.inr (Or.inl ⟨decide_eq_false h1, decide_eq_true h2, by rw [decide_eq_false (by omega : ¬ t.kind ≤ 4)]; simp⟩)
      · exact Or.inr (Or.inr ⟨decide_eq_false h1, decide_eq_false h2, by rw [decide_eq_true (by omega : 1 ≤ t.kind), decide_eq_true (by omega : t.kind ≤ 4)]; rfl⟩)
  clear hrv hsv hg hT
  generalize t.row.toArray = tr at *
  generalize t.kind = kd at *
  generalize strOfNums t.name = sn at *
  generalize strOfNums t.who = sw at *
  generalize strOfNums t.text = st at *
  generalize nameB t.name = nb at *
  rcases hd with ⟨h1, h2⟩ | ⟨h1, h2, h3⟩ | ⟨h1, h2, h3⟩
  · rw [h2] at HRV
    go_enter Tryz.func134, Tryz.ntmps134
    go_wp2
    go_ret
    exact ⟨by rw [HRV.out]; rfl, HK0.out⟩
  · rw [h3] at HRV
    go_enter Tryz.func134, Tryz.ntmps134
    go_wp2
    go_ret
    exact ⟨by rw [HRV.out]; rfl, HK0.out⟩
  · rw [h3] at HRV
    cases nb
    · go_enter Tryz.func134, Tryz.ntmps134
      go_wp2_with (go_at_call 11; refine hname.mono ?_; rintro e w1 ⟨rfl, hk1⟩; have HK1 : Hid (Kept [] w w1) := HK0.out.then hk1; clear hk1)
      go_ret
      exact ⟨by rw [HRV.out]; rfl, HK1.out⟩
    · go_enter Tryz.func134, Tryz.ntmps134
      go_wp2_with (first
        | (go_at_call 11; refine hname.mono ?_; rintro e w1 ⟨rfl, hk1⟩
           have HK1 : Hid (Kept [] w w1) := HK0.out.then hk1
           obtain ⟨d3, d4, d5⟩ := HTC.out w1 (hk1.heap HB.out (by simp))
           clear hk1)
        | (go_at_call 130; refine (HSG.out _ HK1.out).mono ?_; rintro e w2 ⟨rfl, hk2⟩
           have HK2 : Hid (Kept [] w w2) := HK1.out.then hk2
           clear hk2))
      go_ret
      exact ⟨by rw [HRV.out]; rfl, HK2.out⟩

/-- A tag's encoding. -/
def encG (t : TagL) : List Int := fixedB 4 1 ++ t.target ++ fixedB t.kind 1 ++ varB t.name.length ++ t.name ++ varB t.who.length ++ t.who ++ fixedB t.time 8 ++ varB t.text.length ++ t.text

set_option maxRecDepth 100000 in
set_option maxHeartbeats 1000000 in
theorem tagWrite_any (t : TagL) {w : World} {wb B : Nat} {zs : List Int} {S : List Nat} (h : WAt w wb B zs S) (hBw : B ≤ w.heap.size) (hg : t.Good) (hk0 : 0 ≤ t.kind) (hk1 : t.kind ≤ 255) (hz : zs.length + t.name.length + t.who.length + t.text.length ≤ 100000000) :
    Calls Tryz.prog 135 #[.agg t.row.toArray, .pointer (some ⟨wb, 0, none⟩)] w fun e w' => e = .returned (.tuple #[]) ∧ Wrote w w' wb B (zs ++ encG t) S := by
  have HE : Hid (zs ++ encG t = zs ++ fixedB 4 1 ++ t.target ++ fixedB t.kind 1 ++ varB t.name.length ++ t.name ++ varB t.who.length ++ t.who ++ fixedB t.time 8 ++ varB t.text.length ++ t.text) := by
    have : zs ++ encG t = zs ++ fixedB 4 1 ++ t.target ++ fixedB t.kind 1 ++ varB t.name.length ++ t.name ++ varB t.who.length ++ t.who ++ fixedB t.time 8 ++ varB t.text.length ++ t.text := by unfold encG; simp only [List.append_assoc]
    exact this
  have v1 := varB_len (t.name.length : Int) (by omega) (by omega)
  have v2 := varB_len (t.who.length : Int) (by omega) (by omega)
  have v3 := varB_len (t.text.length : Int) (by omega) (by omega)
  have l0 := hg.target.1
  have H0 : Hid (WB w (w.alloc (.cells t.row.toArray 91)) wb B zs S w.heap.size t.row.toArray 91) := WB.start h _ _
  have HTC : Hid (∀ W : World, W.heap[w.heap.size]? = some (.cells t.row.toArray 91 (0, 0)) → W.rangeAt w.heap.size 0 (t.target.map (Value.int .u8)) ∧ W.cell? ⟨w.heap.size, 32, none⟩ = some (.int .i64 t.kind) ∧ W.cell? ⟨w.heap.size, 33, none⟩ = some (.string (strOfNums t.name)) ∧ W.cell? ⟨w.heap.size, 34, none⟩ = some (.string (strOfNums t.who)) ∧ W.cell? ⟨w.heap.size, 35, none⟩ = some (.int .u64 t.time) ∧ W.cell? ⟨w.heap.size, 36, none⟩ = some (.string (strOfNums t.text))) := fun W hW => tag_cells hg.target.1 hW
  have hsl := fun W => slice_id w.heap.size 0 W
  have C1 : Hid (∀ W, WB w W wb B zs S w.heap.size t.row.toArray 91 → Calls Tryz.prog 116 #[.pointer (some ⟨wb, 0, none⟩), .int .u8 4] W fun e w' => e = .returned (.tuple #[]) ∧ WB w w' wb B (zs ++ fixedB 4 1) S w.heap.size t.row.toArray 91) := fun W q => q.u8 hBw 4 (by decide) (by decide) (by omega)
  have C2 : Hid (∀ W, WB w W wb B (zs ++ fixedB 4 1) S w.heap.size t.row.toArray 91 → Calls Tryz.prog 117 #[.pointer (some ⟨wb, 0, none⟩), .slice (some ⟨w.heap.size, 0, none⟩) 32 32] W fun e w' => e = .returned (.tuple #[]) ∧ WB w w' wb B (zs ++ fixedB 4 1 ++ t.target) S w.heap.size t.row.toArray 91) := fun W q => by
    have hb := range_bytes (HTC.out W q.block).1
    rw [l0] at hb
    exact q.raw hBw _ _ hb hg.target.2 (by simp only [List.length_append, fixedB_len, l0]; omega)
  have C3 : Hid (∀ W, WB w W wb B (zs ++ fixedB 4 1 ++ t.target) S w.heap.size t.row.toArray 91 → Calls Tryz.prog 116 #[.pointer (some ⟨wb, 0, none⟩), .int .u8 t.kind] W fun e w' => e = .returned (.tuple #[]) ∧ WB w w' wb B (zs ++ fixedB 4 1 ++ t.target ++ fixedB t.kind 1) S w.heap.size t.row.toArray 91) := fun W q => q.u8 hBw _ hk0 hk1 (by simp only [List.length_append, fixedB_len, l0]; omega)
  have C4 : Hid (∀ W, WB w W wb B (zs ++ fixedB 4 1 ++ t.target ++ fixedB t.kind 1) S w.heap.size t.row.toArray 91 → Calls Tryz.prog 123 #[.pointer (some ⟨wb, 0, none⟩), .string (strOfNums t.name)] W fun e w' => e = .returned (.tuple #[]) ∧ WB w w' wb B (zs ++ fixedB 4 1 ++ t.target ++ fixedB t.kind 1 ++ varB t.name.length ++ t.name) S w.heap.size t.row.toArray 91) := fun W q => q.text hBw _ hg.name.1 (by simp only [List.length_append, fixedB_len, l0]; omega)
  have C5 : Hid (∀ W, WB w W wb B (zs ++ fixedB 4 1 ++ t.target ++ fixedB t.kind 1 ++ varB t.name.length ++ t.name) S w.heap.size t.row.toArray 91 → Calls Tryz.prog 123 #[.pointer (some ⟨wb, 0, none⟩), .string (strOfNums t.who)] W fun e w' => e = .returned (.tuple #[]) ∧ WB w w' wb B (zs ++ fixedB 4 1 ++ t.target ++ fixedB t.kind 1 ++ varB t.name.length ++ t.name ++ varB t.who.length ++ t.who) S w.heap.size t.row.toArray 91) := fun W q => q.text hBw _ hg.who.1 (by simp only [List.length_append, fixedB_len, l0]; omega)
  have C6 : Hid (∀ W, WB w W wb B (zs ++ fixedB 4 1 ++ t.target ++ fixedB t.kind 1 ++ varB t.name.length ++ t.name ++ varB t.who.length ++ t.who) S w.heap.size t.row.toArray 91 → Calls Tryz.prog 131 #[.pointer (some ⟨wb, 0, none⟩), .int .u64 t.time] W fun e w' => e = .returned (.tuple #[]) ∧ WB w w' wb B (zs ++ fixedB 4 1 ++ t.target ++ fixedB t.kind 1 ++ varB t.name.length ++ t.name ++ varB t.who.length ++ t.who ++ fixedB t.time 8) S w.heap.size t.row.toArray 91) := fun W q => q.u64 hBw _ (by simp only [List.length_append, fixedB_len, l0]; omega)
  have C7 : Hid (∀ W, WB w W wb B (zs ++ fixedB 4 1 ++ t.target ++ fixedB t.kind 1 ++ varB t.name.length ++ t.name ++ varB t.who.length ++ t.who ++ fixedB t.time 8) S w.heap.size t.row.toArray 91 → Calls Tryz.prog 123 #[.pointer (some ⟨wb, 0, none⟩), .string (strOfNums t.text)] W fun e w' => e = .returned (.tuple #[]) ∧ WB w w' wb B (zs ++ fixedB 4 1 ++ t.target ++ fixedB t.kind 1 ++ varB t.name.length ++ t.name ++ varB t.who.length ++ t.who ++ fixedB t.time 8 ++ varB t.text.length ++ t.text) S w.heap.size t.row.toArray 91) := fun W q => q.text hBw _ hg.text.1 (by simp only [List.length_append, fixedB_len, l0]; omega)
  have hmw : IntKind.u8.wrap t.kind = t.kind := by rw [IntKind.wrap_u8]; omega
  clear h hg v1 v2 v3 hz
  rw [HE.out]
  clear HE
  generalize zs ++ fixedB 4 1 ++ t.target ++ fixedB t.kind 1 ++ varB t.name.length ++ t.name ++ varB t.who.length ++ t.who ++ fixedB t.time 8 ++ varB t.text.length ++ t.text = q7 at *
  generalize zs ++ fixedB 4 1 ++ t.target ++ fixedB t.kind 1 ++ varB t.name.length ++ t.name ++ varB t.who.length ++ t.who ++ fixedB t.time 8 = q6 at *
  generalize zs ++ fixedB 4 1 ++ t.target ++ fixedB t.kind 1 ++ varB t.name.length ++ t.name ++ varB t.who.length ++ t.who = q5 at *
  generalize zs ++ fixedB 4 1 ++ t.target ++ fixedB t.kind 1 ++ varB t.name.length ++ t.name = q4 at *
  generalize zs ++ fixedB 4 1 ++ t.target ++ fixedB t.kind 1 = q3 at *
  generalize zs ++ fixedB 4 1 ++ t.target = q2 at *
  generalize zs ++ fixedB 4 1 = q1 at *
  generalize t.row.toArray = tr at *
  generalize t.target.map (Value.int .u8) = tt at *
  generalize strOfNums t.name = sn at *
  generalize strOfNums t.who = sw at *
  generalize strOfNums t.text = st at *
  generalize t.time = tm at *
  generalize t.kind = kd at *
  go_enter Tryz.func135, Tryz.ntmps135
  go_wp2_with (first
    | (go_at_call 116; (with_reducible refine (C1.out _ H0.out).mono ?_); rintro e w1 ⟨rfl, hw1⟩; have H1 : Hid (WB w w1 wb B q1 S w.heap.size tr 91) := hw1; obtain ⟨a0, a1, a2, a3, a4, a5⟩ := HTC.out w1 hw1.block; clear hw1)
    | (go_at_call 117; (with_reducible refine (C2.out _ H1.out).mono ?_); rintro e w2 ⟨rfl, hw2⟩; have H2 : Hid (WB w w2 wb B q2 S w.heap.size tr 91) := hw2; obtain ⟨b0, b1, b2, b3, b4, b5⟩ := HTC.out w2 hw2.block; clear hw2)
    | (go_at_call 116; (with_reducible refine (C3.out _ H2.out).mono ?_); rintro e w3 ⟨rfl, hw3⟩; have H3 : Hid (WB w w3 wb B q3 S w.heap.size tr 91) := hw3; obtain ⟨c0, c1, c2, c3, c4, c5⟩ := HTC.out w3 hw3.block; clear hw3)
    | (go_at_call 123; (with_reducible refine (C4.out _ H3.out).mono ?_); rintro e w4 ⟨rfl, hw4⟩; have H4 : Hid (WB w w4 wb B q4 S w.heap.size tr 91) := hw4; obtain ⟨d0, d1, d2, d3, d4, d5⟩ := HTC.out w4 hw4.block; clear hw4)
    | (go_at_call 123; (with_reducible refine (C5.out _ H4.out).mono ?_); rintro e w5 ⟨rfl, hw5⟩; have H5 : Hid (WB w w5 wb B q5 S w.heap.size tr 91) := hw5; obtain ⟨e0, e1, e2, e3, e4, e5⟩ := HTC.out w5 hw5.block; clear hw5)
    | (go_at_call 131; (with_reducible refine (C6.out _ H5.out).mono ?_); rintro e w6 ⟨rfl, hw6⟩; have H6 : Hid (WB w w6 wb B q6 S w.heap.size tr 91) := hw6; obtain ⟨f0, f1, f2, f3, f4, f5⟩ := HTC.out w6 hw6.block; clear hw6)
    | (go_at_call 123; (with_reducible refine (C7.out _ H6.out).mono ?_); rintro e w7 ⟨rfl, hw7⟩; have H7 : Hid (WB w w7 wb B q7 S w.heap.size tr 91) := hw7; clear hw7))
  go_end0
  exact ⟨rfl, H7.out.wrote⟩
end Go.Proofs.YtmambfdfkobjgaaGreatDoor
