/-
  WALK: satchellaw3.ObjectOne.
-/
import Derived.Test.YtnfbiemmdaenpaaDoorAppR
import Derived.Test.YtnfbiemmdaenpaaDoorOn0
import Derived.Test.YtnfbiemmdaenpaaDoorHd
import Derived.Test.YtnfbiemmdaenpaaDoorOe1
import Derived.Test.YtnfbiemmdaenpaaDoorWk2
import Derived.Test.YtnfbiemmdaenpaaDoorRCopy
import Derived.Deep.QuietTactic
import Derived.Deep.CutRange
namespace Go.Proofs.YtnfbiemmdaenpaaDoor
open Go.RowKit

set_option maxRecDepth 100000 in
set_option maxHeartbeats 16000000 in
theorem objOne_any (t : TwoL) (w : World) (hg : TwoL.Good w t) (hT : Tabs w) :
    Calls Tryd.prog 3 #[.agg t.row.toArray] w fun e w' => e = .returned (.bool true) ∧ Kept [] w w' := by
  obtain ⟨W0, hW0⟩ : ∃ W0, W0 = w.alloc (.cells t.row.toArray 35) := ⟨_, rfl⟩
  have HW0 : Hid (W0 = w.alloc (.cells t.row.toArray 35)) := hW0
  have k0 : Kept [] w W0 := by rw [hW0]; exact (Kept.refl _ _).alloc _
  have HK0 : Hid (Kept [] w W0) := k0
  obtain ⟨ax, cx, hxv⟩ : ∃ ao cap, t.xv = .slice ao t.xs.length cap := by obtain ⟨x, y, h, _⟩ := hg.xv; exact ⟨x, y, h⟩
  obtain ⟨ay, cy, hyv⟩ : ∃ ao cap, t.yv = .slice ao t.ys.length cap := by obtain ⟨x, y, h, _⟩ := hg.yv; exact ⟨x, y, h⟩
  have HC : Hid (∀ W, Kept [] W0 W → W.rangeAt w.heap.size 0 t.A.row ∧ W.rangeAt w.heap.size 76 t.B.row ∧ W.cell? ⟨w.heap.size, 152, none⟩ = some (.slice ax t.xs.length cx) ∧ W.cell? ⟨w.heap.size, 153, none⟩ = some (.slice ay t.ys.length cy)) := fun W k => by
    obtain ⟨q0, q1, q2, q3, _⟩ := two_at hg (k.heap (show W0.heap[w.heap.size]? = _ by rw [hW0]; exact heap_alloc_new w _) (by simp))
    rw [hxv] at q2
    rw [hyv] at q3
    exact ⟨q0, q1, q2, q3⟩
  have hs155 : t.row.toArray.size = 155 := by rw [List.size_toArray, hg.len]
  have hsA : (Tryd.prog.info? 33).map (·.size) = some t.A.row.length := by rw [objL_len hg.A.com.tree.1 hg.A.tag.target.1]; kernel_rfl
  have hsB : (Tryd.prog.info? 33).map (·.size) = some t.B.row.length := by rw [objL_len hg.B.com.tree.1 hg.B.tag.target.1]; kernel_rfl
  have hun := Tryd.underlying33
  have hwk := wakes_any W0 (hT.kept k0)
  rw [hW0] at hwk
  have HTWA : Hid (∀ W, Kept [] w W → Calls Tryd.prog 7 #[.agg t.A.row.toArray] W fun e w' => ∃ bv ev pv, e = .returned (.agg ({ t.A with bv := bv, ev := ev, pv := pv } : ObjL).row.toArray) ∧ ObjL.Good w' { t.A with bv := bv, ev := ev, pv := pv } ∧ Kept [] W w') := fun W k => twin_any t.A W (hg.A.kept k) hg.fA
  have HEA : Hid (∀ bv ev pv W, ObjL.Good W { t.A with bv := bv, ev := ev, pv := pv } → Kept [] w W → Calls Tryd.prog 6 #[.agg ({ t.A with bv := bv, ev := ev, pv := pv } : ObjL).row.toArray] W (EncA W (errO t.A) (encO t.A))) := fun bv ev pv W hW k => Encode_any { t.A with bv := bv, ev := ev, pv := pv } W (hT.kept k) hW
  have HRA : Hid (∀ W, Kept [] w W → Calls Tryd.prog 8 #[.agg t.A.row.toArray] W fun e w' => ∃ v, e = .returned (.tuple #[v, .int .i64 (errO t.A)]) ∧ BytesAt w' v (if errO t.A = 0 then encO t.A else []) ∧ Kept [] W w') := fun W k => R3Enc_any t.A W (hg.A.kept k)
  have HOA : Hid (errO t.A = 0 → ∀ W, Kept [] w W → Calls Tryd.prog 11 #[.agg t.A.row.toArray] W fun e w' => ∃ bv ev pv, e = .returned (.agg (onlyO t.A bv ev pv).row.toArray) ∧ ObjL.Good w' (onlyO t.A bv ev pv) ∧ Kept [] W w') := fun h0 W k => Only_any t.A W (hg.A.kept k) h0
  have HTWB : Hid (∀ W, Kept [] w W → Calls Tryd.prog 7 #[.agg t.B.row.toArray] W fun e w' => ∃ bv ev pv, e = .returned (.agg ({ t.B with bv := bv, ev := ev, pv := pv } : ObjL).row.toArray) ∧ ObjL.Good w' { t.B with bv := bv, ev := ev, pv := pv } ∧ Kept [] W w') := fun W k => twin_any t.B W (hg.B.kept k) hg.fB
  have HEB : Hid (∀ bv ev pv W, ObjL.Good W { t.B with bv := bv, ev := ev, pv := pv } → Kept [] w W → Calls Tryd.prog 6 #[.agg ({ t.B with bv := bv, ev := ev, pv := pv } : ObjL).row.toArray] W (EncA W (errO t.B) (encO t.B))) := fun bv ev pv W hW k => Encode_any { t.B with bv := bv, ev := ev, pv := pv } W (hT.kept k) hW
  have HRB : Hid (∀ W, Kept [] w W → Calls Tryd.prog 8 #[.agg t.B.row.toArray] W fun e w' => ∃ v, e = .returned (.tuple #[v, .int .i64 (errO t.B)]) ∧ BytesAt w' v (if errO t.B = 0 then encO t.B else []) ∧ Kept [] W w') := fun W k => R3Enc_any t.B W (hg.B.kept k)
  have HOB : Hid (errO t.B = 0 → ∀ W, Kept [] w W → Calls Tryd.prog 11 #[.agg t.B.row.toArray] W fun e w' => ∃ bv ev pv, e = .returned (.agg (onlyO t.B bv ev pv).row.toArray) ∧ ObjL.Good w' (onlyO t.B bv ev pv) ∧ Kept [] W w') := fun h0 W k => Only_any t.B W (hg.B.kept k) h0
  have HPA : Hid (errO t.A = 0 → ∀ W v, Kept [] w W → BytesAt W v (encO t.A) → Calls Tryd.prog 9 #[v] W (ParA W (encO t.A))) := fun h0 W v k hv => Parse_any v (encO t.A) W hv (octs_encO hg.A h0) (hT.kept k)
  have HGA : Hid (errO t.A = 0 → parErr (encO t.A) = 0 ∧ ∀ bv ev pv, guessO (encO t.A) bv ev pv = onlyO t.A bv ev pv) := fun h0 => enc_par hg.A h0
  have HIF : Hid (errO t.A = 0 → errO t.B = 0 → ∀ b e p b' e' p', SameO (onlyO t.A b e p) (onlyO t.B b' e' p') ↔ encO t.A = encO t.B) := fun h1 h2 b e p b' e' p' => only_iff hg.A hg.B h1 h2 b e p b' e' p'
  have hbx : BytesAt w (.slice ax t.xs.length cx) t.xs := by rw [← hxv]; exact hg.xv
  have HVX : Hid (∀ W, Kept [] w W → BytesAt W (.slice ax t.xs.length cx) t.xs) := fun W k => hbx.keep k (fun _ _ _ => by simp)
  have HHX : Hid (∀ W, Kept [] w W → Calls Tryd.prog 13 #[.slice ax t.xs.length cx] W fun e w' => ∃ ao c, e = .returned (.slice ao t.xs.length c) ∧ BytesAt w' (.slice ao t.xs.length c) t.xs ∧ Kept [] W w') := fun W k => handed_any _ t.xs W (HVX.out W k) (Nat.le_trans hg.xs.2 (by decide))
  have HPX : Hid (∀ W v, Kept [] w W → BytesAt W v t.xs → Calls Tryd.prog 9 #[v] W (ParA W t.xs)) := fun W v k hv => Parse_any v t.xs W hv hg.xs.1 (hT.kept k)
  have HQX : Hid (∀ W, Kept [] w W → Calls Tryd.prog 14 #[.slice ax t.xs.length cx] W (ParA W t.xs)) := fun W k => R3Parse_any _ t.xs W (HVX.out W k) hg.xs.1 hg.xs.2
  have hmx : t.xs.length ≤ 140737488355328 := Nat.le_trans hg.xs.2 (by decide)
  have hby : BytesAt w (.slice ay t.ys.length cy) t.ys := by rw [← hyv]; exact hg.yv
  have HVY : Hid (∀ W, Kept [] w W → BytesAt W (.slice ay t.ys.length cy) t.ys) := fun W k => hby.keep k (fun _ _ _ => by simp)
  have HHY : Hid (∀ W, Kept [] w W → Calls Tryd.prog 13 #[.slice ay t.ys.length cy] W fun e w' => ∃ ao c, e = .returned (.slice ao t.ys.length c) ∧ BytesAt w' (.slice ao t.ys.length c) t.ys ∧ Kept [] W w') := fun W k => handed_any _ t.ys W (HVY.out W k) (Nat.le_trans hg.ys.2 (by decide))
  have HPY : Hid (∀ W v, Kept [] w W → BytesAt W v t.ys → Calls Tryd.prog 9 #[v] W (ParA W t.ys)) := fun W v k hv => Parse_any v t.ys W hv hg.ys.1 (hT.kept k)
  have HQY : Hid (∀ W, Kept [] w W → Calls Tryd.prog 14 #[.slice ay t.ys.length cy] W (ParA W t.ys)) := fun W k => R3Parse_any _ t.ys W (HVY.out W k) hg.ys.1 hg.ys.2
  have hmy : t.ys.length ≤ 140737488355328 := Nat.le_trans hg.ys.2 (by decide)
  have HEX : Hid (∀ o W, ObjL.Good W o → Kept [] w W → Calls Tryd.prog 6 #[.agg o.row.toArray] W (EncA W (errO o) (encO o))) := fun o W hW k => Encode_any o W (hT.kept k) hW
  have hxA := errO_len t.A
  have hxB := errO_len t.B
  clear hT k0 hW0 hxv hyv hbx hby hg
  obtain ⟨EA, hEA⟩ : ∃ E, E = encO t.A := ⟨_, rfl⟩
  obtain ⟨EB, hEB⟩ : ∃ E, E = encO t.B := ⟨_, rfl⟩
  rw [← hEA] at HEA HRA HPA HGA HIF hxA
  rw [← hEB] at HEB HRB HIF hxB
  clear hEA hEB
  generalize errO t.A = eA at *
  generalize errO t.B = eB at *
  obtain ⟨XA, hXA⟩ : ∃ X, X = if eA = 0 then EA else [] := ⟨_, rfl⟩
  obtain ⟨XB, hXB⟩ : ∃ X, X = if eB = 0 then EB else [] := ⟨_, rfl⟩
  rw [← hXA] at HRA hxA
  rw [← hXB] at HRB hxB
  have HXA : Hid (XA = if eA = 0 then EA else []) := hXA
  have HXB : Hid (XB = if eB = 0 then EB else []) := hXB
  have HXA0 : Hid (eA = 0 → XA = EA) := fun h => by rw [hXA, if_pos h]
  have HXB0 : Hid (eB = 0 → XB = EB) := fun h => by rw [hXB, if_pos h]
  clear hXA hXB
  obtain ⟨g0, -, -, -⟩ := HC.out W0 (Kept.refl _ _)
  obtain ⟨RA, hRA⟩ : ∃ R, R = t.A.row := ⟨_, rfl⟩
  obtain ⟨RB, hRB⟩ : ∃ R, R = t.B.row := ⟨_, rfl⟩
  rw [← hRA] at HC hsA HTWA HRA HOA g0
  rw [← hRB] at HC hsB HTWB HRB HOB
  clear hRA hRB
  generalize t.row.toArray = av at *
  generalize t.xs = xs at *
  generalize t.ys = ys at *
  go_enter Tryd.func3, Tryd.ntmps3
  go_wp2_with fail
  go_at_call 5
  refine hwk.mono ?_
  rintro e w1 ⟨rfl, k1⟩
  rw [← HW0.out] at k1
  have HK1 : Hid (Kept [] W0 w1) := k1
  obtain ⟨gA, -, -, -⟩ := HC.out w1 k1
  have htw := HTWA.out w1 (HK0.out.then k1)
  clear hwk k1 HTWA g0
  go_wp2_with (refine wpList_load_mid (by rfl) 33 (.tmp 20) (by rfl) w.heap.size 0 (by rfl) RA _ gA hun rfl hsA ?_)
  go_at_call 7
  refine htw.mono ?_
  rintro e w2 ⟨bv, ev, pv, rfl, hg2, k2⟩
  have HK2 : Hid (Kept [] W0 w2) := HK1.out.then k2
  have henc := HEA.out bv ev pv w2 hg2 (HK0.out.then HK2.out)
  clear htw k2 hg2 HEA gA
  generalize ({ t.A with bv := bv, ev := ev, pv := pv } : ObjL).row.toArray = pr at *
  go_wp2_with fail
  go_at_call 6
  refine henc.mono ?_
  rintro e w3 ⟨v3, rfl, b3, _, k3⟩
  have HK3 : Hid (Kept [] W0 w3) := HK2.out.then k3
  obtain ⟨-, gB, -, -⟩ := HC.out w3 HK3.out
  rw [← HXA.out] at b3
  obtain ⟨aa, ca, hv3⟩ : ∃ ao cap, v3 = .slice ao XA.length cap := by obtain ⟨a, c, h, _⟩ := b3; exact ⟨a, c, h⟩
  subst hv3
  have HBa : Hid (∀ W, Kept [] w3 W → BytesAt W (.slice aa XA.length ca) XA) := fun W k => b3.keep k (fun _ _ _ => by simp)
  have htw := HTWB.out w3 (HK0.out.then HK3.out)
  clear henc k3 b3 HTWB
  go_wp2_with (refine wpList_load_mid (by rfl) 33 (.tmp 27) (by rfl) w.heap.size 76 (by rfl) RB _ gB hun rfl hsB ?_)
  go_at_call 7
  refine htw.mono ?_
  rintro e w4 ⟨bv', ev', pv', rfl, hg4, k4⟩
  have HK4 : Hid (Kept [] w3 w4) := k4
  have henc := HEB.out bv' ev' pv' w4 hg4 (HK0.out.then (HK3.out.then HK4.out))
  clear htw k4 hg4 HEB gB
  generalize ({ t.B with bv := bv', ev := ev', pv := pv' } : ObjL).row.toArray = pr' at *
  go_wp2_with fail
  go_at_call 6
  refine henc.mono ?_
  rintro e w5 ⟨v5, rfl, b5, _, k5⟩
  have HK5 : Hid (Kept [] w3 w5) := HK4.out.then k5
  have HK50 : Hid (Kept [] W0 w5) := HK3.out.then HK5.out
  obtain ⟨gA, -, -, -⟩ := HC.out w5 HK50.out
  rw [← HXB.out] at b5
  obtain ⟨ab, cb, hv5⟩ : ∃ ao cap, v5 = .slice ao XB.length cap := by obtain ⟨a, c, h, _⟩ := b5; exact ⟨a, c, h⟩
  subst hv5
  have HBb : Hid (∀ W, Kept [] w5 W → BytesAt W (.slice ab XB.length cb) XB) := fun W k => b5.keep k (fun _ _ _ => by simp)
  have hr := HRA.out w5 (HK0.out.then HK50.out)
  clear henc k5 b5 HRA
  go_wp2_with (refine wpList_load_mid (by rfl) 33 (.tmp 34) (by rfl) w.heap.size 0 (by rfl) RA _ gA hun rfl hsA ?_)
  go_at_call 8
  refine hr.mono ?_
  rintro e w6 ⟨v6, rfl, _, k6⟩
  have HK6 : Hid (Kept [] w5 w6) := k6
  have HK60 : Hid (Kept [] W0 w6) := HK50.out.then k6
  obtain ⟨-, gB, -, -⟩ := HC.out w6 HK60.out
  have hr := HRB.out w6 (HK0.out.then HK60.out)
  clear k6 HRB gA
  go_wp2_with (refine wpList_load_mid (by rfl) 33 (.tmp 40) (by rfl) w.heap.size 76 (by rfl) RB _ gB hun rfl hsB ?_)
  go_at_call 8
  refine hr.mono ?_
  rintro e w7 ⟨v7, rfl, _, k7⟩
  have HK57 : Hid (Kept [] w5 w7) := HK6.out.then k7
  have HK7 : Hid (Kept [] W0 w7) := HK60.out.then k7
  have HB7a : Hid (∀ W, Kept [] w7 W → BytesAt W (.slice aa XA.length ca) XA) := fun W k => HBa.out W ((HK5.out.then HK57.out).then k)
  have HB7b : Hid (∀ W, Kept [] w7 W → BytesAt W (.slice ab XB.length cb) XB) := fun W k => HBb.out W (HK57.out.then k)
  clear hr k7 gB HBa HBb
  go_upto_if 54 with fail
  clear HK57 HK60 HK6 HK50 HK5 HK4 HK3 HK2 HK1 HW0 HXA HXB
  go_cut [] from 17 to 69 (fun wx => Hid (Kept [] w7 wx))
  case first =>
    by_cases he : eA = 0
    · subst he
      have eX := HXA0.out rfl
      obtain ⟨hp0, hon⟩ := HGA.out rfl
      have hpar := HPA.out rfl w7 (.slice aa XA.length ca) (HK0.out.then HK7.out) (by rw [← eX]; exact HB7a.out w7 (Kept.refl _ _))
      have HON : Hid (∀ bv ev pv, guessO EA bv ev pv = onlyO t.A bv ev pv) := hon
      clear eX hon
      go_wp2_with fail
      go_at_call 9
      refine hpar.mono ?_
      rintro e w8 ⟨o, rfl, hg8, k8, z8, _⟩
      obtain ⟨ob, oe, op, hoo⟩ := z8 hp0
      have hoz : o.row.toArray.size = 76 := by rw [List.size_toArray]; exact objL_len hg8.com.tree.1 hg8.tag.target.1
      have hos : (Tryd.prog.info? 33).map (·.size) = some o.row.toArray.size := by rw [hoz]; kernel_rfl
      have hosl : (Tryd.prog.info? 33).map (·.size) = some o.row.length := by rw [hos, List.size_toArray]
      have hozz : Tryd.zeroCells33.size = o.row.toArray.size := by rw [hoz]; kernel_rfl
      have ho1 : o.row.toArray.all (·.oneCell') = true := objL_one hg8
      obtain ⟨W9, hW9⟩ : ∃ W9, W9 = w8.alloc (.cells o.row.toArray 33) := ⟨_, rfl⟩
      have HW9 : Hid (W9 = w8.alloc (.cells o.row.toArray 33)) := hW9
      have k89 : Kept [] w8 W9 := by rw [hW9]; exact (Kept.refl _ _).alloc _
      have HK9 : Hid (Kept [] w7 W9) := k8.then k89
      have HQ1 : Hid (∀ W, Kept [] W9 W → W.rangeAt w8.heap.size 0 o.row) := fun W k => by
        have h : W.heap[w8.heap.size]? = some (.cells o.row.toArray 33 (0, 0)) := k.heap (show W9.heap[w8.heap.size]? = _ by rw [hW9]; exact heap_alloc_new w8 _) (by simp)
        exact row_range h
      have HQ2 : Hid (∀ W, Kept [] W9 W → W.rangeAt w.heap.size 0 RA) := fun W k => (HC.out W ((HK7.out.then HK9.out).then k)).1
      have HQO : Hid (∀ W, Kept [] W9 W → Calls Tryd.prog 11 #[.agg RA.toArray] W fun e w' => ∃ bv ev pv, e = .returned (.agg (onlyO t.A bv ev pv).row.toArray) ∧ ObjL.Good w' (onlyO t.A bv ev pv) ∧ Kept [] W w') := fun W k => HOA.out (by trivial) W ((HK0.out.then (HK7.out.then HK9.out)).then k)
      have HQS : Hid (∀ W bv ev pv, Kept [] W9 W → ObjL.Good W (onlyO t.A bv ev pv) → Calls Tryd.prog 10 #[.agg o.row.toArray, .agg (onlyO t.A bv ev pv).row.toArray] W fun e w' => e = .returned (.bool true) ∧ Kept [] W w') := fun W bv ev pv k hgo => by
        refine (Same_any o (onlyO t.A bv ev pv) W (hg8.kept (k89.then k)) hgo).mono ?_
        rintro e w' ⟨r, rfl, hr, hk⟩
        have : r = true := hr.2 (by rw [hoo, HON.out]; exact only_places _ _ _ _ _ _ _)
        rw [this]
        exact ⟨rfl, hk⟩
      rw [hp0]
      clear hpar k8 hg8 z8 hoo hoz k89 hW9 HON hp0
      generalize o.row = orw at *
      go_wp2_with (first
        | (refine wpList_store_new (by rfl) 33 (.tmp 11) (.tmp 58) (by rfl) w8 _ orw.toArray (by rfl) (by rfl) hos hozz ho1 ?_; rw [← HW9.out]))
      refine wp_region_held_drew (S := Kept [] W9) (by kernel_rfl) (Kept.refl [] W9).drew (fun hHeld => ?_)
      refine takeS 0 (v := .int .i64 0) (some 60) #[true, false, false, false, false, false, false, false, false, false] rfl rfl rfl (by kernel_rfl) (by kernel_rfl) (by kernel_rfl) (fun _ _ _ h => h) (Or.inl ⟨by rfl, fun W hSW => by go_simp⟩) hHeld ?_
      simp only [Act.put, List.setIfInBounds_toArray, List.set_cons_zero, List.set_cons_succ]
      refine takeS 1 (v := .bool false) (some 61) #[true, true, false, false, false, false, false, false, false, false] rfl rfl rfl (by kernel_rfl) (by kernel_rfl) (by kernel_rfl) (fun _ _ _ h => h) (Or.inl ⟨by rfl, fun W hSW => by go_simp⟩) hHeld ?_
      simp only [Act.put, List.setIfInBounds_toArray, List.set_cons_zero, List.set_cons_succ]
      refine takeS 2 (v := .bool false) (some 62) #[true, true, true, false, false, false, false, false, false, false] rfl rfl rfl (by kernel_rfl) (by kernel_rfl) (by kernel_rfl) (fun _ _ _ h => h) (Or.inl ⟨by rfl, fun W hSW => by go_simp⟩) hHeld ?_
      simp only [Act.put, List.setIfInBounds_toArray, List.set_cons_zero, List.set_cons_succ]
      refine takeS 3 (v := .agg orw.toArray) (some 63) #[true, true, true, true, false, false, false, false, false, false] rfl rfl rfl (by kernel_rfl) (by kernel_rfl) (by kernel_rfl) (fun _ _ _ h => h) (yieldsIf_load_mid (by rfl) 33 (.tmp 11) rfl w8.heap.size 0 rfl orw _ HQ1.out hun rfl hosl) hHeld ?_
      simp only [Act.put, List.setIfInBounds_toArray, List.set_cons_zero, List.set_cons_succ]
      refine takeS 4 (v := .pointer (some ⟨w.heap.size, 0, none⟩)) (some 64) #[true, true, true, true, true, false, false, false, false, false] rfl rfl rfl (by kernel_rfl) (by kernel_rfl) (by kernel_rfl) (fun _ _ _ h => h) (Or.inl ⟨by rfl, fun W hSW => by go_simp⟩) hHeld ?_
      simp only [Act.put, List.setIfInBounds_toArray, List.set_cons_zero, List.set_cons_succ]
      refine takeS 5 (v := .agg RA.toArray) (some 65) #[true, true, true, true, true, true, false, false, false, false] rfl rfl rfl (by kernel_rfl) (by kernel_rfl) (by kernel_rfl) (fun _ _ _ h => h) (yieldsIf_load_mid (by rfl) 33 (.tmp 64) rfl w.heap.size 0 rfl RA _ HQ2.out hun rfl hsA) hHeld ?_
      simp only [Act.put, List.setIfInBounds_toArray, List.set_cons_zero, List.set_cons_succ]
      refine wpAnyH_ready (rs := [6]) (by kernel_rfl) (by simp) (AllReadyH.cons rfl (fun K hK => ?_) AllReadyH.nil)
      rw [if_pos (by rfl)]
      go_simp
      refine (HQO.out _ hHeld).mono ?_
      rintro e wy ⟨b1, b2, b3, rfl, hgy, ky⟩
      refine hK.out _ _ (hHeld.then ky) (fun hHeld => ?_)
      clear hK K
      simp only [List.setIfInBounds_toArray, List.set_cons_zero, List.set_cons_succ]
      refine wpAnyH_ready (rs := [7]) (by kernel_rfl) (by simp) (AllReadyH.cons rfl (fun K hK => ?_) AllReadyH.nil)
      rw [if_pos (by rfl)]
      go_simp
      refine (HQS.out _ b1 b2 b3 hHeld hgy).mono ?_
      rintro e wz ⟨rfl, kz⟩
      refine hK.out _ _ (hHeld.then kz) (fun hHeld => ?_)
      clear hK K
      simp only [List.setIfInBounds_toArray, List.set_cons_zero, List.set_cons_succ]
      refine takeS 8 (v := .bool false) (some 68) #[true, true, true, true, true, true, true, true, true, false] rfl rfl rfl (by kernel_rfl) (by kernel_rfl) (by kernel_rfl) (fun _ _ _ h => h) (Or.inl ⟨by rfl, fun W hSW => by go_simp⟩) hHeld ?_
      simp only [Act.put, List.setIfInBounds_toArray, List.set_cons_zero, List.set_cons_succ]
      refine takeS 9 (v := .bool false) (some 69) #[true, true, true, true, true, true, true, true, true, true] rfl rfl rfl (by kernel_rfl) (by kernel_rfl) (by kernel_rfl) (fun _ _ _ h => h) (Or.inl ⟨by rfl, fun W hSW => by go_simp⟩) hHeld ?_
      simp only [Act.put, List.setIfInBounds_toArray, List.set_cons_zero, List.set_cons_succ]
      have HKz : Hid (Kept [] W9 wz) := hHeld
      clear hHeld hgy ky kz
      refine wpAnyH_done (by kernel_rfl) ?_ _
      have HK11 : Hid (Kept [] w7 wz) := HK9.out.then HKz.out
      clear HKz
      generalize hhz : wz = wq at *
      clear hhz
      go_wp2
      go_meet
      exact HK11.out
    · have te : (eA == 0) = false := by simpa using he
      go_wp2
      go_meet
      exact Kept.refl _ _
  case rest =>
  have HK8 : Hid (Kept [] w7 wc) := hcut
  clear hcut HPA HGA
  generalize wc = w8 at *
  have HK80 : Hid (Kept [] W0 w8) := HK7.out.then HK8.out
  go_wp2_with fail
  go_cut [88] from 17 to 87 (fun s88 wx => s88 = .bool false ∧ Hid (Kept [] w8 wx))
  case first =>
    by_cases he : eA = 0
    · subst he
      by_cases hf : eB = 0
      · subst hf
        obtain ⟨rE, hrE⟩ : ∃ r, r = decide (XA = XB) := ⟨_, rfl⟩
        have HQE : Hid (∀ W, Kept [] w8 W → Calls Tryd.prog 12 #[.slice aa XA.length ca, .slice ab XB.length cb] W fun e w' => e = .returned (.bool rE) ∧ Kept [] W w') := fun W k => by
          rw [hrE]
          refine (Eq_any (HB7a.out W (HK8.out.then k)) (HB7b.out W (HK8.out.then k)) (by omega) (by omega)).mono ?_
          rintro e w' ⟨rfl, n, rfl⟩
          exact ⟨rfl, (Kept.refl _ _).drewN n⟩
        have HQA : Hid (∀ W, Kept [] w8 W → W.rangeAt w.heap.size 0 RA) := fun W k => (HC.out W (HK80.out.then k)).1
        have HQB : Hid (∀ W, Kept [] w8 W → W.rangeAt w.heap.size 76 RB) := fun W k => (HC.out W (HK80.out.then k)).2.1
        have HQ1 : Hid (∀ W, Kept [] w8 W → Calls Tryd.prog 11 #[.agg RA.toArray] W fun e w' => ∃ bv ev pv, e = .returned (.agg (onlyO t.A bv ev pv).row.toArray) ∧ ObjL.Good w' (onlyO t.A bv ev pv) ∧ Kept [] W w') := fun W k => HOA.out (by trivial) W ((HK0.out.then HK80.out).then k)
        have HQ2 : Hid (∀ W, Kept [] w8 W → Calls Tryd.prog 11 #[.agg RB.toArray] W fun e w' => ∃ bv ev pv, e = .returned (.agg (onlyO t.B bv ev pv).row.toArray) ∧ ObjL.Good w' (onlyO t.B bv ev pv) ∧ Kept [] W w') := fun W k => HOB.out (by trivial) W ((HK0.out.then HK80.out).then k)
        have HQS : Hid (∀ W b e p b' e' p', ObjL.Good W (onlyO t.A b e p) → ObjL.Good W (onlyO t.B b' e' p') → Calls Tryd.prog 10 #[.agg (onlyO t.A b e p).row.toArray, .agg (onlyO t.B b' e' p').row.toArray] W fun e w' => e = .returned (.bool rE) ∧ Kept [] W w') := fun W b e p b' e' p' h1 h2 => by
          refine (Same_any _ _ W h1 h2).mono ?_
          rintro e w' ⟨r, rfl, hr, hk⟩
          have h3 := HIF.out (by trivial) (by trivial) b e p b' e' p'
          have : r = rE := by
            rw [hrE, Bool.eq_iff_iff, decide_eq_true_iff, hr, h3, HXA0.out (by trivial), HXB0.out (by trivial)]
          rw [this]
          exact ⟨rfl, hk⟩
        clear hrE
        refine wp_region_held_drew (S := Kept [] w8) (by kernel_rfl) (Kept.refl [] w8).drew (fun hHeld => ?_)
        refine takeS 0 (v := .int .i64 0) (some 70) #[true, false, false, false, false, false, false, false, false, false, false, false, false, false, false, false, false, false, false] rfl rfl rfl (by kernel_rfl) (by kernel_rfl) (by kernel_rfl) (fun _ _ _ h => h) (Or.inl ⟨by rfl, fun W hSW => by go_simp⟩) hHeld ?_
        simp only [Act.put, List.setIfInBounds_toArray, List.set_cons_zero, List.set_cons_succ]
        refine takeS 1 (v := .bool true) (some 71) #[true, true, false, false, false, false, false, false, false, false, false, false, false, false, false, false, false, false, false] rfl rfl rfl (by kernel_rfl) (by kernel_rfl) (by kernel_rfl) (fun _ _ _ h => h) (Or.inl ⟨by rfl, fun W hSW => by go_simp⟩) hHeld ?_
        simp only [Act.put, List.setIfInBounds_toArray, List.set_cons_zero, List.set_cons_succ]
        refine takeS 2 (v := .bool true) (some 72) #[true, true, true, false, false, false, false, false, false, false, false, false, false, false, false, false, false, false, false] rfl rfl rfl (by kernel_rfl) (by kernel_rfl) (by kernel_rfl) (fun _ _ _ h => h) (Or.inl ⟨by rfl, fun W hSW => by go_simp⟩) hHeld ?_
        simp only [Act.put, List.setIfInBounds_toArray, List.set_cons_zero, List.set_cons_succ]
        refine takeS 3 (v := .int .i64 0) (some 73) #[true, true, true, true, false, false, false, false, false, false, false, false, false, false, false, false, false, false, false] rfl rfl rfl (by kernel_rfl) (by kernel_rfl) (by kernel_rfl) (fun _ _ _ h => h) (Or.inl ⟨by rfl, fun W hSW => by go_simp⟩) hHeld ?_
        simp only [Act.put, List.setIfInBounds_toArray, List.set_cons_zero, List.set_cons_succ]
        refine takeS 4 (v := .bool true) (some 74) #[true, true, true, true, true, false, false, false, false, false, false, false, false, false, false, false, false, false, false] rfl rfl rfl (by kernel_rfl) (by kernel_rfl) (by kernel_rfl) (fun _ _ _ h => h) (Or.inl ⟨by rfl, fun W hSW => by go_simp⟩) hHeld ?_
        simp only [Act.put, List.setIfInBounds_toArray, List.set_cons_zero, List.set_cons_succ]
        refine takeS 5 (v := .bool true) (some 75) #[true, true, true, true, true, true, false, false, false, false, false, false, false, false, false, false, false, false, false] rfl rfl rfl (by kernel_rfl) (by kernel_rfl) (by kernel_rfl) (fun _ _ _ h => h) (Or.inl ⟨by rfl, fun W hSW => by go_simp⟩) hHeld ?_
        simp only [Act.put, List.setIfInBounds_toArray, List.set_cons_zero, List.set_cons_succ]
        refine takeS 6 (v := .bool true) (some 76) #[true, true, true, true, true, true, true, false, false, false, false, false, false, false, false, false, false, false, false] rfl rfl rfl (by kernel_rfl) (by kernel_rfl) (by kernel_rfl) (fun _ _ _ h => h) (Or.inl ⟨by rfl, fun W hSW => by go_simp⟩) hHeld ?_
        simp only [Act.put, List.setIfInBounds_toArray, List.set_cons_zero, List.set_cons_succ]
        refine takeS 7 (v := .slice aa XA.length ca) (some 77) #[true, true, true, true, true, true, true, true, false, false, false, false, false, false, false, false, false, false, false] rfl rfl rfl (by kernel_rfl) (by kernel_rfl) (by kernel_rfl) (fun _ _ _ h => h) (Or.inl ⟨by rfl, fun W hSW => by go_simp⟩) hHeld ?_
        simp only [Act.put, List.setIfInBounds_toArray, List.set_cons_zero, List.set_cons_succ]
        refine takeS 8 (v := .slice ab XB.length cb) (some 78) #[true, true, true, true, true, true, true, true, true, false, false, false, false, false, false, false, false, false, false] rfl rfl rfl (by kernel_rfl) (by kernel_rfl) (by kernel_rfl) (fun _ _ _ h => h) (Or.inl ⟨by rfl, fun W hSW => by go_simp⟩) hHeld ?_
        simp only [Act.put, List.setIfInBounds_toArray, List.set_cons_zero, List.set_cons_succ]
        refine takeS 10 (v := .pointer (some ⟨w.heap.size, 0, none⟩)) (some 80) #[true, true, true, true, true, true, true, true, true, false, true, false, false, false, false, false, false, false, false] rfl rfl rfl (by kernel_rfl) (by kernel_rfl) (by kernel_rfl) (fun _ _ _ h => h) (Or.inl ⟨by rfl, fun W hSW => by go_simp⟩) hHeld ?_
        simp only [Act.put, List.setIfInBounds_toArray, List.set_cons_zero, List.set_cons_succ]
        refine takeS 11 (v := .agg RA.toArray) (some 81) #[true, true, true, true, true, true, true, true, true, false, true, true, false, false, false, false, false, false, false] rfl rfl rfl (by kernel_rfl) (by kernel_rfl) (by kernel_rfl) (fun _ _ _ h => h) (yieldsIf_load_mid (by rfl) 33 (.tmp 80) rfl w.heap.size 0 rfl RA _ HQA.out hun rfl hsA) hHeld ?_
        simp only [Act.put, List.setIfInBounds_toArray, List.set_cons_zero, List.set_cons_succ]
        refine takeS 13 (v := .pointer (some ⟨w.heap.size, 76, none⟩)) (some 83) #[true, true, true, true, true, true, true, true, true, false, true, true, false, true, false, false, false, false, false] rfl rfl rfl (by kernel_rfl) (by kernel_rfl) (by kernel_rfl) (fun _ _ _ h => h) (Or.inl ⟨by rfl, fun W hSW => by go_simp⟩) hHeld ?_
        simp only [Act.put, List.setIfInBounds_toArray, List.set_cons_zero, List.set_cons_succ]
        refine takeS 14 (v := .agg RB.toArray) (some 84) #[true, true, true, true, true, true, true, true, true, false, true, true, false, true, true, false, false, false, false] rfl rfl rfl (by kernel_rfl) (by kernel_rfl) (by kernel_rfl) (fun _ _ _ h => h) (yieldsIf_load_mid (by rfl) 33 (.tmp 83) rfl w.heap.size 76 rfl RB _ HQB.out hun rfl hsB) hHeld ?_
        simp only [Act.put, List.setIfInBounds_toArray, List.set_cons_zero, List.set_cons_succ]
        refine wpAnyH_ready (rs := [9]) (by kernel_rfl) (by simp) (AllReadyH.cons rfl (fun K hK => ?_) AllReadyH.nil)
        rw [if_pos (by rfl)]
        go_simp
        refine (HQE.out _ hHeld).mono ?_
        rintro e wx ⟨rfl, kx⟩
        refine hK.out _ _ (hHeld.then kx) (fun hHeld => ?_)
        clear hK K
        simp only [List.setIfInBounds_toArray, List.set_cons_zero, List.set_cons_succ]
        refine wpAnyH_ready (rs := [12]) (by kernel_rfl) (by simp) (AllReadyH.cons rfl (fun K hK => ?_) AllReadyH.nil)
        rw [if_pos (by rfl)]
        go_simp
        refine (HQ1.out _ hHeld).mono ?_
        rintro e wy ⟨b1, b2, b3, rfl, hgy, ky⟩
        refine hK.out _ _ (hHeld.then ky) (fun hHeld => ?_)
        clear hK K
        simp only [List.setIfInBounds_toArray, List.set_cons_zero, List.set_cons_succ]
        refine wpAnyH_ready (rs := [15]) (by kernel_rfl) (by simp) (AllReadyH.cons rfl (fun K hK => ?_) AllReadyH.nil)
        rw [if_pos (by rfl)]
        go_simp
        refine (HQ2.out _ hHeld).mono ?_
        rintro e wz ⟨b4, b5, b6, rfl, hgz, kz⟩
        refine hK.out _ _ (hHeld.then kz) (fun hHeld => ?_)
        clear hK K
        simp only [List.setIfInBounds_toArray, List.set_cons_zero, List.set_cons_succ]
        refine wpAnyH_ready (rs := [16]) (by kernel_rfl) (by simp) (AllReadyH.cons rfl (fun K hK => ?_) AllReadyH.nil)
        rw [if_pos (by rfl)]
        go_simp
        refine (HQS.out _ b1 b2 b3 b4 b5 b6 (hgy.kept kz) hgz).mono ?_
        rintro e wq ⟨rfl, kq⟩
        refine hK.out _ _ (hHeld.then kq) (fun hHeld => ?_)
        clear hK K
        simp only [List.setIfInBounds_toArray, List.set_cons_zero, List.set_cons_succ]
        refine takeS 17 (v := .bool false) (some 87) #[true, true, true, true, true, true, true, true, true, true, true, true, true, true, true, true, true, true, false] rfl rfl rfl (by kernel_rfl) (by kernel_rfl) (by kernel_rfl) (fun _ _ _ h => h) (Or.inl ⟨by rfl, fun W hSW => by go_simp⟩) hHeld ?_
        simp only [Act.put, List.setIfInBounds_toArray, List.set_cons_zero, List.set_cons_succ]
        refine takeS 18 (v := .bool false) (some 88) #[true, true, true, true, true, true, true, true, true, true, true, true, true, true, true, true, true, true, true] rfl rfl rfl (by kernel_rfl) (by kernel_rfl) (by kernel_rfl) (fun _ _ _ h => h) (Or.inl ⟨by rfl, fun W hSW => by go_simp⟩) hHeld ?_
        simp only [Act.put, List.setIfInBounds_toArray, List.set_cons_zero, List.set_cons_succ]
        have HK13 : Hid (Kept [] w8 wq) := hHeld
        clear hHeld hgy hgz kx ky kz kq
        refine wpAnyH_done (by kernel_rfl) ?_ _
        go_wp2
        go_meet
        exact ⟨rfl, HK13.out⟩
      · have te : (eB == 0) = false := by simpa using hf
        go_quiet (fail)
        have HKq : Hid (Kept [] w8 (w8.drewN nq)) := (Kept.refl _ _).drewN nq
        go_wp2
        go_meet
        exact ⟨rfl, HKq.out⟩
    · have te : (eA == 0) = false := by simpa using he
      go_quiet (fail)
      have HKq : Hid (Kept [] w8 (w8.drewN nq)) := (Kept.refl _ _).drewN nq
      go_wp2
      go_meet
      exact ⟨rfl, HKq.out⟩
  case rest =>
  obtain ⟨rfl, HK9⟩ := hcut
  have HK90 : Hid (Kept [] W0 wc) := HK80.out.then HK9.out
  clear HK9 HK80 HK8 HOA HOB HIF HXA0 HXB0 HB7a HB7b hxA hxB
  generalize wc = w9 at *
  obtain ⟨-, -, gX, -⟩ := HC.out w9 HK90.out
  have hhd := HHX.out w9 (HK0.out.then HK90.out)
  clear HHX
  go_wp2_with fail
  go_at_call 13
  refine hhd.mono ?_
  rintro e w10 ⟨a1, c1, rfl, b1, k1⟩
  have HK10 : Hid (Kept [] W0 w10) := HK90.out.then k1
  have hpar := HPX.out w10 _ (HK0.out.then HK10.out) b1
  clear hhd k1 b1 HPX gX
  go_wp2_with fail
  go_at_call 9
  refine hpar.mono ?_
  rintro e w11 ⟨ox, rfl, hgx, kx, zx, _⟩
  have hozx : ox.row.toArray.size = 76 := by rw [List.size_toArray]; exact objL_len hgx.com.tree.1 hgx.tag.target.1
  have hosx : (Tryd.prog.info? 33).map (·.size) = some ox.row.toArray.size := by rw [hozx]; kernel_rfl
  have hoslx : (Tryd.prog.info? 33).map (·.size) = some ox.row.length := by rw [hosx, List.size_toArray]
  have hozx : Tryd.zeroCells33.size = ox.row.toArray.size := by rw [hozx]; kernel_rfl
  have ho1x : ox.row.toArray.all (·.oneCell') = true := objL_one hgx
  obtain ⟨W12, hWx⟩ : ∃ W, W = w11.alloc (.cells ox.row.toArray 33) := ⟨_, rfl⟩
  have HWx : Hid (W12 = w11.alloc (.cells ox.row.toArray 33)) := hWx
  have kwx : Kept [] w11 W12 := by rw [hWx]; exact (Kept.refl _ _).alloc _
  have HGx : Hid (∀ W, Kept [] W12 W → ObjL.Good W ox) := fun W k => hgx.kept (kwx.then k)
  have HFx : Hid (∀ W, Kept [] W12 W → W.heap[w11.heap.size]? = some (.cells ox.row.toArray 33 (0, 0))) := fun W k => k.heap (show W12.heap[w11.heap.size]? = _ by rw [hWx]; exact heap_alloc_new w11 _) (by simp)
  have HZx : Hid (parErr xs = 0 → ∃ bv ev pv, ox = guessO xs bv ev pv) := zx
  have HK12 : Hid (Kept [] W0 W12) := HK10.out.then (kx.then kwx)
  obtain ⟨oxr, hrx⟩ : ∃ R, R = ox.row := ⟨_, rfl⟩
  have HRx : Hid (ox.row = oxr) := hrx.symm
  rw [← hrx] at HWx HFx hosx hoslx hozx ho1x ⊢
  clear hpar hgx kx zx hWx kwx hrx
  obtain ⟨-, -, -, gY⟩ := HC.out W12 HK12.out
  have hhd := HHY.out W12 (HK0.out.then HK12.out)
  clear HHY
  go_wp2_with (first
    | (refine wpList_store_new (by rfl) 33 (.tmp 13) (.tmp 94) (by rfl) w11 _ oxr.toArray (by rfl) (by rfl) hosx hozx ho1x ?_; rw [← HWx.out]))
  go_at_call 13
  refine hhd.mono ?_
  rintro e w13 ⟨a2, c2, rfl, b2, k2⟩
  have HK13 : Hid (Kept [] W12 w13) := k2
  have hpar := HPY.out w13 _ (HK0.out.then (HK12.out.then HK13.out)) b2
  clear hhd k2 b2 HPY gY
  go_wp2_with fail
  go_at_call 9
  refine hpar.mono ?_
  rintro e w14 ⟨oy, rfl, hgy, ky, zy, _⟩
  have hozy : oy.row.toArray.size = 76 := by rw [List.size_toArray]; exact objL_len hgy.com.tree.1 hgy.tag.target.1
  have hosy : (Tryd.prog.info? 33).map (·.size) = some oy.row.toArray.size := by rw [hozy]; kernel_rfl
  have hosly : (Tryd.prog.info? 33).map (·.size) = some oy.row.length := by rw [hosy, List.size_toArray]
  have hozy : Tryd.zeroCells33.size = oy.row.toArray.size := by rw [hozy]; kernel_rfl
  have ho1y : oy.row.toArray.all (·.oneCell') = true := objL_one hgy
  obtain ⟨W15, hWy⟩ : ∃ W, W = w14.alloc (.cells oy.row.toArray 33) := ⟨_, rfl⟩
  have HWy : Hid (W15 = w14.alloc (.cells oy.row.toArray 33)) := hWy
  have kwy : Kept [] w14 W15 := by rw [hWy]; exact (Kept.refl _ _).alloc _
  have HGy : Hid (∀ W, Kept [] W15 W → ObjL.Good W oy) := fun W k => hgy.kept (kwy.then k)
  have HFy : Hid (∀ W, Kept [] W15 W → W.heap[w14.heap.size]? = some (.cells oy.row.toArray 33 (0, 0))) := fun W k => k.heap (show W15.heap[w14.heap.size]? = _ by rw [hWy]; exact heap_alloc_new w14 _) (by simp)
  have HZy : Hid (parErr ys = 0 → ∃ bv ev pv, oy = guessO ys bv ev pv) := zy
  have HK15 : Hid (Kept [] w13 W15) := ky.then kwy
  obtain ⟨oyr, hry⟩ : ∃ R, R = oy.row := ⟨_, rfl⟩
  have HRy : Hid (oy.row = oyr) := hry.symm
  rw [← hry] at HWy HFy hosy hosly hozy ho1y ⊢
  clear hpar hgy ky zy hWy kwy hry
  have HSM : Hid (parErr xs = 0 → parErr ys = 0 → ∀ W, Kept [] W15 W → Calls Tryd.prog 10 #[.agg oxr.toArray, .agg oyr.toArray] W fun e w' => e = .returned (.bool (decide (xs = ys))) ∧ Kept [] W w') := fun h1 h2 W k => by
    obtain ⟨b, e, p, hox⟩ := HZx.out h1
    obtain ⟨b', e', p', hoy⟩ := HZy.out h2
    rw [← HRx.out, ← HRy.out]
    refine (Same_any ox oy W (HGx.out W ((HK13.out.then HK15.out).then k)) (HGy.out W k)).mono ?_
    rintro e2 w' ⟨r, rfl, hr, hk⟩
    have : r = decide (xs = ys) := by
      rw [Bool.eq_iff_iff, decide_eq_true_iff, hr, hox, hoy]
      exact guess_iff h1 h2 b e p b' e' p'
    rw [this]
    exact ⟨rfl, hk⟩
  have HEN : Hid (parErr xs = 0 → ∀ W, Kept [] W15 W → Calls Tryd.prog 6 #[.agg oxr.toArray] W fun e w' => ∃ v, e = .returned (.tuple #[v, .int .i64 0]) ∧ BytesAt w' v xs ∧ Kept [] W w') := fun h1 W k => by
    obtain ⟨b, e, p, hox⟩ := HZx.out h1
    rw [← HRx.out]
    refine (HEX.out ox W (HGx.out W ((HK13.out.then HK15.out).then k)) (HK0.out.then (HK12.out.then ((HK13.out.then HK15.out).then k)))).mono ?_
    rintro e2 w' ⟨v, rfl, hb, _, hk⟩
    obtain ⟨q1, q2⟩ := guess_enc h1 b e p
    rw [hox, q1, q2, if_pos rfl] at hb
    rw [hox, q2]
    exact ⟨v, rfl, hb, hk⟩
  have HBx : Hid (∀ W, Kept [] W15 W → W.heap[w11.heap.size]? = some (.cells oxr.toArray 33 (0, 0))) := fun W k => HFx.out W ((HK13.out.then HK15.out).then k)
  have HBy : Hid (∀ W, Kept [] W15 W → W.heap[w14.heap.size]? = some (.cells oyr.toArray 33 (0, 0))) := HFy.out
  have HK150 : Hid (Kept [] W0 W15) := HK12.out.then (HK13.out.then HK15.out)
  clear HZx HZy HGx HGy HFx HFy HEX HK15 HK13 HK12 HRx HRy
  obtain ⟨-, -, gX, -⟩ := HC.out W15 HK150.out
  have hrp := HQX.out W15 (HK0.out.then HK150.out)
  clear HQX
  go_wp2_with (first
    | (refine wpList_store_new (by rfl) 33 (.tmp 14) (.tmp 101) (by rfl) w14 _ oyr.toArray (by rfl) (by rfl) hosy hozy ho1y ?_; rw [← HWy.out]))
  go_at_call 14
  refine hrp.mono ?_
  rintro e w16 ⟨o16, rfl, _, k16, _, _⟩
  have HK16 : Hid (Kept [] W15 w16) := k16
  obtain ⟨-, -, -, gY⟩ := HC.out w16 (HK150.out.then k16)
  have hrp := HQY.out w16 (HK0.out.then (HK150.out.then k16))
  clear HQY k16 gX
  generalize o16.row.toArray = r16 at *
  go_wp2_with fail
  go_at_call 14
  refine hrp.mono ?_
  rintro e w17 ⟨o17, rfl, _, k17, _, _⟩
  have HK17 : Hid (Kept [] W15 w17) := HK16.out.then k17
  clear hrp k17 gY HK16
  generalize o17.row.toArray = r17 at *
  obtain ⟨px, hpx⟩ : ∃ p, p = parErr xs := ⟨_, rfl⟩
  obtain ⟨py, hpy⟩ : ∃ p, p = parErr ys := ⟨_, rfl⟩
  rw [← hpx] at HSM HEN ⊢
  rw [← hpy] at HSM ⊢
  clear hpx hpy
  go_upto_if 124 with fail
  go_cut [] from 17 to 138 (fun wx => Hid (Kept [] W15 wx))
  case first =>
    by_cases hp : px = 0
    · subst hp
      have hb17 := HBx.out w17 HK17.out
      have henc := HEN.out (by trivial) w17 HK17.out
      go_wp2_with (first
        | (refine wpList_load_row (by rfl) 33 (.tmp 13) (by rfl) w11.heap.size (by rfl) 33 oxr.toArray (0, 0) _ hb17 hun rfl hosx ?_))
      go_at_call 6
      refine henc.mono ?_
      rintro e w18 ⟨v18, rfl, b18, k18⟩
      obtain ⟨a18, c18, hv18⟩ : ∃ ao cap, v18 = .slice ao xs.length cap := by obtain ⟨a, c, h, _⟩ := b18; exact ⟨a, c, h⟩
      subst hv18
      have HK18 : Hid (Kept [] W15 w18) := HK17.out.then k18
      obtain ⟨-, -, gX, -⟩ := HC.out w18 (HK150.out.then HK18.out)
      have heq := Eq_same b18 (HVX.out w18 (HK0.out.then (HK150.out.then HK18.out))) hmx
      clear henc hb17 k18 b18
      go_wp2_with fail
      go_at_call 12
      refine heq.mono ?_
      rintro e w19 ⟨rfl, n19, hw19⟩
      have HK19 : Hid (Kept [] W15 w19) := by rw [hw19]; exact HK18.out.drewN n19
      clear heq hw19
      go_wp2
      go_meet
      exact HK19.out
    · have te : (px == 0) = false := by simpa using hp
      go_wp2
      go_meet
      exact HK17.out
  case rest =>
  have HK20 : Hid (Kept [] W15 wc) := hcut
  have HK200 : Hid (Kept [] W0 wc) := HK150.out.then HK20.out
  clear hcut HK17 HEN
  generalize wc = w20 at *
  go_wp2_with fail
  by_cases hp : px = 0
  · subst hp
    by_cases hq : py = 0
    · subst hq
      obtain ⟨rE, hrE⟩ : ∃ r, r = decide (xs = ys) := ⟨_, rfl⟩
      have HQE : Hid (∀ W, Kept [] w20 W → Calls Tryd.prog 12 #[.slice ax xs.length cx, .slice ay ys.length cy] W fun e w' => e = .returned (.bool rE) ∧ Kept [] W w') := fun W k => by
        rw [hrE]
        refine (Eq_any (HVX.out W ((HK0.out.then HK200.out).then k)) (HVY.out W ((HK0.out.then HK200.out).then k)) hmx hmy).mono ?_
        rintro e w' ⟨rfl, n, rfl⟩
        exact ⟨rfl, (Kept.refl _ _).drewN n⟩
      have HQS : Hid (∀ W, Kept [] w20 W → Calls Tryd.prog 10 #[.agg oxr.toArray, .agg oyr.toArray] W fun e w' => e = .returned (.bool rE) ∧ Kept [] W w') := fun W k => by
        rw [hrE]
        exact HSM.out (by trivial) (by trivial) W (HK20.out.then k)
      have HQ1 : Hid (∀ W, Kept [] w20 W → W.rangeAt w11.heap.size 0 oxr) := fun W k => row_range (HBx.out W (HK20.out.then k))
      have HQ2 : Hid (∀ W, Kept [] w20 W → W.rangeAt w14.heap.size 0 oyr) := fun W k => row_range (HBy.out W (HK20.out.then k))
      have HCX : Hid (∀ W, Kept [] w20 W → W.cell? ⟨w.heap.size, 152, none⟩ = some (.slice ax xs.length cx)) := fun W k => (HC.out W (HK200.out.then k)).2.2.1
      have HCY : Hid (∀ W, Kept [] w20 W → W.cell? ⟨w.heap.size, 153, none⟩ = some (.slice ay ys.length cy)) := fun W k => (HC.out W (HK200.out.then k)).2.2.2
      clear hrE
      refine wp_region_held_drew (S := Kept [] w20) (by kernel_rfl) (Kept.refl [] w20).drew (fun hHeld => ?_)
      refine takeS 0 (v := .int .i64 0) (some 139) #[true, false, false, false, false, false, false, false, false, false, false, false, false, false, false, false, false, false] rfl rfl rfl (by kernel_rfl) (by kernel_rfl) (by kernel_rfl) (fun _ _ _ h => h) (Or.inl ⟨by rfl, fun W hSW => by go_simp⟩) hHeld ?_
      simp only [Act.put, List.setIfInBounds_toArray, List.set_cons_zero, List.set_cons_succ]
      refine takeS 1 (v := .bool false) (some 140) #[true, true, false, false, false, false, false, false, false, false, false, false, false, false, false, false, false, false] rfl rfl rfl (by kernel_rfl) (by kernel_rfl) (by kernel_rfl) (fun _ _ _ h => h) (Or.inl ⟨by rfl, fun W hSW => by go_simp⟩) hHeld ?_
      simp only [Act.put, List.setIfInBounds_toArray, List.set_cons_zero, List.set_cons_succ]
      refine takeS 2 (v := .bool false) (some 141) #[true, true, true, false, false, false, false, false, false, false, false, false, false, false, false, false, false, false] rfl rfl rfl (by kernel_rfl) (by kernel_rfl) (by kernel_rfl) (fun _ _ _ h => h) (Or.inl ⟨by rfl, fun W hSW => by go_simp⟩) hHeld ?_
      simp only [Act.put, List.setIfInBounds_toArray, List.set_cons_zero, List.set_cons_succ]
      refine takeS 3 (v := .int .i64 0) (some 142) #[true, true, true, true, false, false, false, false, false, false, false, false, false, false, false, false, false, false] rfl rfl rfl (by kernel_rfl) (by kernel_rfl) (by kernel_rfl) (fun _ _ _ h => h) (Or.inl ⟨by rfl, fun W hSW => by go_simp⟩) hHeld ?_
      simp only [Act.put, List.setIfInBounds_toArray, List.set_cons_zero, List.set_cons_succ]
      refine takeS 4 (v := .bool false) (some 143) #[true, true, true, true, true, false, false, false, false, false, false, false, false, false, false, false, false, false] rfl rfl rfl (by kernel_rfl) (by kernel_rfl) (by kernel_rfl) (fun _ _ _ h => h) (Or.inl ⟨by rfl, fun W hSW => by go_simp⟩) hHeld ?_
      simp only [Act.put, List.setIfInBounds_toArray, List.set_cons_zero, List.set_cons_succ]
      refine takeS 5 (v := .bool false) (some 144) #[true, true, true, true, true, true, false, false, false, false, false, false, false, false, false, false, false, false] rfl rfl rfl (by kernel_rfl) (by kernel_rfl) (by kernel_rfl) (fun _ _ _ h => h) (Or.inl ⟨by rfl, fun W hSW => by go_simp⟩) hHeld ?_
      simp only [Act.put, List.setIfInBounds_toArray, List.set_cons_zero, List.set_cons_succ]
      refine takeS 6 (v := .bool false) (some 145) #[true, true, true, true, true, true, true, false, false, false, false, false, false, false, false, false, false, false] rfl rfl rfl (by kernel_rfl) (by kernel_rfl) (by kernel_rfl) (fun _ _ _ h => h) (Or.inl ⟨by rfl, fun W hSW => by go_simp⟩) hHeld ?_
      simp only [Act.put, List.setIfInBounds_toArray, List.set_cons_zero, List.set_cons_succ]
      refine takeS 7 (v := .pointer (some ⟨w.heap.size, 152, none⟩)) (some 146) #[true, true, true, true, true, true, true, true, false, false, false, false, false, false, false, false, false, false] rfl rfl rfl (by kernel_rfl) (by kernel_rfl) (by kernel_rfl) (fun _ _ _ h => h) (Or.inl ⟨by rfl, fun W hSW => by go_simp⟩) hHeld ?_
      simp only [Act.put, List.setIfInBounds_toArray, List.set_cons_zero, List.set_cons_succ]
      refine takeS 8 (v := .slice ax xs.length cx) (some 147) #[true, true, true, true, true, true, true, true, true, false, false, false, false, false, false, false, false, false] rfl rfl rfl (by kernel_rfl) (by kernel_rfl) (by kernel_rfl) (fun _ _ _ h => h) (Or.inl ⟨by rfl, fun W hSW => by have hcc := HCX.out W hSW; go_simp⟩) hHeld ?_
      simp only [Act.put, List.setIfInBounds_toArray, List.set_cons_zero, List.set_cons_succ]
      refine takeS 9 (v := .pointer (some ⟨w.heap.size, 153, none⟩)) (some 148) #[true, true, true, true, true, true, true, true, true, true, false, false, false, false, false, false, false, false] rfl rfl rfl (by kernel_rfl) (by kernel_rfl) (by kernel_rfl) (fun _ _ _ h => h) (Or.inl ⟨by rfl, fun W hSW => by go_simp⟩) hHeld ?_
      simp only [Act.put, List.setIfInBounds_toArray, List.set_cons_zero, List.set_cons_succ]
      refine takeS 10 (v := .slice ay ys.length cy) (some 149) #[true, true, true, true, true, true, true, true, true, true, true, false, false, false, false, false, false, false] rfl rfl rfl (by kernel_rfl) (by kernel_rfl) (by kernel_rfl) (fun _ _ _ h => h) (Or.inl ⟨by rfl, fun W hSW => by have hcc := HCY.out W hSW; go_simp⟩) hHeld ?_
      simp only [Act.put, List.setIfInBounds_toArray, List.set_cons_zero, List.set_cons_succ]
      refine takeS 12 (v := .agg oxr.toArray) (some 151) #[true, true, true, true, true, true, true, true, true, true, true, false, true, false, false, false, false, false] rfl rfl rfl (by kernel_rfl) (by kernel_rfl) (by kernel_rfl) (fun _ _ _ h => h) (yieldsIf_load_mid (by rfl) 33 (.tmp 13) rfl w11.heap.size 0 rfl oxr _ HQ1.out hun rfl hoslx) hHeld ?_
      simp only [Act.put, List.setIfInBounds_toArray, List.set_cons_zero, List.set_cons_succ]
      refine takeS 13 (v := .agg oyr.toArray) (some 152) #[true, true, true, true, true, true, true, true, true, true, true, false, true, true, false, false, false, false] rfl rfl rfl (by kernel_rfl) (by kernel_rfl) (by kernel_rfl) (fun _ _ _ h => h) (yieldsIf_load_mid (by rfl) 33 (.tmp 14) rfl w14.heap.size 0 rfl oyr _ HQ2.out hun rfl hosly) hHeld ?_
      simp only [Act.put, List.setIfInBounds_toArray, List.set_cons_zero, List.set_cons_succ]
      refine wpAnyH_ready (rs := [11]) (by kernel_rfl) (by simp) (AllReadyH.cons rfl (fun K hK => ?_) AllReadyH.nil)
      rw [if_pos (by rfl)]
      go_simp
      refine (HQE.out _ hHeld).mono ?_
      rintro e wy ⟨rfl, ky⟩
      refine hK.out _ _ (hHeld.then ky) (fun hHeld => ?_)
      clear hK K
      simp only [List.setIfInBounds_toArray, List.set_cons_zero, List.set_cons_succ]
      refine wpAnyH_ready (rs := [14]) (by kernel_rfl) (by simp) (AllReadyH.cons rfl (fun K hK => ?_) AllReadyH.nil)
      rw [if_pos (by rfl)]
      go_simp
      refine (HQS.out _ hHeld).mono ?_
      rintro e wz ⟨rfl, kz⟩
      refine hK.out _ _ (hHeld.then kz) (fun hHeld => ?_)
      clear hK K
      simp only [List.setIfInBounds_toArray, List.set_cons_zero, List.set_cons_succ]
      refine takeS 15 (v := .bool true) (some 154) #[true, true, true, true, true, true, true, true, true, true, true, true, true, true, true, true, false, false] rfl rfl rfl (by kernel_rfl) (by kernel_rfl) (by kernel_rfl) (fun _ _ _ h => h) (Or.inl ⟨by rfl, fun W hSW => by go_simp⟩) hHeld ?_
      simp only [Act.put, List.setIfInBounds_toArray, List.set_cons_zero, List.set_cons_succ]
      refine takeS 16 (v := .bool true) (some 155) #[true, true, true, true, true, true, true, true, true, true, true, true, true, true, true, true, true, false] rfl rfl rfl (by kernel_rfl) (by kernel_rfl) (by kernel_rfl) (fun _ _ _ h => h) (Or.inl ⟨by rfl, fun W hSW => by go_simp⟩) hHeld ?_
      simp only [Act.put, List.setIfInBounds_toArray, List.set_cons_zero, List.set_cons_succ]
      refine takeS 17 (v := .bool true) (some 2) #[true, true, true, true, true, true, true, true, true, true, true, true, true, true, true, true, true, true] rfl rfl rfl (by kernel_rfl) (by kernel_rfl) (by kernel_rfl) (fun _ _ _ h => h) (Or.inl ⟨by rfl, fun W hSW => by go_simp⟩) hHeld ?_
      simp only [Act.put, List.setIfInBounds_toArray, List.set_cons_zero, List.set_cons_succ]
      have HKz : Hid (Kept [] w20 wz) := hHeld
      clear hHeld ky kz
      refine wpAnyH_done (by kernel_rfl) ?_ _
      have HKF : Hid (Kept [] w wz) := (HK0.out.then HK200.out).then HKz.out
      clear HKz
      go_wp2
      go_ret
      exact ⟨rfl, HKF.out⟩
    · have tq : (py != 0) = true := by simpa using hq
      go_quiet (fail)
      have HKq : Hid (Kept [] w (w20.drewN nq)) := (HK0.out.then HK200.out).drewN nq
      go_wp2
      go_ret
      exact ⟨rfl, HKq.out⟩
  · have tp : (px != 0) = true := by simpa using hp
    go_quiet (fail)
    have HKq : Hid (Kept [] w (w20.drewN nq)) := (HK0.out.then HK200.out).drewN nq
    go_wp2
    go_ret
    exact ⟨rfl, HKq.out⟩
end Go.Proofs.YtnfbiemmdaenpaaDoor
