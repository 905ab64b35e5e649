/-
  WALK: satchellaw4.StoreWalked.
-/
import Derived.Test.YtddhhjgegkkjbaaGreatDoorNt0
import Derived.Test.YtddhhjgegkkjbaaGreatDoorWd2
import Derived.Laws.EntriesVeiled
namespace Go.Proofs.YtddhhjgegkkjbaaGreatDoor
open Go.RowKit Go.Shelf Go.WideMaps
attribute [local go_sem] Oper.semAt_some

theorem Tryz.loadBoolW {w : World} {b o : Nat} {v : Value} (h : w.cell? ⟨b, o, none⟩ = some v) : (loadVar 4 ⟨b, o, none⟩).run Tryz.prog w = .ok v w := by
  go_simp
set_option maxRecDepth 100000 in
set_option maxHeartbeats 8000000 in
theorem walked4_any [TabC] (ev gv : Value) (nn : Int) (L : List (List Int)) (G : List Int) (w : World) (hV : Vars w) (hT : Tabs w) (hL : LsAt w ev L) (hG : NsAt w gv G) (hn0 : -9223372036854775808 ≤ nn) (hn1 : nn ≤ 9223372036854775807) :
    Calls Tryz.prog 3 #[.agg #[ev, gv, .int .i64 nn]] w fun e w' => e = .returned (.bool true) ∧ Kept [] w w' := by
  obtain ⟨W0, hW0⟩ : ∃ W0, W0 = w.alloc (.cells #[ev, gv, .int .i64 nn] 25) := ⟨_, rfl⟩
  obtain ⟨W1, hW1⟩ : ∃ W1, W1 = W0.alloc (.cells #[.bool false] 4) := ⟨_, rfl⟩
  have HW0 : Hid (W0 = w.alloc (.cells #[ev, gv, .int .i64 nn] 25)) := hW0
  have HW1 : Hid (W1 = W0.alloc (.cells #[.bool false] 4)) := hW1
  have k0 : Kept [] w W0 := by rw [hW0]; exact (Kept.refl _ _).alloc _
  have k1 : Kept [] W0 W1 := by rw [hW1]; exact (Kept.refl _ _).alloc _
  have k01 : Kept [] w W1 := k0.then k1
  have hs0 : W0.heap.size = w.heap.size + 1 := by rw [hW0]; exact World.size_alloc _ _
  have HK0 : Hid (Kept [] w W1) := k01
  have HC : Hid (∀ W, Kept [] W1 W → W.cell? ⟨w.heap.size, 2, none⟩ = some (.int .i64 nn) ∧ W.heap[w.heap.size + 1]? = some (.cells #[.bool false] 4 (0, 0))) := fun W k => by
    have h := (k1.then k).heap (show W0.heap[w.heap.size]? = _ by rw [hW0]; exact heap_alloc_new w _) (by simp)
    refine ⟨by rw [cell_of_row _ _ _ _ _ _ h]; rfl, ?_⟩
    rw [← hs0]
    exact k.heap (show W1.heap[W0.heap.size]? = _ by rw [hW1]; exact heap_alloc_new W0 _) (by simp)
  have hV0 := hV.kept k01 (by simp) (by simp)
  have HV : Hid (∀ W, Kept [] W1 W → Vars W ∧ Tabs W) := fun W k => ⟨hV0.kept k (by simp) (by simp), hT.kept (k01.then k)⟩
  have hfill := filled_typed ev gv nn L G W1 hV0 (hT.kept k01) (hL.kept k01) (hG.kept k01)
  obtain ⟨eo, ec, rfl, _⟩ := hL
  obtain ⟨go, gc, rfl, _⟩ := hG
  clear hV k0 k1 hV0 hT k01 hW0 hW1
  refine (callsIn_wide (n := 5)).1 ?_
  refine callsIn_of_wp_marks Tryz.func3 rfl trivial ?_ rfl
  simp only [Tryz.ntmps3, List.size_toArray, List.length_cons, List.length_nil, Nat.reduceAdd, Nat.reduceSub, Array.replicate_succ, Array.replicate_zero, List.push_toArray, List.append_toArray, List.nil_append, List.cons_append]
  gi_wp2_with fail
  refine ⟨trivial, ?_⟩
  rw [← HW0.out, ← HW1.out]
  refine (callsIn_wide.2 hfill).mono ?_
  rintro e w1 ⟨s, b, n, D, rfl, hfl, hn80, hs, hb, k1⟩
  have HB : Hid (W1.heap.size ≤ s ∧ W1.heap.size ≤ b) := ⟨hs, hb⟩
  have HN : Hid (n ≤ 80) := hn80
  have HK1 : Hid (Kept [] W1 w1) := k1
  have HF1 : Hid (∀ W, Kept [] w1 W → FlT W s b n D) := fun W q => hfl.on q
  have hall := All_any s
  clear hfill hs hb k1 hfl
  obtain ⟨wS, hwS⟩ : ∃ wS, wS = w1.alloc (.cells #[.pointer (some ⟨s, 0, none⟩)] 26) := ⟨_, rfl⟩
  obtain ⟨wA, hwA⟩ : ∃ wA, wA = wS.alloc (.cells #[.pointer (some ⟨s, 0, none⟩)] 26) := ⟨_, rfl⟩
  have HWS : Hid (wS = w1.alloc (.cells #[.pointer (some ⟨s, 0, none⟩)] 26)) := hwS
  have HWA : Hid (wA = wS.alloc (.cells #[.pointer (some ⟨s, 0, none⟩)] 26)) := hwA
  have kS : Kept [] w1 wS := by rw [hwS]; exact (Kept.refl _ _).alloc _
  have kA : Kept [] wS wA := by rw [hwA]; exact (Kept.refl _ _).alloc _
  have HKA : Hid (Kept [] w1 wA) := kS.then kA
  have HCA : Hid (∀ W, Kept [] wA W → W.cell? ⟨w1.heap.size, 0, none⟩ = some (.pointer (some ⟨s, 0, none⟩)) ∧ W.cell? ⟨wS.heap.size, 0, none⟩ = some (.pointer (some ⟨s, 0, none⟩))) := fun W q => by
    have h1 := (kA.then q).heap (show wS.heap[w1.heap.size]? = _ by rw [hwS]; exact heap_alloc_new w1 _) (by simp)
    have h2 := q.heap (show wA.heap[wS.heap.size]? = _ by rw [hwA]; exact heap_alloc_new wS _) (by simp)
    exact ⟨by rw [cell_of_row _ _ _ _ _ _ h1]; rfl, by rw [cell_of_row _ _ _ _ _ _ h2]; rfl⟩
  have c3A := (HCA.out wA (Kept.refl _ _)).1
  have hids := Ids_any (HF1.out wA HKA.out).st (by have := HN.out; omega) (HF1.out wA HKA.out).toFl.non
  clear hwS hwA kS kA
  gi_wp2_with fail
  refine ⟨trivial, ?_⟩
  rw [← HWS.out]
  refine (callsIn_wide.2 (hall wS)).mono ?_
  rintro e wq ⟨rfl, hwq⟩
  rw [← HWA.out] at hwq
  subst wq
  gi_wp2_with fail
  refine ⟨trivial, ?_⟩
  refine (callsIn_wide.2 hids).mono ?_
  rintro e w2 ⟨v, ids, rfl, hown, hof, k2⟩
  have hnf : ∀ (W : World) (q : Nat), (binOp .eql 30 (.func (.func 24) #[] #[.pointer (some ⟨q, 0, none⟩)]) .nilFunc).run Tryz.prog W = .ok (.bool false) W := fun W q => by kernel_rfl
  have HBL : Hid (b < w1.heap.size ∧ s < w1.heap.size) := ⟨(HF1.out w1 (Kept.refl _ _)).st.lt.2, (HF1.out w1 (Kept.refl _ _)).st.lt.1⟩
  have k12 : Kept [] w1 w2 := HKA.out.then k2
  have HW2 : Hid (w.heap.size + 2 ≤ w2.heap.size ∧ w1.heap.size ≤ w2.heap.size) := by
    have q1 := HK1.out.size
    have q2 := k12.size
    have q3 : W1.heap.size = w.heap.size + 2 := by rw [HW1.out, World.size_alloc, hs0]
    exact ⟨by omega, q2⟩
  have HBASE : Hid (∀ W, Kept [b] w2 W → W.cell? ⟨w1.heap.size, 0, none⟩ = some (.pointer (some ⟨s, 0, none⟩)) ∧ W.cell? ⟨wS.heap.size, 0, none⟩ = some (.pointer (some ⟨s, 0, none⟩)) ∧ W.cell? ⟨w.heap.size, 2, none⟩ = some (.int .i64 nn) ∧ W.heap[w.heap.size + 1]? = some (.cells #[.bool false] 4 (0, 0)) ∧ Vars W ∧ Tabs W ∧ Kept [] w W) := fun W q => by
    have kW1 : Kept [] W1 W := (HK1.out.then k12).trans q (fun x hx => Or.inr (by rw [List.mem_singleton.1 hx]; exact HB.out.2))
    have hc := HCA.out w2 k2
    have hwS : wS.heap.size = w1.heap.size + 1 := by rw [HWS.out]; exact World.size_alloc _ _
    have hbl := HBL.out.1
    refine ⟨q.cell hc.1 ?_, q.cell hc.2 ?_, (HC.out W kW1).1, (HC.out W kW1).2, (HV.out W kW1).1, (HV.out W kW1).2, HK0.out.then kW1⟩
    · simp; omega
    · simp; omega
  obtain ⟨w3, hw3⟩ : ∃ w3, w3 = w2.alloc (.cells #[.int .i64 0] 3) := ⟨_, rfl⟩
  have HW3 : Hid (w3 = w2.alloc (.cells #[.int .i64 0] 3)) := hw3
  have k3 : Kept [] w2 w3 := by rw [hw3]; exact (Kept.refl _ _).alloc _
  have hlen0 : ids.length ≤ 80 := by
    have h1 := (HF1.out w1 (Kept.refl _ _)).st.size
    have h2 := HN.out
    rw [hof.len]
    omega
  have hat : IdsAt w2 v ids := hown.at (fun id hid => (hof.mem id hid).1) (by omega)
  have hat3 : IdsAt w3 v ids := hat.onK k3
  obtain ⟨vo, vc, rfl, _, _, _⟩ := hat
  have HH0 : Hid (WkH w2 s b 0 ids vo vc w2.heap.size [] w3) := ⟨⟨n, D, HF1.out w3 (k12.then k3), HN.out, hof⟩, hat3, k3.more (by simp), by rw [hw3]; exact heap_alloc_new w2 _, fun m hm => (by cases hm), List.nodup_nil⟩
  clear hids hown hof c3A k2 k12 k3 hw3 hat3 hlen0
  gi_wp2_with fail
  rw [← HW3.out]
  refine wpIn_loop_hid (fun k a W => ∃ (r : Nat) (ids : List (List Int)) (vo : Option Addr) (vc br : Nat) (ms : List Nat), r + k = 3 ∧ WkH w2 s b r ids vo vc br ms W ∧ a.tmps.toList.length = 126 ∧ a.tmps.toList[1]? = some (.pointer (some ⟨w.heap.size, 0, none⟩)) ∧ a.tmps.toList[2]? = some (.pointer (some ⟨w.heap.size + 1, 0, none⟩)) ∧ a.tmps.toList[3]? = some (.pointer (some ⟨w1.heap.size, 0, none⟩)) ∧ a.tmps.toList[5]? = some (.func (.func 24) #[] #[.pointer (some ⟨wS.heap.size, 0, none⟩)]) ∧ a.tmps.toList[6]? = some (.slice vo ids.length vc) ∧ a.tmps.toList[7]? = some (.pointer (some ⟨br, 0, none⟩)) ∧ a.defers = ms.map markD) 3 ⟨0, ids, vo, vc, w2.heap.size, [], rfl, HH0.out, rfl, rfl, rfl, rfl, rfl, rfl, rfl, rfl⟩ ?_
  clear HH0 HW3 HF1 HN hnf HCA HKA HC HV HK1 HB
  rintro k ⟨T, ds⟩ W ⟨r, ids, vo, vc, br, ms, hrk, hH, hsz, hs1, hs2, hs3, hs5, hs6, hs7, rfl⟩ K hK
  obtain ⟨u, rfl⟩ := frame126 T hsz
  have e1 : u 1 = _ := Option.some.inj hs1
  have e2 : u 2 = _ := Option.some.inj hs2
  have e3 : u 3 = _ := Option.some.inj hs3
  have e5 : u 5 = _ := Option.some.inj hs5
  have e6 : u 6 = _ := Option.some.inj hs6
  have e7 : u 7 = _ := Option.some.inj hs7
  simp only [e1, e2, e3, e5, e6, e7]
  clear hsz hs1 hs2 hs3 hs5 hs6 hs7 e1 e2 e3 e5 e6 e7
  by_cases hr3 : r = 3
  · subst hr3
    have c7 : W.cell? ⟨br, 0, none⟩ = some (.int .i64 3) := by rw [cell_of_row _ _ _ _ _ _ hH.box]; rfl
    have hbs := HBASE.out W hH.kept
    have HB2 : Hid (W.heap[w.heap.size + 1]? = some (.cells #[.bool false] 4 (0, 0))) := hbs.2.2.2.1
    have c2 : W.cell? ⟨w.heap.size + 1, 0, none⟩ = some (.bool false) := by rw [cell_of_row _ _ _ _ _ _ HB2.out]; rfl
    have f2 : W.frozen? ⟨w.heap.size + 1, 0, none⟩ = false := frozen_of_row _ _ _ _ _ HB2.out
    have HH : Hid (WkH w2 s b 3 ids vo vc br ms W) := hH
    have HKW : Hid (Kept [] w W) := hbs.2.2.2.2.2.2
    clear hH hbs hK
    gi_wp2
    have b10 := setCell_box HB2.out (.bool true)
    have k10 : Kept [w.heap.size + 1] W (W.setCell ⟨w.heap.size + 1, 0, none⟩ (.bool true)) := (Kept.refl [w.heap.size + 1] _).setCell (p := ⟨w.heap.size + 1, 0, none⟩) (Or.inl (by simp)) _
    have hge : ∀ m, m ∈ ms → w.heap.size + 1 < m := fun m hm => by
      have q1 := (HH.out.marks m hm).1
      have q2 := HW2.out.1
      omega
    refine leaves_marks ms _ (fun m hm => k10.heap (HH.out.marks m hm).2 (by have := hge m hm; simp; omega)) HH.out.apart (fun w' k' => ?_)
    have b11 : w'.heap[w.heap.size + 1]? = some (.cells #[.bool true] 4 (0, 0)) := k'.heap b10 (fun hm => by have := hge _ hm; omega)
    have c11 : w'.cell? ⟨w.heap.size + 1, 0, none⟩ = some (.bool true) := by rw [cell_of_row _ _ _ _ _ _ b11]; rfl
    have hld := Tryz.loadBoolW c11
    have kfin : Kept [] w w' := (kept_newP HKW.out k10 (by omega)).trans k' (fun m hm => Or.inr (by have := hge m hm; omega))
    refine ⟨.bool true, ?_, rfl, kfin⟩
    simp [results, Tryz.results3, asAddr, hld]
  · obtain ⟨n, D, hfl, hn, hof⟩ := hH.fl
    have hbd : bndW r ≤ 162 := by unfold bndW; split <;> (try split) <;> omega
    have hlen : ids.length ≤ 162 := by
      have := hfl.st.size
      rw [hof.len]
      omega
    have HFL : Hid (FlT W s b n D) := hfl
    have HN2 : Hid (n ≤ bndW r ∧ bndW r ≤ 162 ∧ ids.length ≤ n) := ⟨hn, hbd, by rw [hof.len]; exact hfl.st.size⟩
    have HOF : Hid (IdsOf D ids) := hof
    have HGI : Hid (∀ id, id ∈ ids → GoodID id) := fun id hid => (hof.mem id hid).1
    have HH : Hid (WkH w2 s b r ids vo vc br ms W) := hH
    have HRK : Hid (r + k = 3 ∧ r ≤ 2) := ⟨hrk, by omega⟩
    have hsl : ids.length ≤ vc ∧ (vo = none → vc = 0) := by
      obtain ⟨ao, cap, he, h1, h2, _⟩ := hH.at'
      injection he with e1 _ e3
      subst e1 e3
      exact ⟨h1, h2⟩
    have hvc := hsl.1
    have HNV : Hid (vo = none → vc = 0) := hsl.2
    have c7 : W.cell? ⟨br, 0, none⟩ = some (.int .i64 r) := by rw [cell_of_row _ _ _ _ _ _ hH.box]; rfl
    have HC7 : Hid (∀ V, Kept [b] W V → V.cell? ⟨br, 0, none⟩ = some (.int .i64 r)) := fun V q => by
      have h := q.heap hH.box (by simpa using hfl.cells_ne hH.box)
      rw [cell_of_row _ _ _ _ _ _ h]
      rfl
    have HBS : Hid (b < W.heap.size ∧ w2.heap.size ≤ W.heap.size) := ⟨hfl.st.lt.2, hH.kept.size⟩
    have t9 : decide ((r : Int) < 3) = true := decide_eq_true (by omega)
    obtain ⟨Wg, hWg⟩ : ∃ Wg, Wg = W.alloc (.cells #[.slice none 0 0] 32) := ⟨_, rfl⟩
    obtain ⟨Wm, hWm⟩ : ∃ Wm, Wm = Wg.alloc (.cells #[.int .i64 ids.length] 3) := ⟨_, rfl⟩
    have HWG : Hid (Wg = W.alloc (.cells #[.slice none 0 0] 32)) := hWg
    have HWM : Hid (Wm = Wg.alloc (.cells #[.int .i64 ids.length] 3)) := hWm
    have kg : Kept [] W Wg := by rw [hWg]; exact (Kept.refl _ _).alloc _
    have km : Kept [] Wg Wm := by rw [hWm]; exact (Kept.refl _ _).alloc _
    have hsg : Wg.heap.size = W.heap.size + 1 := by rw [hWg]; exact World.size_alloc _ _
    have HSG : Hid (Wg.heap.size = W.heap.size + 1) := hsg
    have HM0 : Hid (Kept [] W Wm ∧ Wm.heap.size = W.heap.size + 2 ∧ Wm.heap[W.heap.size]? = some (.cells #[.slice none 0 0] 32 (0, 0)) ∧ Wm.heap[W.heap.size + 1]? = some (.cells #[.int .i64 ids.length] 3 (0, 0))) := by
      refine ⟨kg.then km, by rw [hWm, World.size_alloc, hsg], km.heap (show Wg.heap[W.heap.size]? = _ by rw [hWg]; exact heap_alloc_new W _) (by simp), ?_⟩
      rw [← hsg, hWm]
      exact heap_alloc_new Wg _
    clear hH hfl hof hn hbd hsl kg km hWg hWm hrk hsg
    refine wpIn_stop fun K1 H1 => ?_
    gi_wp2_with fail
    refine H1.out _ _ ?_
    clear H1 K1
    refine wpIn_stop fun K2 H2 => ?_
    refine wpIn_block ?_
    refine wpIn_stop fun K3 H3 => ?_
    gi_wp2_with fail
    rw [← HWG.out]
    refine H3.out _ _ ?_
    clear H3 K3
    refine wpIn_stop fun K4 H4 => ?_
    gi_wp2_with fail
    rw [← HWM.out]
    try rw [HSG.out]
    refine H4.out _ _ ?_
    clear H4 K4
    refine wpIn_midH (fun a w' => ∃ (m : Nat), m ≤ ids.length ∧ (r ≠ 2 → m = ids.length) ∧ Kept [] W w' ∧ w'.heap.size = W.heap.size + 2 ∧ w'.heap[W.heap.size]? = some (.cells #[.slice none 0 0] 32 (0, 0)) ∧ w'.heap[W.heap.size + 1]? = some (.cells #[.int .i64 m] 3 (0, 0)) ∧ a.tmps.toList.length = 126 ∧ a.tmps.toList[1]? = some (.pointer (some ⟨w.heap.size, 0, none⟩)) ∧ a.tmps.toList[2]? = some (.pointer (some ⟨w.heap.size + 1, 0, none⟩)) ∧ a.tmps.toList[3]? = some (.pointer (some ⟨w1.heap.size, 0, none⟩)) ∧ a.tmps.toList[5]? = some (.func (.func 24) #[] #[.pointer (some ⟨wS.heap.size, 0, none⟩)]) ∧ a.tmps.toList[6]? = some (.slice vo ids.length vc) ∧ a.tmps.toList[7]? = some (.pointer (some ⟨br, 0, none⟩)) ∧ a.tmps.toList[8]? = some (.pointer (some ⟨W.heap.size, 0, none⟩)) ∧ a.tmps.toList[9]? = some (.pointer (some ⟨W.heap.size + 1, 0, none⟩)) ∧ a.defers = ms.map markD) ?_ ?_
    · intro M HM
      have cN := (HBASE.out Wm (HH.out.kept.trans HM0.out.1 (by simp))).2.2.1
      have c7m : Wm.cell? ⟨br, 0, none⟩ = some (.int .i64 r) := HM0.out.1.cell c7 (by simp)
      have cmb : Wm.cell? ⟨W.heap.size + 1, 0, none⟩ = some (.int .i64 ids.length) := by rw [cell_of_row _ _ _ _ _ _ HM0.out.2.2.2]; rfl
      have fmb : Wm.frozen? ⟨W.heap.size + 1, 0, none⟩ = false := frozen_of_row _ _ _ _ _ HM0.out.2.2.2
      by_cases hr2 : r = 2
      · have t13 : ((r : Int) == 2) = true := by simp; omega
        obtain ⟨m, hm⟩ : ∃ m : Nat, nn % ((ids.length : Int) + 1) = m := ⟨(nn % ((ids.length : Int) + 1)).toNat, by have := Int.emod_nonneg nn (show (ids.length : Int) + 1 ≠ 0 by omega); omega⟩
        have hml : m ≤ ids.length := by have := Int.emod_lt_of_pos nn (show (0 : Int) < (ids.length : Int) + 1 by omega); omega
        have hinto := fun V => into4_any nn ((ids.length : Int) + 1) V (by omega) (by omega) hn0 hn1
        rw [hm] at hinto
        have hw1 : IntKind.i64.wrap ((ids.length : Int) + 1) = (ids.length : Int) + 1 := by simp [IntKind.wrap, IntKind.bits, IntKind.signed]; omega
        have HR2 : Hid (r = 2) := hr2
        clear hr2 hm
        gi_wp2_with fail
        refine ⟨trivial, ?_⟩
        refine (callsIn_wide.2 (hinto _)).mono ?_
        rintro e wi ⟨rfl, hwi⟩
        subst wi
        gi_wp2_with fail
        have kx : Kept [W.heap.size + 1] Wm (Wm.setCell ⟨W.heap.size + 1, 0, none⟩ (.int .i64 m)) := (Kept.refl [W.heap.size + 1] _).setCell (p := ⟨W.heap.size + 1, 0, none⟩) (Or.inl (by simp)) _
        refine HM.out _ _ ⟨m, hml, fun h => absurd HR2.out h, HM0.out.1.trans kx (fun x hx => Or.inr (by simp at hx; omega)), ?_, kx.heap HM0.out.2.2.1 (by simp), setCell_box HM0.out.2.2.2 _, rfl, rfl, rfl, rfl, rfl, rfl, rfl, rfl, rfl, rfl⟩
        rw [← HM0.out.2.1]
        exact World.size_setCell _ _ _
      · have t13 : ((r : Int) == 2) = false := by simp; omega
        clear hr2
        gi_wp2_with fail
        exact HM.out _ _ ⟨ids.length, Nat.le_refl _, fun _ => rfl, HM0.out.1, HM0.out.2.1, HM0.out.2.2.1, HM0.out.2.2.2, rfl, rfl, rfl, rfl, rfl, rfl, rfl, rfl, rfl, rfl⟩
    · rintro ⟨T, ds⟩ wF ⟨m, hml, hm2, kF, hsF, hgF, hmF, hsz, hs1, hs2, hs3, hs5, hs6, hs7, hs8, hs9, rfl⟩
      obtain ⟨u, rfl⟩ := frame126 T hsz
      have e1 : u 1 = _ := Option.some.inj hs1
      have e2 : u 2 = _ := Option.some.inj hs2
      have e3 : u 3 = _ := Option.some.inj hs3
      have e5 : u 5 = _ := Option.some.inj hs5
      have e6 : u 6 = _ := Option.some.inj hs6
      have e7 : u 7 = _ := Option.some.inj hs7
      have e8 : u 8 = _ := Option.some.inj hs8
      have e9 : u 9 = _ := Option.some.inj hs9
      simp only [e1, e2, e3, e5, e6, e7, e8, e9]
      clear hsz hs1 hs2 hs3 hs5 hs6 hs7 hs8 hs9 e1 e2 e3 e5 e6 e7 e8 e9
      have HFF : Hid (FlT wF s b n D) := HFL.out.on kF
      have HML : Hid (m ≤ ids.length ∧ (r ≠ 2 → m = ids.length)) := ⟨hml, hm2⟩
      have HKF : Hid (Kept [] W wF ∧ wF.heap.size = W.heap.size + 2 ∧ wF.heap[W.heap.size]? = some (.cells #[.slice none 0 0] 32 (0, 0)) ∧ wF.heap[W.heap.size + 1]? = some (.cells #[.int .i64 m] 3 (0, 0))) := ⟨kF, hsF, hgF, hmF⟩
      have HBF : Hid (b < wF.heap.size ∧ W.heap.size ≤ wF.heap.size ∧ ∀ y, Gof D y → y < W.heap.size) := ⟨by have := HBS.out.1; omega, by omega, fun y hy => hy.lt HFL.out.st⟩
      have hseq := all_G HFF.out.st (by have := HN2.out; omega) HFF.out.toFl.non EncOf HFF.out.toFl.encOf wS.heap.size (HBASE.out wF (HH.out.kept.trans kF (by simp))).2.1 4
      have hI0 : WkI W W.heap.size (W.heap.size + 1) s b (m : Int) n D none 0 [] wF := ⟨HFF.out, IdBox.start hgF, hmF, kF.more (by simp)⟩
      clear hml hm2 kF hsF hgF hmF
      refine wpIn_stop fun K5 H5 => ?_
      refine wpIn_stop fun K6 H6 => ?_
      gi_wp2_with fail
      refine H6.out _ _ ?_
      clear H6 K6
      refine wpIn_block ?_
      refine wpIn_cap fun T1 hT1 => ?_
      refine wpIn_rangeG_oneO rfl (by omega) (gf := 24) (lb := #[.pointer (some ⟨wS.heap.size, 0, none⟩)]) (by rw [hT1]; rfl) trivial (enters_of Tryz.func24 (by kernel_rfl) rfl) hseq (fun x A C h => h.keeps _) KpS.trans ?hKb (fun _ => rfl) (Below.refl _ _) 2
        (fun V => ∃ n' D' ao cap L, L = ids.take (if r = 2 then min (m + 1) ids.length else ids.length) ∧ n' ≤ n + adW r ids.length ∧ WkI W W.heap.size (W.heap.size + 1) s b (m : Int) n' D' ao cap L V)
        (fun pre V => pre.length ≤ 200 ∧ (r = 2 → pre.length ≤ m) ∧ wF.heap.size ≤ V.heap.size ∧ ∃ n' D' ao cap, n' ≤ n + adW r pre.length ∧ WkI W W.heap.size (W.heap.size + 1) s b (m : Int) n' D' ao cap (pre.map (·.xs)) V)
        (fun c pre V => c = .exit 2 ∧ (r = 2 ∧ pre.length = m + 1 ∨ 200 < pre.length) ∧ ∃ n' D' ao cap, n' ≤ n + adW r pre.length ∧ WkI W W.heap.size (W.heap.size + 1) s b (m : Int) n' D' ao cap (pre.map (·.xs)) V)
        ?hI ?hIx ⟨Nat.zero_le _, fun _ => Nat.zero_le _, Nat.le_refl _, n, D, none, 0, Nat.le_add_right _ _, hI0⟩
        (fun pre x a2 V => ∃ Bx ao cap n' D' ge ys, pre.length ≤ 200 ∧ (r = 2 → pre.length ≤ m) ∧ n' ≤ n + adW r pre.length ∧ WkX W wF W.heap.size (W.heap.size + 1) s b (m : Int) n' D' ao cap (pre.map (·.xs)) x Bx ge ys V ∧ a2 = { tmps := (((T1.setIfInBounds 41 (.agg (idC x.xs))).setIfInBounds 42 (.slice x.p x.l x.c)).setIfInBounds 10 (.pointer (some ⟨Bx, 0, none⟩))).setIfInBounds 11 (.slice x.p x.l x.c), defers := [] })
        ?hAx ?assign ?body ?done ?stop (fun _ h => h) ?cont
      case hKb => exact fun W' l o o2 hl ho hc _ => KpS.putObj (b := wF.heap.size) (fun y hy => Nat.lt_of_lt_of_le (HBF.out.2.2 y hy) HBF.out.2.1) W' l o o2 hl ho hc
      case hI =>
        intro pre V V2 row ⟨h1, h2, h3, n', D', ao, cap, h4, h5⟩ hg hr
        exact ⟨h1, h2, Nat.le_trans h3 hg.size, n', D', ao, cap, h4, h5.turns ⟨hg, hr⟩ HBF.out.1 HBF.out.2.1⟩
      case hIx =>
        intro c pre V V2 row ⟨h1, h2, n', D', ao, cap, h4, h5⟩ hg hr
        exact ⟨h1, h2, n', D', ao, cap, h4, h5.turns ⟨hg, hr⟩ HBF.out.1 HBF.out.2.1⟩
      case hAx =>
        intro pre x a2 _ V V2 row ⟨Bx, ao, cap, n', D', ge, ys, h1, h2, h3, h4, h5⟩ hg hr
        exact ⟨Bx, ao, cap, n', D', ge, ys, h1, h2, h3, h4.turns ⟨hg, hr⟩ HBF.out.1 HBF.out.2.1, h5⟩
      case done =>
        rintro xs V hS ⟨h1, h2, _, n', D', ao, cap, h4, h5⟩
        have e := hS.eq HFF.out.st HOF.out
        have hl : xs.length = ids.length := by rw [← e, List.length_map]
        refine ⟨n', D', ao, cap, _, ?_, by rw [← hl]; exact h4, h5⟩
        rw [e]
        split
        · rename_i h
          have := h2 h
          rw [List.take_of_length_le (by omega)]
        · rw [List.take_of_length_le (Nat.le_refl _)]
      case stop =>
        rintro c pre V hS ⟨rfl, h2, n', D', ao, cap, h4, h5⟩
        obtain ⟨e, hl⟩ := hS.whole HFF.out.st HOF.out
        rcases h2 with ⟨hr2, h2⟩ | h2
        · refine ⟨rfl, n', D', ao, cap, _, ?_, Nat.le_trans h4 (by simp [adW, hr2]), h5⟩
          rw [e, if_pos hr2, Nat.min_eq_left (by omega), h2]
        · exfalso
          have := HN2.out
          omega
      case assign =>
        rintro pre x A V K0 ⟨h1, h2, h3, n', D', ao, cap, h4, h5⟩ hx _ hK0
        obtain ⟨hxk, ge, ys, hxp, hxg, hxo, hxl, hx65, hxn, hxq⟩ := hx
        obtain ⟨U, hU⟩ : ∃ U, U = V.alloc (.cells (idC x.xs) 36) := ⟨_, rfl⟩
        have HUU : Hid (U = V.alloc (.cells (idC x.xs) 36)) := hU
        have kU : Kept [] V U := by rw [hU]; exact (Kept.refl _ _).alloc _
        have hsz : (Tryz.prog.info? 36).map (·.size) = some (idC x.xs).size := by rw [idC_size x.good.1]; exact Tryz.infoID
        have hzz : (idC zid).size = (idC x.xs).size := by rw [idC_size x.good.1]; rfl
        have hone : (idC x.xs).all (·.oneCell') = true := all_oneCell_toArray (map_oneCell _)
        have kA : Kept [] A U := hxk.then kU
        have HF : Hid (KeepsFrom wF.heap.size V U ∧ KpS (Gof D) V U ∧ pre.length ≤ 200 ∧ (r = 2 → pre.length ≤ m) ∧ n' ≤ n + adW r pre.length ∧ WkX W wF W.heap.size (W.heap.size + 1) s b (m : Int) n' D' ao cap (pre.map (·.xs)) x V.heap.size ge ys U) := by
          have q1 := hxk.size
          have q2 := HBF.out.2.1
          refine ⟨kU.others (by simp) _, KpS.of_kept kU (by simp) (by simp) (fun y hy => ?_), h1, h2, h4, h5.on kA, by rw [hU]; exact heap_alloc_new V _, by have := HKF.out.2.1; omega, fun e => ?_, hxp, Nat.le_trans h3 hxg, ownsK_on (owns_lower hxo (Nat.zero_le _)) kU (fun _ _ => by simp), hxl, h5.fl.toFl.off_new hxg, ⟨idKey_inj x.good ⟨digL_len ys, digL_octs ys⟩ hxq.1, hxq.2, hx65, hxn⟩, Nat.le_trans h3 (Nat.le_trans q1 kU.size)⟩
          · have := HBF.out.2.2 y hy
            omega
          · obtain ⟨_, _, c, hc⟩ := h5.ib.blk e
            have := lt_of_block hc
            omega
        clear h1 h2 h3 h4 h5 kU kA hU hxk hxg hxo hxl hx65 hxq hxp hxn
        subst hT1
        simp only [encsR]
        gi_wp2_with (refine listIn_store_new (by rfl) 36 (.tmp 10) (.tmp 41) (by rfl) V _ (idC x.xs) (by rfl) (by rfl) hsz hzz hone ?_; rw [← HUU.out])
        exact hK0 _ _ HF.out.1 HF.out.2.1 ⟨V.heap.size, ao, cap, n', D', ge, ys, HF.out.2.2.1, HF.out.2.2.2.1, HF.out.2.2.2.2.1, HF.out.2.2.2.2.2, rfl⟩
      case body =>
        rintro pre x a2 V hloop ⟨Bx, ao, cap, n', D', ge, ys, hp2, hp3, hn', hX, rfl⟩ _
        obtain ⟨zs, xp, xl, xc, xg⟩ := x
        obtain rfl : xp = some ⟨ge, 0, none⟩ := hX.p
        have hui := Tryz.underlying36
        obtain ⟨i0, hi0, hz0, hz1, hz2⟩ := info_parts Tryz.idInfo
        obtain ⟨Lp, hLp⟩ : ∃ Lp, Lp = pre.map (·.xs) := ⟨_, rfl⟩
        have HLP : Hid (Lp = pre.map (·.xs) ∧ Lp.length = pre.length) := ⟨hLp, by rw [hLp, List.length_map]⟩
        rw [← hLp] at hX
        have hlp : Lp.length ≤ 200 := by rw [HLP.out.2]; exact hp2
        have HPP : Hid ((r = 2 → Lp.length ≤ m) ∧ n' ≤ n + adW r Lp.length) := by rw [HLP.out.2]; exact ⟨hp3, hn'⟩
        have hdig : zs = digL ys := hX.dig.1
        have hx65 : ys.length ≤ 65536 := hX.dig.2.2.1
        have hxl : xl ≤ 65536 := by have h1 : ys.length = xl := hX.len; omega
        obtain ⟨uv, huv⟩ : ∃ uv, uv = zs.map (Value.int .u8) := ⟨_, rfl⟩
        have hidc : idC (digL ys) = uv.toArray := by rw [huv, ← hdig]; rfl
        have HUV : Hid (uv = zs.map (Value.int .u8)) := huv
        have hsv : (Tryz.prog.info? 36).map (·.size) = some uv.length := by rw [huv, List.length_map, xg.1]; exact Tryz.infoID
        have HRV : Hid (∀ U, Kept [] V U → U.rangeAt Bx 0 uv) := fun U q => by
          rw [huv]
          exact row_range (q.heap hX.idb (by simp))
        have HKV : Hid (∀ U, Kept [b] V U → Kept [b] w2 U) := fun U q => (HH.out.kept.then hX.i.kept).then q
        have HIDV : Hid (∀ U, Kept [] V U → Calls Tryz.prog 9 #[.slice (some ⟨ge, 0, none⟩) xl xc] U fun e w' => e = .returned (.agg uv.toArray) ∧ Kept [] V w') := fun U q => by
          rw [← hidc]
          exact (Id_any _ ys U (HBASE.out U (HKV.out U (q.more (by simp)))).2.2.2.2.1 (hX.own.bytes.kept' q (fun _ _ _ => by simp)) hX.dig.2.1 (by omega)).mono fun _ _ ⟨h1, h2⟩ => ⟨h1, q.then h2⟩
        have HEQ : Hid (∀ W, (Op.equalIn 10000 36 (.agg uv.toArray) (.agg uv.toArray)).run Tryz.prog W = .ok true W) := fun W => by
          rw [← hidc]
          have h1 := idEq (digL ys) (digL ys) W (digL_len ys) (digL_len ys)
          simpa using h1
        have HX : Hid (WkX W wF W.heap.size (W.heap.size + 1) s b (m : Int) n' D' ao cap Lp ⟨zs, some ⟨ge, 0, none⟩, xl, xc, xg⟩ Bx ge ys V) := hX
        have HGD : Hid (∀ (U : World), V.heap.size ≤ U.heap.size → ∀ y, Gof D y → y < U.heap.size) := fun U h y hy => by
          have q1 := HBF.out.2.2 y hy
          have q2 := HBF.out.2.1
          have q3 := hX.sz
          omega
        have HSV : Hid (wF.heap.size ≤ V.heap.size) := hX.sz
        subst hT1
        simp only [List.setIfInBounds_toArray, List.set_cons_zero, List.set_cons_succ]
        clear hLp hX hp2 hp3 hn' hidc huv hdig hx65 hloop
        refine wpIn_block ?_
        refine wpIn_stop fun K7 H7 => ?_
        gi_wp2_with fail
        refine round_quiet (Kept [] V) (by kernel_rfl) (by kernel_rfl) (by kernel_rfl) (Kept.refl [] V).drew ?_
        refine quiet_move (by rfl) (.tmp 11) rfl (.slice (some ⟨ge, 0, none⟩) xl xc) rfl ?_
        simp only [Act.put, List.setIfInBounds_toArray, List.set_cons_zero, List.set_cons_succ]
        refine quiet_call (by rfl) 9 #[.slice (some ⟨ge, 0, none⟩) xl xc] (.agg uv.toArray) (fun W => by go_simp) HIDV.out ?_
        simp only [Act.put, List.setIfInBounds_toArray, List.set_cons_zero, List.set_cons_succ]
        refine quiet_row (by rfl) _ _ rfl Bx 0 rfl uv _ HRV.out hui rfl hsv ?_
        simp only [Act.put, List.setIfInBounds_toArray, List.set_cons_zero, List.set_cons_succ]
        refine quiet_neq (by rfl) (.tmp 44) (.tmp 45) _ rfl _ _ rfl rfl true HEQ.out ?_
        simp only [Act.put, List.setIfInBounds_toArray, List.set_cons_zero, List.set_cons_succ]
        refine wpQuiet_nil fun V4 k4 => ?_
        have HX4 : Hid (WkX W wF W.heap.size (W.heap.size + 1) s b (m : Int) n' D' ao cap Lp ⟨zs, some ⟨ge, 0, none⟩, xl, xc, xg⟩ Bx ge ys V4) := HX.out.on k4
        have HM4 : Hid (Mv (Gof D) wF.heap.size V V4 ∧ V.heap.size ≤ V4.heap.size) := ⟨Mv.nil k4 (HGD.out V (Nat.le_refl _)), k4.size⟩
        have hrng : V4.rangeAt Bx 0 uv := HRV.out V4 k4
        clear k4 HRV HIDV HEQ HX
        gi_wp2_with fail
        refine H7.out _ _ ?_
        clear H7 K7
        have hul : uv.length = 1 * 32 := by rw [HUV.out, List.length_map, xg.1]
        have huo : ∀ u, u ∈ uv → u.oneCell' = true := by rw [HUV.out]; exact map_oneCell _
        have hbs := fun W => run_build_k (t := 32) Tryz.underlying32 Tryz.idInfo (by decide) (by decide) uv (by rw [hul]) W
        obtain ⟨Z5, hZ5⟩ : ∃ Z5, Z5 = V4.alloc (.cells uv.toArray 36) := ⟨_, rfl⟩
        have HZ5 : Hid (Z5 = V4.alloc (.cells uv.toArray 36)) := hZ5
        have k5 : Kept [] V4 Z5 := by rw [hZ5]; exact (Kept.refl _ _).alloc _
        have own5 : Z5.ownsRow W.heap.size 36 32 (.slice ao Lp.length cap) Lp.length (Lp.map fun id => id.map (Value.int .u8)).flatten := ownsK_on HX4.out.i.ib.own k5 (fun _ _ => by simp)
        have cells5 : ∀ j u, uv[j]? = some u → Z5.cell? ((⟨V4.heap.size, 0, none⟩ : Addr).add j) = some u := fun j u hu => by
          rw [Addr.add_mid]
          exact (row_range (show Z5.heap[V4.heap.size]? = _ by rw [hZ5]; exact heap_alloc_new V4 _)) j u hu
        have hb1 : Lp.length + 1 ≤ maxLen := by unfold maxLen; omega
        have hb2 : (Lp.length + 1) * 32 ≤ 140737488355328 := by omega
        have hb3 : W.heap.size ≤ Z5.heap.size := by
          have q1 := k5.size
          have q2 := HX4.out.sz
          have q3 := HBF.out.2.1
          omega
        have HK5 : Hid (Kept [] V4 Z5) := k5
        have cbx : V4.cell? ⟨W.heap.size, 0, none⟩ = some (.slice ao Lp.length cap) := HX4.out.i.ib.cell
        clear hZ5 k5
        refine wpIn_stop fun K8 H8 => ?_
        gi_wp2_with (first
          | (refine listIn_load_mid (by rfl) 36 (.tmp 10) (by rfl) Bx 0 (by rfl) uv _ hrng hui rfl hsv ?_)
          | (refine listIn_slice_k (by rfl) 32 36 (.tmp 48) (by rfl) uv (by rfl) hbs ?_; rw [← HZ5.out])
          | (gi_at_builtin; refine wpListIn_append_own _ (by rfl) _ _ 32 (by rfl) (W.heap.size) 36 i0 _ 32 32 Tryz.underlying32 hi0 hz0 hz1 hz2 Tryz.idZero (by decide) _ _ _ (by rfl) own5 ⟨V4.heap.size, 0, none⟩ 1 1 uv (by rfl) hul cells5 huo hb1 hb2 hb3 ?_
             intro v6 w6 own6 hgr6 _
             rw [HUV.out] at own6
             obtain ⟨g6, cap6, rfl, hc6, hf6, hI6, hq6, hv6⟩ := HX4.out.i.push (Nat.le_refl _) HK5.out own6 hgr6
             have HP6 := hide (And.intro hI6 (And.intro hq6 hv6))
             clear own6 hgr6 hI6 hq6 hv6))
        refine H8.out _ _ ?_
        clear H8 K8 own5 cells5 hbs hrng HZ5 HK5 hb1 hb2 hb3 cbx hul huo
        obtain ⟨pI, pq, pv⟩ := HP6.out
        clear HP6
        generalize hw7 : w6.setCell ⟨W.heap.size, 0, none⟩ (Value.slice (some ⟨g6, 0, none⟩) (Lp.length + 1) cap6) = w7 at pI pq pv ⊢
        clear hw7 hc6 hf6
        obtain ⟨cur4, hg4, hz4⟩ := HX4.out.own.blk HX4.out.len
        have hg7 : w7.heap[ge]? = some (.cells cur4 5 (0, 0)) := pq ge _ hg4 (bytes_ne hg4 HX4.out.i.ib.box (by decide)) (fun e => by
          obtain ⟨_, _, c, hc⟩ := HX4.out.i.ib.blk e
          exact bytes_ne hg4 hc (by decide) rfl)
        have HB7 : Hid (w7.heap[Bx]? = some (.cells (idC zs) 36 (0, 0))) := pq Bx _ HX4.out.idb HX4.out.ne1 HX4.out.ne2
        have HI7 : Hid (WkI W W.heap.size (W.heap.size + 1) s b (m : Int) n' D' (some ⟨g6, 0, none⟩) cap6 (Lp ++ [zs]) w7) := pI
        have HM7 : Hid (Mv (Gof D) wF.heap.size V w7 ∧ V.heap.size ≤ w7.heap.size) := by
          have q := pv (Gof D) wF.heap.size HBF.out.2.2
          exact ⟨HM4.out.1.trans q, Nat.le_trans HM4.out.2 q.kf.size⟩
        have HOFF : Hid (Off D' ge ∧ wF.heap.size ≤ ge) := ⟨HX4.out.off, HX4.out.hi⟩
        have HG7 : Hid (w7.heap[ge]? = some (.cells cur4 5 (0, 0)) ∧ xl ≤ cur4.size) := ⟨hg7, hz4⟩
        clear pI pq pv hg4 hg7 hz4 HX4 HM4
        refine wpIn_midH (fun a w' => Kept [ge] w7 w' ∧ a.tmps.toList.length = 126 ∧ a.tmps.toList[1]? = some (.pointer (some ⟨w.heap.size, 0, none⟩)) ∧ a.tmps.toList[2]? = some (.pointer (some ⟨w.heap.size + 1, 0, none⟩)) ∧ a.tmps.toList[3]? = some (.pointer (some ⟨w1.heap.size, 0, none⟩)) ∧ a.tmps.toList[5]? = some (.func (.func 24) #[] #[.pointer (some ⟨wS.heap.size, 0, none⟩)]) ∧ a.tmps.toList[6]? = some (.slice vo ids.length vc) ∧ a.tmps.toList[7]? = some (.pointer (some ⟨br, 0, none⟩)) ∧ a.tmps.toList[8]? = some (.pointer (some ⟨W.heap.size, 0, none⟩)) ∧ a.tmps.toList[9]? = some (.pointer (some ⟨W.heap.size + 1, 0, none⟩)) ∧ a.tmps.toList[10]? = some (.pointer (some ⟨Bx, 0, none⟩)) ∧ a.tmps.toList[11]? = some (.slice (some ⟨ge, 0, none⟩) xl xc) ∧ a.defers = []) ?_ ?_
        · intro M HM
          refine wpIn_stop fun K9 H9 => ?_
          gi_wp2_with fail
          refine H9.out _ _ ?_
          clear H9 K9
          refine wpIn_block ?_
          refine wpIn_loop_hid (fun j a w' => ∃ q : Nat, q + j = xl ∧ Kept [ge] w7 w' ∧ (∃ cur, w'.heap[ge]? = some (.cells cur 5 (0, 0)) ∧ xl ≤ cur.size) ∧ a.tmps.toList.length = 126 ∧ a.tmps.toList[1]? = some (.pointer (some ⟨w.heap.size, 0, none⟩)) ∧ a.tmps.toList[2]? = some (.pointer (some ⟨w.heap.size + 1, 0, none⟩)) ∧ a.tmps.toList[3]? = some (.pointer (some ⟨w1.heap.size, 0, none⟩)) ∧ a.tmps.toList[5]? = some (.func (.func 24) #[] #[.pointer (some ⟨wS.heap.size, 0, none⟩)]) ∧ a.tmps.toList[6]? = some (.slice vo ids.length vc) ∧ a.tmps.toList[7]? = some (.pointer (some ⟨br, 0, none⟩)) ∧ a.tmps.toList[8]? = some (.pointer (some ⟨W.heap.size, 0, none⟩)) ∧ a.tmps.toList[9]? = some (.pointer (some ⟨W.heap.size + 1, 0, none⟩)) ∧ a.tmps.toList[10]? = some (.pointer (some ⟨Bx, 0, none⟩)) ∧ a.tmps.toList[11]? = some (.slice (some ⟨ge, 0, none⟩) xl xc) ∧ a.tmps.toList[12]? = some (.int .i64 q) ∧ a.defers = []) xl ⟨0, by omega, Kept.refl _ _, ⟨cur4, HG7.out.1, HG7.out.2⟩, rfl, rfl, rfl, rfl, rfl, rfl, rfl, rfl, rfl, rfl, rfl, rfl, rfl⟩ ?_
          rintro j ⟨T, ds⟩ w' ⟨q, hq, kq, ⟨cur, hc, hcz⟩, hsz, hs1, hs2, hs3, hs5, hs6, hs7, hs8, hs9, hs10, hs11, hs12, rfl⟩ K0 hK0
          obtain ⟨u, rfl⟩ := frame126 T hsz
          have e1 : u 1 = _ := Option.some.inj hs1
          have e2 : u 2 = _ := Option.some.inj hs2
          have e3 : u 3 = _ := Option.some.inj hs3
          have e5 : u 5 = _ := Option.some.inj hs5
          have e6 : u 6 = _ := Option.some.inj hs6
          have e7 : u 7 = _ := Option.some.inj hs7
          have e8 : u 8 = _ := Option.some.inj hs8
          have e9 : u 9 = _ := Option.some.inj hs9
          have e10 : u 10 = _ := Option.some.inj hs10
          have e11 : u 11 = _ := Option.some.inj hs11
          have e12 : u 12 = _ := Option.some.inj hs12
          simp only [e1, e2, e3, e5, e6, e7, e8, e9, e10, e11, e12]
          clear hsz hs1 hs2 hs3 hs5 hs6 hs7 hs8 hs9 hs10 hs11 hs12 e1 e2 e3 e5 e6 e7 e8 e9 e10 e11 e12
          by_cases hqe : q = xl
          · have tq : decide ((q : Int) < (xl : Int)) = false := decide_eq_false (by omega)
            have tq2 : ¬ (q < xl) := by omega
            have HKQ : Hid (Kept [ge] w7 w') := kq
            clear kq hq hqe hc
            gi_wp2_with fail
            refine HM.out _ _ ?_
            exact ⟨HKQ.out, rfl, rfl, rfl, rfl, rfl, rfl, rfl, rfl, rfl, rfl, rfl, rfl⟩
          · have tq : decide ((q : Int) < (xl : Int)) = true := decide_eq_true (by omega)
            have hqx : q < xl := by omega
            obtain ⟨zq, hzq⟩ : ∃ z, cur[q]? = some z := ⟨_, Array.getElem?_eq_getElem (by omega)⟩
            have cq : w'.cell? ⟨ge, q, none⟩ = some zq := by rw [cell_of_row _ _ _ _ _ _ hc, hzq]
            have fq : w'.frozen? ⟨ge, q, none⟩ = false := frozen_of_row _ _ _ _ _ hc
            have hw : IntKind.i64.wrap ((q : Int) + 1) = ((q + 1 : Nat) : Int) := by simp [IntKind.wrap, IntKind.bits, IntKind.signed]; omega
            have b0 : (0 : Int) ≤ (q : Int) := by omega
            have HC9 : Hid (w'.heap[ge]? = some (.cells cur 5 (0, 0)) ∧ Kept [ge] w7 w' ∧ q + j = xl) := ⟨hc, kq, hq⟩
            clear hc kq hq hqe hzq
            gi_wp2_with fail
            obtain ⟨cur', hc', hz'⟩ := setCell_byte (k := q) HC9.out.1 (.int .u8 238)
            exact hK0.out _ _ ⟨j - 1, by have := HC9.out.2.2; omega, q + 1, by have := HC9.out.2.2; omega, HC9.out.2.1.setCell (p := ⟨ge, q, none⟩) (Or.inl (by simp)) _, ⟨cur', hc', by omega⟩, rfl, rfl, rfl, rfl, rfl, rfl, rfl, rfl, rfl, rfl, rfl, rfl, rfl⟩
        · rintro ⟨T, ds⟩ w8 ⟨k8, hsz, hs1, hs2, hs3, hs5, hs6, hs7, hs8, hs9, hs10, hs11, rfl⟩
          obtain ⟨u, rfl⟩ := frame126 T hsz
          have e1 : u 1 = _ := Option.some.inj hs1
          have e2 : u 2 = _ := Option.some.inj hs2
          have e3 : u 3 = _ := Option.some.inj hs3
          have e5 : u 5 = _ := Option.some.inj hs5
          have e6 : u 6 = _ := Option.some.inj hs6
          have e7 : u 7 = _ := Option.some.inj hs7
          have e8 : u 8 = _ := Option.some.inj hs8
          have e9 : u 9 = _ := Option.some.inj hs9
          have e10 : u 10 = _ := Option.some.inj hs10
          have e11 : u 11 = _ := Option.some.inj hs11
          simp only [e1, e2, e3, e5, e6, e7, e8, e9, e10, e11]
          clear hsz hs1 hs2 hs3 hs5 hs6 hs7 hs8 hs9 hs10 hs11 e1 e2 e3 e5 e6 e7 e8 e9 e10 e11
          have HI8 : Hid (WkI W W.heap.size (W.heap.size + 1) s b (m : Int) n' D' (some ⟨g6, 0, none⟩) cap6 (Lp ++ [zs]) w8) := HI7.out.wrote k8 HOFF.out.1 HG7.out.1 (Nat.le_trans HBF.out.2.1 HOFF.out.2)
          have HB8 : Hid (w8.heap[Bx]? = some (.cells (idC zs) 36 (0, 0))) := k8.heap HB7.out (by have := bytes_ne HB7.out HG7.out.1 (by decide); simpa using this)
          have HM8 : Hid (Mv (Gof D) wF.heap.size V w8 ∧ V.heap.size ≤ w8.heap.size) := by
            refine ⟨HM7.out.1.trans (Mv.cells k8 (fun y hy => ?_) (HGD.out w7 HM7.out.2)), Nat.le_trans HM7.out.2 k8.size⟩
            obtain rfl := List.mem_singleton.1 hy
            refine ⟨⟨cur4, 5, (0, 0), HG7.out.1, by decide⟩, fun hG => ?_⟩
            have q1 := HBF.out.2.2 _ hG
            have q2 := HBF.out.2.1
            have q3 := HOFF.out.2
            omega
          clear k8 HI7 HB7 HM7 HG7 HOFF
          obtain ⟨ao6, hao6⟩ : ∃ ao6, ao6 = (some ⟨g6, 0, none⟩ : Option Addr) := ⟨_, rfl⟩
          rw [← hao6] at HI8
          refine wpIn_midH (fun a w' => ∃ n4 D4, n4 ≤ n + adW r (Lp.length + 1) ∧ WkI W W.heap.size (W.heap.size + 1) s b (m : Int) n4 D4 ao6 cap6 (Lp ++ [zs]) w' ∧ (Mv (Gof D) wF.heap.size V w' ∧ V.heap.size ≤ w'.heap.size) ∧ a.tmps.toList.length = 126 ∧ a.tmps.toList[1]? = some (.pointer (some ⟨w.heap.size, 0, none⟩)) ∧ a.tmps.toList[2]? = some (.pointer (some ⟨w.heap.size + 1, 0, none⟩)) ∧ a.tmps.toList[3]? = some (.pointer (some ⟨w1.heap.size, 0, none⟩)) ∧ a.tmps.toList[5]? = some (.func (.func 24) #[] #[.pointer (some ⟨wS.heap.size, 0, none⟩)]) ∧ a.tmps.toList[6]? = some (.slice vo ids.length vc) ∧ a.tmps.toList[7]? = some (.pointer (some ⟨br, 0, none⟩)) ∧ a.tmps.toList[8]? = some (.pointer (some ⟨W.heap.size, 0, none⟩)) ∧ a.tmps.toList[9]? = some (.pointer (some ⟨W.heap.size + 1, 0, none⟩)) ∧ a.tmps.toList[10]? = some (.pointer (some ⟨Bx, 0, none⟩)) ∧ a.tmps.toList[11]? = some (.slice (some ⟨ge, 0, none⟩) xl xc) ∧ a.defers = []) ?_ ?_
          · intro M HM
            have c7x : w8.cell? ⟨br, 0, none⟩ = some (.int .i64 r) := HC7.out w8 HI8.out.kept
            have c8x : w8.cell? ⟨W.heap.size, 0, none⟩ = some (.slice ao6 (Lp.length + 1) cap6) := by
              have h := HI8.out.ib.cell
              rwa [List.length_append, List.length_singleton] at h
            have hod : ((Lp.length : Int) + 1) % 2 = 1 ∨ ((Lp.length : Int) + 1) % 2 = 0 := by omega
            by_cases hy : r = 0 ∧ ((Lp.length : Int) + 1) % 2 = 1
            · have t1 : ((r : Int) == 0) = true := by simp; omega
              have t2 : (((Lp.length : Int) + 1) % 2 == 1) = true := by simpa using hy.2
              have HR0 : Hid (r = 0) := hy.1
              have c3x := (HBASE.out w8 (HH.out.kept.then HI8.out.kept)).1
              have hrng : w8.rangeAt Bx 0 uv := by rw [HUV.out]; exact row_range HB8.out
              have hrem := Remove_st HI8.out.fl.st xg
              have hidz : idC zs = uv.toArray := by rw [HUV.out]; rfl
              rw [hidz] at hrem
              clear hy hod hidz
              gi_wp2_with (refine listIn_load_mid (by rfl) 36 (.tmp 10) (by rfl) Bx 0 (by rfl) uv _ hrng hui rfl hsv ?_)
              refine ⟨trivial, ?_⟩
              refine (CallsIn.inRound _ (callsIn_wide.2 hrem)).mono ?_
              rintro e w9 ⟨rfl, hst9, k9⟩
              have HF9 : Hid (FlT w9 s b n' (D'.del (idKey zs))) := HI8.out.fl.del k9 hst9
              have HI9 : Hid (WkI W W.heap.size (W.heap.size + 1) s b (m : Int) n' (D'.del (idKey zs)) ao6 cap6 (Lp ++ [zs]) w9) := HI8.out.mapped k9 HF9.out
              have HM9 : Hid (Mv (Gof D) wF.heap.size V w9 ∧ V.heap.size ≤ w9.heap.size) := ⟨HM8.out.1.trans (Mv.map k9 HI8.out.fl.isMap HBF.out.1 HFL.out.gof_ne (HGD.out w8 HM8.out.2)), Nat.le_trans HM8.out.2 k9.size⟩
              have c3y := (HBASE.out w9 (HH.out.kept.then HI9.out.kept)).1
              have c8y : w9.cell? ⟨W.heap.size, 0, none⟩ = some (.slice ao6 (Lp.length + 1) cap6) := by
                have h := HI9.out.ib.cell
                rwa [List.length_append, List.length_singleton] at h
              obtain ⟨z, hz⟩ : ∃ z, z = IntKind.u8.wrap ((Lp.length : Int) + 1) := ⟨_, rfl⟩
              have hz0' : 0 ≤ z ∧ z ≤ 255 := by
                rw [hz]
                simp [IntKind.wrap, IntKind.bits, IntKind.signed]
                omega
              have hwz : IntKind.u8.wrap ((Lp.length : Int) + 1) = z := hz.symm
              obtain ⟨wp, hwp⟩ : ∃ wp, wp = w9.alloc (.cells #[.int .u8 1, .int .u8 119, .int .u8 z] 5) := ⟨_, rfl⟩
              have HWP : Hid (wp = w9.alloc (.cells #[.int .u8 1, .int .u8 119, .int .u8 z] 5)) := hwp
              have kp : Kept [] w9 wp := by rw [hwp]; exact (Kept.refl _ _).alloc _
              have HIP : Hid (WkI W W.heap.size (W.heap.size + 1) s b (m : Int) n' (D'.del (idKey zs)) ao6 cap6 (Lp ++ [zs]) wp) := HI9.out.on kp
              have hbp : BytesAt wp (.slice (some ⟨w9.heap.size, 0, none⟩) [1, 119, z].length 3) [1, 119, z] := BytesAt.row (w := wp) (g := w9.heap.size) (t := 5) (ys := [1, 119, z]) (zs := []) (by rw [hwp]; exact heap_alloc_new w9 _) 3 (by simp)
              have hbq := HBASE.out wp (HH.out.kept.then HIP.out.kept)
              have hput := Put_any HIP.out.fl (by have q1 := HPP.out.2; have q2 := HN2.out; have q3 : adW r Lp.length ≤ Lp.length := by unfold adW; split <;> omega
                                                  omega) (parErr_blob (ys := [119, z]) (by simp)) (by intro y hy; simp at hy; rcases hy with rfl | rfl | rfl <;> omega) hbp hbq.2.2.2.2.1 hbq.2.2.2.2.2.1
              have HMP : Hid (Mv (Gof D) wF.heap.size V wp ∧ V.heap.size ≤ wp.heap.size) := ⟨HM9.out.1.trans (Mv.nil kp (HGD.out w9 HM9.out.2)), Nat.le_trans HM9.out.2 kp.size⟩
              clear hst9 k9 kp hwp hbp hbq hz hrng hrem c3x c8x c7x
              gi_wp2_with fail
              rw [← HWP.out]
              refine ⟨trivial, ?_⟩
              refine (CallsIn.inRound _ (callsIn_wide.2 hput)).mono ?_
              rintro e wt ⟨⟨zz, nw, er, rfl, _⟩, kt, n5, D5, hn5, hf5⟩
              have HTT : Hid (n5 ≤ n' + 1 ∧ WkI W W.heap.size (W.heap.size + 1) s b (m : Int) n5 D5 ao6 cap6 (Lp ++ [zs]) wt ∧ (Mv (Gof D) wF.heap.size V wt ∧ V.heap.size ≤ wt.heap.size)) := ⟨hn5, HIP.out.mapped kt hf5, HMP.out.1.trans (Mv.map kt HIP.out.fl.isMap HBF.out.1 HFL.out.gof_ne (HGD.out wp HMP.out.2)), Nat.le_trans HMP.out.2 kt.size⟩
              clear hn5 kt hf5
              gi_wp2_with fail
              refine HM.out _ _ ⟨n5, D5, ?_, HTT.out.2.1, HTT.out.2.2, rfl, rfl, rfl, rfl, rfl, rfl, rfl, rfl, rfl, rfl, rfl, rfl⟩
              have q1 := HPP.out.2
              have q2 := HTT.out.1
              have q3 := HR0.out
              unfold adW at *
              simp only [if_pos q3] at *
              omega
            · have hle : n' ≤ n + adW r (Lp.length + 1) := by
                have q1 := HPP.out.2
                unfold adW at *
                split at q1 <;> simp_all <;> omega
              have HLE : Hid (n' ≤ n + adW r (Lp.length + 1)) := hle
              clear hle
              by_cases hr0 : r = 0
              · have t1 : ((r : Int) == 0) = true := by simp; omega
                have t2 : (((Lp.length : Int) + 1) % 2 == 1) = false := by
                  rcases hod with h | h
                  · exact absurd ⟨hr0, h⟩ hy
                  · rw [h]; rfl
                clear hy hod hr0
                gi_wp2_with fail
                exact HM.out _ _ ⟨n', D', HLE.out, HI8.out, HM8.out, rfl, rfl, rfl, rfl, rfl, rfl, rfl, rfl, rfl, rfl, rfl, rfl⟩
              · have t1 : ((r : Int) == 0) = false := by simp; omega
                clear hy hod hr0
                gi_wp2_with fail
                exact HM.out _ _ ⟨n', D', HLE.out, HI8.out, HM8.out, rfl, rfl, rfl, rfl, rfl, rfl, rfl, rfl, rfl, rfl, rfl, rfl⟩
          · rintro ⟨T, ds⟩ w9 ⟨n4, D4, hn4, hI9, hM9, hsz, hs1, hs2, hs3, hs5, hs6, hs7, hs8, hs9, hs10, hs11, rfl⟩
            obtain ⟨u, rfl⟩ := frame126 T hsz
            have e1 : u 1 = _ := Option.some.inj hs1
            have e2 : u 2 = _ := Option.some.inj hs2
            have e3 : u 3 = _ := Option.some.inj hs3
            have e5 : u 5 = _ := Option.some.inj hs5
            have e6 : u 6 = _ := Option.some.inj hs6
            have e7 : u 7 = _ := Option.some.inj hs7
            have e8 : u 8 = _ := Option.some.inj hs8
            have e9 : u 9 = _ := Option.some.inj hs9
            have e10 : u 10 = _ := Option.some.inj hs10
            have e11 : u 11 = _ := Option.some.inj hs11
            simp only [e1, e2, e3, e5, e6, e7, e8, e9, e10, e11]
            clear hsz hs1 hs2 hs3 hs5 hs6 hs7 hs8 hs9 hs10 hs11 e1 e2 e3 e5 e6 e7 e8 e9 e10 e11
            have HN4 : Hid (n4 ≤ n + adW r (Lp.length + 1)) := hn4
            have HI9 : Hid (WkI W W.heap.size (W.heap.size + 1) s b (m : Int) n4 D4 ao6 cap6 (Lp ++ [zs]) w9) := hI9
            have HM9 : Hid (Mv (Gof D) wF.heap.size V w9 ∧ V.heap.size ≤ w9.heap.size) := hM9
            clear hn4 hI9 hM9 HI8 HB8 HM8
            refine wpIn_midH (fun a w' => ∃ n5 D5, n5 ≤ n + adW r (Lp.length + 1) ∧ WkI W W.heap.size (W.heap.size + 1) s b (m : Int) n5 D5 ao6 cap6 (Lp ++ [zs]) w' ∧ (Mv (Gof D) wF.heap.size V w' ∧ V.heap.size ≤ w'.heap.size) ∧ a.tmps.toList.length = 126 ∧ a.tmps.toList[1]? = some (.pointer (some ⟨w.heap.size, 0, none⟩)) ∧ a.tmps.toList[2]? = some (.pointer (some ⟨w.heap.size + 1, 0, none⟩)) ∧ a.tmps.toList[3]? = some (.pointer (some ⟨w1.heap.size, 0, none⟩)) ∧ a.tmps.toList[5]? = some (.func (.func 24) #[] #[.pointer (some ⟨wS.heap.size, 0, none⟩)]) ∧ a.tmps.toList[6]? = some (.slice vo ids.length vc) ∧ a.tmps.toList[7]? = some (.pointer (some ⟨br, 0, none⟩)) ∧ a.tmps.toList[8]? = some (.pointer (some ⟨W.heap.size, 0, none⟩)) ∧ a.tmps.toList[9]? = some (.pointer (some ⟨W.heap.size + 1, 0, none⟩)) ∧ a.tmps.toList[10]? = some (.pointer (some ⟨Bx, 0, none⟩)) ∧ a.tmps.toList[11]? = some (.slice (some ⟨ge, 0, none⟩) xl xc) ∧ a.defers = []) ?_ ?_
            · intro M HM
              have c7x : w9.cell? ⟨br, 0, none⟩ = some (.int .i64 r) := HC7.out w9 HI9.out.kept
              have c8x : w9.cell? ⟨W.heap.size, 0, none⟩ = some (.slice ao6 (Lp.length + 1) cap6) := by
                have h := HI9.out.ib.cell
                rwa [List.length_append, List.length_singleton] at h
              by_cases hr1 : r = 1
              · have t1 : ((r : Int) == 1) = true := by simp; omega
                by_cases hl2 : Lp.length = 1
                · have t2 : ((Lp.length : Int) + 1 == 2) = true := by simp; omega
                  have c3x := (HBASE.out w9 (HH.out.kept.then HI9.out.kept)).1
                  have hclr := Clear_st HI9.out.fl.st
                  clear hr1 hl2
                  gi_wp2_with fail
                  refine ⟨trivial, ?_⟩
                  refine (CallsIn.inRound _ (callsIn_wide.2 hclr)).mono ?_
                  rintro e wt ⟨⟨vv, rfl⟩, hst, kt⟩
                  have HTT : Hid (WkI W W.heap.size (W.heap.size + 1) s b (m : Int) 0 (.map []) ao6 cap6 (Lp ++ [zs]) wt ∧ (Mv (Gof D) wF.heap.size V wt ∧ V.heap.size ≤ wt.heap.size)) := ⟨HI9.out.mapped kt (FlT.start hst), HM9.out.1.trans (Mv.map kt HI9.out.fl.isMap HBF.out.1 HFL.out.gof_ne (HGD.out w9 HM9.out.2)), Nat.le_trans HM9.out.2 kt.size⟩
                  clear hst kt hclr
                  gi_wp2_with fail
                  exact HM.out _ _ ⟨0, _, Nat.zero_le _, HTT.out.1, HTT.out.2, rfl, rfl, rfl, rfl, rfl, rfl, rfl, rfl, rfl, rfl, rfl, rfl⟩
                · have t2 : ((Lp.length : Int) + 1 == 2) = false := by simp; omega
                  clear hr1 hl2
                  gi_wp2_with fail
                  exact HM.out _ _ ⟨n4, D4, HN4.out, HI9.out, HM9.out, rfl, rfl, rfl, rfl, rfl, rfl, rfl, rfl, rfl, rfl, rfl, rfl⟩
              · have t1 : ((r : Int) == 1) = false := by simp; omega
                clear hr1
                gi_wp2_with fail
                exact HM.out _ _ ⟨n4, D4, HN4.out, HI9.out, HM9.out, rfl, rfl, rfl, rfl, rfl, rfl, rfl, rfl, rfl, rfl, rfl, rfl⟩
            · rintro ⟨T, ds⟩ wa ⟨n5, D5, hn5, hIa, hMa, hsz, hs1, hs2, hs3, hs5, hs6, hs7, hs8, hs9, hs10, hs11, rfl⟩
              obtain ⟨u, rfl⟩ := frame126 T hsz
              have e1 : u 1 = _ := Option.some.inj hs1
              have e2 : u 2 = _ := Option.some.inj hs2
              have e3 : u 3 = _ := Option.some.inj hs3
              have e5 : u 5 = _ := Option.some.inj hs5
              have e6 : u 6 = _ := Option.some.inj hs6
              have e7 : u 7 = _ := Option.some.inj hs7
              have e8 : u 8 = _ := Option.some.inj hs8
              have e9 : u 9 = _ := Option.some.inj hs9
              have e10 : u 10 = _ := Option.some.inj hs10
              have e11 : u 11 = _ := Option.some.inj hs11
              simp only [e1, e2, e3, e5, e6, e7, e8, e9, e10, e11]
              clear hsz hs1 hs2 hs3 hs5 hs6 hs7 hs8 hs9 hs10 hs11 e1 e2 e3 e5 e6 e7 e8 e9 e10 e11
              have HN5 : Hid (n5 ≤ n + adW r (Lp.length + 1)) := hn5
              clear HI9 HM9
              have HI9 : Hid (WkI W W.heap.size (W.heap.size + 1) s b (m : Int) n5 D5 ao6 cap6 (Lp ++ [zs]) wa) := hIa
              have HM9 : Hid (Mv (Gof D) wF.heap.size V wa ∧ V.heap.size ≤ wa.heap.size) := hMa
              have c7x : wa.cell? ⟨br, 0, none⟩ = some (.int .i64 r) := HC7.out wa HI9.out.kept
              have c8x : wa.cell? ⟨W.heap.size, 0, none⟩ = some (.slice ao6 (Lp.length + 1) cap6) := by
                have h := HI9.out.ib.cell
                rwa [List.length_append, List.length_singleton] at h
              have c9x : wa.cell? ⟨W.heap.size + 1, 0, none⟩ = some (.int .i64 m) := by rw [cell_of_row _ _ _ _ _ _ HI9.out.most]; rfl
              have hwm : IntKind.i64.wrap ((m : Int) + 1) = (m : Int) + 1 := by have := HML.out.1; simp [IntKind.wrap, IntKind.bits, IntKind.signed]; omega
              have hlp9 := HPP.out.1
              have HLP9 : Hid (r = 2 → Lp.length ≤ m) := hlp9
              clear hn5 hIa hMa hlp9
              by_cases hr2 : r = 2
              · have t1 : ((r : Int) == 2) = true := by simp; omega
                have HR2 : Hid (r = 2) := hr2
                by_cases hlm : Lp.length = m
                · have t2 : ((Lp.length : Int) + 1 == (m : Int) + 1) = true := by simp; omega
                  have HLM : Hid (Lp.length = m) := hlm
                  clear hr2 hlm
                  gi_wp2_with fail
                  refine ⟨HM9.out.1.kf, rfl, ?_, n5, D5, ao6, cap6, ?_, ?_⟩
                  · rw [List.length_append, List.length_singleton, ← HLP.out.2]
                    exact Or.inl ⟨HR2.out, by rw [HLM.out]⟩
                  · rw [List.length_append, List.length_singleton, ← HLP.out.2]
                    exact HN5.out
                  · rw [List.map_append, ← HLP.out.1]
                    exact HI9.out
                · have t2 : ((Lp.length : Int) + 1 == (m : Int) + 1) = false := by simp; omega
                  have HLM : Hid (Lp.length + 1 ≤ m) := by
                    have := HLP9.out hr2
                    show Lp.length + 1 ≤ m
                    omega
                  clear hr2 hlm
                  by_cases hbig : 200 < Lp.length + 1
                  · have t3 : decide ((200 : Int) < (Lp.length : Int) + 1) = true := decide_eq_true (by omega)
                    gi_wp2_with fail
                    refine ⟨HM9.out.1.kf, rfl, ?_, n5, D5, ao6, cap6, ?_, ?_⟩
                    · rw [List.length_append, List.length_singleton, ← HLP.out.2]
                      exact Or.inr hbig
                    · rw [List.length_append, List.length_singleton, ← HLP.out.2]
                      exact HN5.out
                    · rw [List.map_append, ← HLP.out.1]
                      exact HI9.out
                  · have t3 : decide ((200 : Int) < (Lp.length : Int) + 1) = false := decide_eq_false (by omega)
                    gi_wp2_with fail
                    refine ⟨HM9.out.1.kf, HM9.out.1.kp, ?_, ?_, ?_, n5, D5, ao6, cap6, ?_, ?_⟩
                    · rw [List.length_append, List.length_singleton, ← HLP.out.2]
                      omega
                    · rw [List.length_append, List.length_singleton, ← HLP.out.2]
                      exact fun _ => HLM.out
                    · exact Nat.le_trans HSV.out HM9.out.2
                    · rw [List.length_append, List.length_singleton, ← HLP.out.2]
                      exact HN5.out
                    · rw [List.map_append, ← HLP.out.1]
                      exact HI9.out
              · have t1 : ((r : Int) == 2) = false := by simp; omega
                have HR2 : Hid (r ≠ 2) := hr2
                clear hr2
                by_cases hbig : 200 < Lp.length + 1
                · have t3 : decide ((200 : Int) < (Lp.length : Int) + 1) = true := decide_eq_true (by omega)
                  gi_wp2_with fail
                  refine ⟨HM9.out.1.kf, rfl, ?_, n5, D5, ao6, cap6, ?_, ?_⟩
                  · rw [List.length_append, List.length_singleton, ← HLP.out.2]
                    exact Or.inr hbig
                  · rw [List.length_append, List.length_singleton, ← HLP.out.2]
                    exact HN5.out
                  · rw [List.map_append, ← HLP.out.1]
                    exact HI9.out
                · have t3 : decide ((200 : Int) < (Lp.length : Int) + 1) = false := decide_eq_false (by omega)
                  gi_wp2_with fail
                  refine ⟨HM9.out.1.kf, HM9.out.1.kp, ?_, ?_, ?_, n5, D5, ao6, cap6, ?_, ?_⟩
                  · rw [List.length_append, List.length_singleton, ← HLP.out.2]
                    omega
                  · rw [List.length_append, List.length_singleton, ← HLP.out.2]
                    exact fun h => absurd h HR2.out
                  · exact Nat.le_trans HSV.out HM9.out.2
                  · rw [List.length_append, List.length_singleton, ← HLP.out.2]
                    exact HN5.out
                  · rw [List.map_append, ← HLP.out.1]
                    exact HI9.out
      case cont =>
        rintro V ⟨n', D', ao, cap, L, hL, hn', hI⟩ hD
        obtain ⟨m2, hm2⟩ : ∃ m2 : Nat, m2 = (if r = 2 then min (m + 1) ids.length else ids.length) := ⟨_, rfl⟩
        rw [← hm2] at hL
        have hm2l : m2 ≤ ids.length := by rw [hm2]; split <;> omega
        have HL : Hid (L = ids.take m2 ∧ L.length = m2) := ⟨hL, by rw [hL, List.length_take]; omega⟩
        have HM2 : Hid (m2 = (if r = 2 then min (m + 1) ids.length else ids.length)) := hm2
        have HN3 : Hid (n' ≤ n + adW r ids.length) := hn'
        have HI : Hid (WkI W W.heap.size (W.heap.size + 1) s b (m : Int) n' D' ao cap L V) := hI
        have HD : Hid (V.heap[wF.heap.size]? = some (.deferred (some []))) := hD
        subst hT1
        refine H5.out _ _ ?_
        clear H5 K5 hL hm2 hn' hI hD hseq hI0
        refine wpIn_midH (fun a w' => WkI W W.heap.size (W.heap.size + 1) s b (m2 : Int) n' D' ao cap L w' ∧ w'.heap[wF.heap.size]? = some (.deferred (some [])) ∧ a.tmps.toList.length = 126 ∧ a.tmps.toList[1]? = some (.pointer (some ⟨w.heap.size, 0, none⟩)) ∧ a.tmps.toList[2]? = some (.pointer (some ⟨w.heap.size + 1, 0, none⟩)) ∧ a.tmps.toList[3]? = some (.pointer (some ⟨w1.heap.size, 0, none⟩)) ∧ a.tmps.toList[5]? = some (.func (.func 24) #[] #[.pointer (some ⟨wS.heap.size, 0, none⟩)]) ∧ a.tmps.toList[6]? = some (.slice vo ids.length vc) ∧ a.tmps.toList[7]? = some (.pointer (some ⟨br, 0, none⟩)) ∧ a.tmps.toList[8]? = some (.pointer (some ⟨W.heap.size, 0, none⟩)) ∧ a.tmps.toList[9]? = some (.pointer (some ⟨W.heap.size + 1, 0, none⟩)) ∧ a.defers = markD wF.heap.size :: ms.map markD) ?_ ?_
        · intro M HM
          have c7x : V.cell? ⟨br, 0, none⟩ = some (.int .i64 r) := HC7.out V HI.out.kept
          have c9x : V.cell? ⟨W.heap.size + 1, 0, none⟩ = some (.int .i64 m) := by rw [cell_of_row _ _ _ _ _ _ HI.out.most]; rfl
          have f9x : V.frozen? ⟨W.heap.size + 1, 0, none⟩ = false := frozen_of_row _ _ _ _ _ HI.out.most
          by_cases hr2 : r = 2
          · have t1 : ((r : Int) == 2) = true := by simp; omega
            have hwm : IntKind.i64.wrap ((m : Int) + 1) = (m : Int) + 1 := by have := HML.out.1; simp [IntKind.wrap, IntKind.bits, IntKind.signed]; omega
            have hmn : min ((m : Int) + 1) (ids.length : Int) = (m2 : Int) := by
              have := HM2.out
              rw [if_pos hr2] at this
              omega
            have HE : Hid ((WkI W W.heap.size (W.heap.size + 1) s b (m2 : Int) n' D' ao cap L (V.setCell ⟨W.heap.size + 1, 0, none⟩ (.int .i64 m2))) ∧ (V.setCell ⟨W.heap.size + 1, 0, none⟩ (.int .i64 m2)).heap[wF.heap.size]? = some (.deferred (some []))) := by
              refine ⟨HI.out.setMost (by omega) _, ?_⟩
              have kx : Kept [W.heap.size + 1] V (V.setCell ⟨W.heap.size + 1, 0, none⟩ (.int .i64 m2)) := (Kept.refl [W.heap.size + 1] _).setCell (p := ⟨W.heap.size + 1, 0, none⟩) (Or.inl (by simp)) _
              exact kx.heap HD.out (by have := HKF.out.2.1; simp; omega)
            clear hr2
            gi_wp2_with fail
            exact HM.out _ _ ⟨HE.out.1, HE.out.2, rfl, rfl, rfl, rfl, rfl, rfl, rfl, rfl, rfl, rfl⟩
          · have t1 : ((r : Int) == 2) = false := by simp; omega
            have HE : Hid (WkI W W.heap.size (W.heap.size + 1) s b (m2 : Int) n' D' ao cap L V) := by
              have h1 := HM2.out
              rw [if_neg hr2] at h1
              have h2 := HML.out.2 hr2
              have h3 := HI.out
              rw [h2, ← h1] at h3
              exact h3
            clear hr2
            gi_wp2_with fail
            exact HM.out _ _ ⟨HE.out, HD.out, rfl, rfl, rfl, rfl, rfl, rfl, rfl, rfl, rfl, rfl⟩
        · rintro ⟨T, ds⟩ V1 ⟨hI1, hD1, hsz, hs1, hs2, hs3, hs5, hs6, hs7, hs8, hs9, rfl⟩
          obtain ⟨u, rfl⟩ := frame126 T hsz
          have e1 : u 1 = _ := Option.some.inj hs1
          have e2 : u 2 = _ := Option.some.inj hs2
          have e3 : u 3 = _ := Option.some.inj hs3
          have e5 : u 5 = _ := Option.some.inj hs5
          have e6 : u 6 = _ := Option.some.inj hs6
          have e7 : u 7 = _ := Option.some.inj hs7
          have e8 : u 8 = _ := Option.some.inj hs8
          have e9 : u 9 = _ := Option.some.inj hs9
          simp only [e1, e2, e3, e5, e6, e7, e8, e9]
          clear hsz hs1 hs2 hs3 hs5 hs6 hs7 hs8 hs9 e1 e2 e3 e5 e6 e7 e8 e9
          have HI1 : Hid (WkI W W.heap.size (W.heap.size + 1) s b (m2 : Int) n' D' ao cap L V1) := hI1
          have HD1 : Hid (V1.heap[wF.heap.size]? = some (.deferred (some []))) := hD1
          clear hI1 hD1 HI HD
          have hGL : ∀ id, id ∈ L → GoodID id := fun id hid => HGI.out id (by rw [HL.out.1] at hid; exact List.mem_of_mem_take hid)
          have hgl2 : ∀ id, id ∈ L → id.length = 32 := fun id hid => (hGL id hid).1
          have hIV : IdsAt V1 (.slice vo ids.length vc) ids := IdsAt.offMap HFL.out HH.out.at' HGI.out HI1.out.kept
          have HC5 : Hid (∀ U, Kept [] V1 U → U.cell? ⟨W.heap.size, 0, none⟩ = some (.slice ao L.length cap) ∧ U.cell? ⟨W.heap.size + 1, 0, none⟩ = some (.int .i64 m2)) := fun U q => ⟨(HI1.out.ib.on q).cell, by rw [cell_of_row _ _ _ _ _ _ (q.heap HI1.out.most (by simp))]; rfl⟩
          have HQ1 : Hid (∀ U, Kept [] V1 U → Calls Tryz.prog 13 #[.slice ao L.length cap, .slice vo m2 vc] U fun e w' => e = .returned (.bool true) ∧ Kept [] V1 w') := fun U q => by
            have h1 := (HI1.out.ib.on q).at hGL (by rw [HL.out.2]; omega)
            have h2 := (hIV.onK q).front m2 hm2l
            rw [← HL.out.1] at h2
            exact (EqIDs_same _ _ L U h1 h2 hgl2).mono fun _ _ ⟨h1, h2⟩ => ⟨h1, q.then h2⟩
          have s0 : (0 : Int) ≤ (m2 : Int) := by omega
          have s1 : (m2 : Int) ≤ (vc : Int) := by omega
          clear hIV hGL hgl2
          refine wpIn_stop fun K7 H7 => ?_
          refine wpIn_stop fun K8 H8 => ?_
          refine wpIn_wide.2 ?_
          refine region_quiet (Kept [] V1) (by kernel_rfl) (by kernel_rfl) (Kept.refl [] V1).drew ?_
          with_reducible refine wpQuiet_step ?_
          intro K hK
          rw [if_pos (by go_simp)]
          refine valC_at (.slice ao L.length cap) (fun W hW => by have hcc := (HC5.out W hW).1; go_simp) (hK _ ?_)
          clear hK K
          simp only [Act.put, List.setIfInBounds_toArray, List.set_cons_zero, List.set_cons_succ]
          with_reducible refine wpQuiet_step ?_
          intro K hK
          rw [if_pos (by go_simp)]
          refine move_at (.tmp 6) rfl (.slice vo ids.length vc) rfl (hK _ ?_)
          clear hK K
          simp only [Act.put, List.setIfInBounds_toArray, List.set_cons_zero, List.set_cons_succ]
          with_reducible refine wpQuiet_step ?_
          intro K hK
          rw [if_pos (by go_simp)]
          refine valC_at (.int .i64 m2) (fun W hW => by have hcc := (HC5.out W hW).2; go_simp) (hK _ ?_)
          clear hK K
          simp only [Act.put, List.setIfInBounds_toArray, List.set_cons_zero, List.set_cons_succ]
          with_reducible refine wpQuiet_step ?_
          intro K hK
          rw [if_pos (by go_simp)]
          refine val_at (.slice vo m2 vc) (fun W => by
            rcases vo with _ | ⟨vb, vf, vs⟩
            · have hz := HNV.out rfl
              subst hz
              obtain rfl : m2 = 0 := by omega
              go_simp
            · go_simp) (hK _ ?_)
          clear hK K
          simp only [Act.put, List.setIfInBounds_toArray, List.set_cons_zero, List.set_cons_succ]
          with_reducible refine wpQuiet_step ?_
          intro K hK
          rw [if_pos (by go_simp)]
          refine call_at 13 #[.slice ao L.length cap, .slice vo m2 vc] (.bool true) (fun W => by go_simp) HQ1.out (hK _ ?_)
          clear hK K
          simp only [Act.put, List.setIfInBounds_toArray, List.set_cons_zero, List.set_cons_succ]
          with_reducible refine wpQuiet_step ?_
          intro K hK
          rw [if_pos (by go_simp)]
          refine val_at (.bool false) (fun W => by go_simp) (hK _ ?_)
          clear hK K
          simp only [Act.put, List.setIfInBounds_toArray, List.set_cons_zero, List.set_cons_succ]
          refine wpQuiet_nil fun V6 k6 => ?_
          refine H8.out _ _ ?_
          clear H8 K8
          have HI6 : Hid (WkI W W.heap.size (W.heap.size + 1) s b (m2 : Int) n' D' ao cap L V6 ∧ V6.heap[wF.heap.size]? = some (.deferred (some []))) := ⟨HI1.out.on k6, k6.heap HD1.out (by simp)⟩
          clear k6 HC5 HQ1 HI1 HD1 s0 s1
          gi_wp2_with fail
          refine H7.out _ _ ?_
          clear H7 K7
          have hn3 : n' ≤ 324 := by
            have q1 := HN3.out
            have q2 := HN2.out
            have q3 : adW r ids.length ≤ ids.length := by unfold adW; split <;> omega
            omega
          have c3x := (HBASE.out V6 (HH.out.kept.then HI6.out.1.kept)).1
          have hids := Ids_any HI6.out.1.fl.st (by omega) HI6.out.1.fl.toFl.non
          refine wpIn_stop fun K7 H7 => ?_
          gi_wp2_with fail
          refine ⟨trivial, ?_⟩
          refine (callsIn_wide.2 hids).mono ?_
          rintro e V7 ⟨v4, ids4, rfl, hown4, hof4, k7⟩
          have hl4 : ids4.length ≤ 324 := by
            have := HI6.out.1.fl.st.size
            rw [hof4.len]
            omega
          have hat4 : IdsAt V7 v4 ids4 := hown4.at (fun id hid => (hof4.mem id hid).1) (by omega)
          have HA4 : Hid (IdsAt V7 v4 ids4) := hat4
          obtain ⟨vo4, vc4, rfl, _, _, _⟩ := hat4
          have HI7 : Hid (FlT V7 s b n' D' ∧ Kept [b] W V7 ∧ V7.heap[wF.heap.size]? = some (.deferred (some [])) ∧ IdsOf D' ids4) := ⟨HI6.out.1.fl.on k7, HI6.out.1.kept.trans k7 (by simp), k7.heap HI6.out.2 (by simp), hof4⟩
          clear hown4 hof4 k7 hids c3x HI6
          gi_wp2_with fail
          refine H7.out _ _ ?_
          clear H7 K7
          refine wpIn_endH (fun a w' => ∃ n4 D4 ids4 vo4 vc4, FlT w' s b n4 D4 ∧ n4 ≤ bndW (r + 1) ∧ IdsOf D4 ids4 ∧ IdsAt w' (.slice vo4 ids4.length vc4) ids4 ∧ Kept [b] W w' ∧ w'.heap[wF.heap.size]? = some (.deferred (some [])) ∧ a.tmps.toList.length = 126 ∧ a.tmps.toList[1]? = some (.pointer (some ⟨w.heap.size, 0, none⟩)) ∧ a.tmps.toList[2]? = some (.pointer (some ⟨w.heap.size + 1, 0, none⟩)) ∧ a.tmps.toList[3]? = some (.pointer (some ⟨w1.heap.size, 0, none⟩)) ∧ a.tmps.toList[5]? = some (.func (.func 24) #[] #[.pointer (some ⟨wS.heap.size, 0, none⟩)]) ∧ a.tmps.toList[6]? = some (.slice vo4 ids4.length vc4) ∧ a.tmps.toList[7]? = some (.pointer (some ⟨br, 0, none⟩)) ∧ a.tmps.toList[8]? = some (.pointer (some ⟨W.heap.size, 0, none⟩)) ∧ a.tmps.toList[9]? = some (.pointer (some ⟨W.heap.size + 1, 0, none⟩)) ∧ a.defers = markD wF.heap.size :: ms.map markD) ?_ ?_
          · intro M HM
            have c7x : V7.cell? ⟨br, 0, none⟩ = some (.int .i64 r) := HC7.out V7 HI7.out.2.1
            by_cases hr1 : r = 1
            · have t1 : ((r : Int) == 1) = true := by simp; omega
              have hn160 : n' ≤ 160 := by
                have q1 := HN3.out
                have q2 := HN2.out.1
                unfold adW bndW at *
                rw [hr1] at q1 q2
                simp at q1 q2
                omega
              have c3x := (HBASE.out V7 (HH.out.kept.then HI7.out.2.1)).1
              obtain ⟨wp, hwp⟩ : ∃ wp, wp = V7.alloc (.cells #[.int .u8 1, .int .u8 122] 5) := ⟨_, rfl⟩
              have HWP : Hid (wp = V7.alloc (.cells #[.int .u8 1, .int .u8 122] 5)) := hwp
              have kp : Kept [] V7 wp := by rw [hwp]; exact (Kept.refl _ _).alloc _
              have hbp : BytesAt wp (.slice (some ⟨V7.heap.size, 0, none⟩) [1, 122].length 2) [1, 122] := BytesAt.row (w := wp) (g := V7.heap.size) (t := 5) (ys := [1, 122]) (zs := []) (by rw [hwp]; exact heap_alloc_new V7 _) 2 (by decide)
              have HKP : Hid (Kept [b] W wp) := HI7.out.2.1.trans kp (by simp)
              have HDP : Hid (wp.heap[wF.heap.size]? = some (.deferred (some []))) := kp.heap HI7.out.2.2.1 (by simp)
              have hbq := HBASE.out wp (HH.out.kept.then HKP.out)
              have hfp : FlT wp s b n' D' := HI7.out.1.on kp
              have HFP : Hid (FlT wp s b n' D') := hfp
              have hput := Put_any hfp (by omega) (parErr_blob (ys := [122]) (by simp)) (by intro y hy; simp at hy; rcases hy with rfl | rfl <;> omega) hbp hbq.2.2.2.2.1 hbq.2.2.2.2.2.1
              have HR1 : Hid (r = 1 ∧ n' ≤ 160) := ⟨hr1, hn160⟩
              clear hr1 hwp kp hbp hbq hfp hn160
              gi_wp2_with fail
              rw [← HWP.out]
              refine ⟨trivial, ?_⟩
              refine (callsIn_wide.2 hput).mono ?_
              rintro e V8 ⟨⟨zz, nw, er, rfl, _⟩, k8, n5, D5, hn5, hf5⟩
              have HK8 : Hid (Kept [b] W V8) := HKP.out.then k8
              have HD8 : Hid (V8.heap[wF.heap.size]? = some (.deferred (some []))) := k8.heap HDP.out (by
                obtain ⟨es, ck, hm⟩ := HFP.out.isMap
                intro hx
                have h := HDP.out
                rw [List.mem_singleton.1 hx, hm] at h
                cases h)
              have c3y := (HBASE.out V8 (HH.out.kept.then HK8.out)).1
              obtain ⟨wq, hwq⟩ : ∃ wq, wq = V8.alloc (.cells #[.int .u8 2, .int .u8 0] 5) := ⟨_, rfl⟩
              have HWQ : Hid (wq = V8.alloc (.cells #[.int .u8 2, .int .u8 0] 5)) := hwq
              have kq : Kept [] V8 wq := by rw [hwq]; exact (Kept.refl _ _).alloc _
              have hbp2 : BytesAt wq (.slice (some ⟨V8.heap.size, 0, none⟩) [2, 0].length 2) [2, 0] := BytesAt.row (w := wq) (g := V8.heap.size) (t := 5) (ys := [2, 0]) (zs := []) (by rw [hwq]; exact heap_alloc_new V8 _) 2 (by decide)
              have HKQ : Hid (Kept [b] W wq) := HK8.out.trans kq (by simp)
              have HDQ : Hid (wq.heap[wF.heap.size]? = some (.deferred (some []))) := kq.heap HD8.out (by simp)
              have hbq2 := HBASE.out wq (HH.out.kept.then HKQ.out)
              have hfq : FlT wq s b n5 D5 := hf5.on kq
              have HFQ : Hid (FlT wq s b n5 D5) := hfq
              have HN5 : Hid (n5 ≤ n' + 1) := hn5
              have hput2 := Put_any hfq (by have := HR1.out.2; omega) parErr_tree0 (by intro y hy; simp at hy; rcases hy with rfl | rfl <;> omega) hbp2 hbq2.2.2.2.2.1 hbq2.2.2.2.2.2.1
              clear hput hn5 hf5 k8 kq hwq hbp2 hbq2 hfq c3x
              gi_wp2_with fail
              rw [← HWQ.out]
              refine ⟨trivial, ?_⟩
              refine (callsIn_wide.2 hput2).mono ?_
              rintro e V9 ⟨⟨zz2, nw2, er2, rfl, _⟩, k9, n6, D6, hn6, hf6⟩
              have HK9 : Hid (Kept [b] W V9) := HKQ.out.then k9
              have HD9 : Hid (V9.heap[wF.heap.size]? = some (.deferred (some []))) := k9.heap HDQ.out (by
                obtain ⟨es, ck, hm⟩ := HFQ.out.isMap
                intro hx
                have h := HDQ.out
                rw [List.mem_singleton.1 hx, hm] at h
                cases h)
              have c3z := (HBASE.out V9 (HH.out.kept.then HK9.out)).1
              have hids := Ids_any hf6.st (by have := HR1.out.2; have := HN5.out; omega) hf6.toFl.non
              have HF9 : Hid (FlT V9 s b n6 D6 ∧ n6 ≤ n5 + 1) := ⟨hf6, hn6⟩
              clear hput2 hn6 hf6 k9 c3y
              gi_wp2_with fail
              refine ⟨trivial, ?_⟩
              refine (callsIn_wide.2 hids).mono ?_
              rintro e V0 ⟨v5, ids5, rfl, hown5, hof5, k0⟩
              have hl5 : ids5.length ≤ 324 := by
                have h1 := HF9.out.1.st.size
                have h2 := HF9.out.2
                have h3 := HN5.out
                have h4 := HR1.out.2
                rw [hof5.len]
                omega
              have hat5 : IdsAt V0 v5 ids5 := hown5.at (fun id hid => (hof5.mem id hid).1) (by omega)
              have HA5 : Hid (IdsAt V0 v5 ids5) := hat5
              obtain ⟨vo5, vc5, rfl, _, _, _⟩ := hat5
              have HE : Hid (FlT V0 s b n6 D6 ∧ n6 ≤ bndW (r + 1) ∧ IdsOf D6 ids5 ∧ IdsAt V0 (.slice vo5 ids5.length vc5) ids5 ∧ Kept [b] W V0 ∧ V0.heap[wF.heap.size]? = some (.deferred (some []))) := by
                refine ⟨HF9.out.1.on k0, ?_, hof5, HA5.out, HK9.out.trans k0 (by simp), k0.heap HD9.out (by simp)⟩
                have h2 := HF9.out.2
                have h3 := HN5.out
                have h4 := HR1.out
                have h5 : bndW (r + 1) = 162 := by rw [h4.1]; rfl
                omega
              clear hown5 hof5 k0 hids c3z
              gi_wp2_with fail
              exact HM.out _ _ ⟨n6, D6, ids5, vo5, vc5, HE.out.1, HE.out.2.1, HE.out.2.2.1, HE.out.2.2.2.1, HE.out.2.2.2.2.1, HE.out.2.2.2.2.2, rfl, rfl, rfl, rfl, rfl, rfl, rfl, rfl, rfl, rfl⟩
            · have t1 : ((r : Int) == 1) = false := by simp; omega
              have hb : n' ≤ bndW (r + 1) := by
                have q1 := HN3.out
                have q2 := HN2.out
                have q3 := HRK.out.2
                unfold adW bndW at *
                rcases (by omega : r = 0 ∨ r = 2) with h | h <;> subst h <;> simp at * <;> omega
              have HB : Hid (n' ≤ bndW (r + 1)) := hb
              clear hr1 hb
              gi_wp2_with fail
              exact HM.out _ _ ⟨n', D', ids4, vo4, vc4, HI7.out.1, HB.out, HI7.out.2.2.2, HA4.out, HI7.out.2.1, HI7.out.2.2.1, rfl, rfl, rfl, rfl, rfl, rfl, rfl, rfl, rfl, rfl⟩
          · rintro ⟨T, ds⟩ w' ⟨n4, D4, ids5, vo5, vc5, h1, h2, h3, h4, h5, h6, hsz, hs1, hs2, hs3, hs5, hs6, hs7, hs8, hs9, rfl⟩
            obtain ⟨u, rfl⟩ := frame126 T hsz
            have e1 : u 1 = _ := Option.some.inj hs1
            have e2 : u 2 = _ := Option.some.inj hs2
            have e3 : u 3 = _ := Option.some.inj hs3
            have e5 : u 5 = _ := Option.some.inj hs5
            have e6 : u 6 = _ := Option.some.inj hs6
            have e7 : u 7 = _ := Option.some.inj hs7
            have e8 : u 8 = _ := Option.some.inj hs8
            have e9 : u 9 = _ := Option.some.inj hs9
            simp only [e1, e2, e3, e5, e6, e7, e8, e9]
            clear hsz hs1 hs2 hs3 hs5 hs6 hs7 hs8 hs9 e1 e2 e3 e5 e6 e7 e8 e9
            refine H2.out _ _ ?_
            clear H2 K2
            have c7x : w'.cell? ⟨br, 0, none⟩ = some (.int .i64 r) := HC7.out w' h5
            have hwr : IntKind.i64.wrap ((r : Int) + 1) = ((r + 1 : Nat) : Int) := by have := HRK.out.2; simp [IntKind.wrap, IntKind.bits, IntKind.signed]; omega
            obtain ⟨wz, hwz⟩ : ∃ wz, wz = w'.alloc (.cells #[.int .i64 ((r + 1 : Nat) : Int)] 3) := ⟨_, rfl⟩
            have HWZ : Hid (wz = w'.alloc (.cells #[.int .i64 ((r + 1 : Nat) : Int)] 3)) := hwz
            have kz : Kept [] w' wz := by rw [hwz]; exact (Kept.refl _ _).alloc _
            have HFIN : Hid (WkH w2 s b (r + 1) ids5 vo5 vc5 w'.heap.size (wF.heap.size :: ms) wz) := by
              refine ⟨⟨n4, D4, h1.on kz, h2, h3⟩, h4.onK kz, (HH.out.kept.then h5).trans kz (by simp), by rw [hwz]; exact heap_alloc_new w' _, fun q hq => ?_, List.nodup_cons.2 ⟨fun hm => ?_, HH.out.apart⟩⟩
              · rcases List.mem_cons.1 hq with rfl | hq
                · refine ⟨?_, kz.heap h6 (by simp)⟩
                  have q1 := HBS.out.2
                  have q2 := HBF.out.2.1
                  omega
                · obtain ⟨q1, q2⟩ := HH.out.marks q hq
                  refine ⟨q1, kz.heap (h5.heap q2 (fun hx => ?_)) (by simp)⟩
                  obtain ⟨es, ck, hm⟩ := HFL.out.isMap
                  rw [List.mem_singleton.1 hx, hm] at q2
                  cases q2
              · have q1 := lt_of_block (HH.out.marks _ hm).2
                have q2 := HBF.out.2.1
                omega
            clear h1 h2 h3 h4 h5 h6 hwz kz
            gi_wp2_with fail
            have hE : w'.alloc (.cells #[.int .i64 ((r : Int) + 1)] 3) = wz := by rw [HWZ.out]; rfl
            rw [hE]
            exact hK.out _ _ ⟨k - 1, by have := HRK.out; omega, r + 1, ids5, vo5, vc5, w'.heap.size, wF.heap.size :: ms, by have := HRK.out; omega, HFIN.out, rfl, rfl, rfl, rfl, rfl, rfl, rfl, rfl⟩
end Go.Proofs.YtddhhjgegkkjbaaGreatDoor
