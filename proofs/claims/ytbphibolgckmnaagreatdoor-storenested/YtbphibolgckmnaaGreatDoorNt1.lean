/-
  WALK: satchellaw4.StoreNested.
-/
import Derived.Test.YtbphibolgckmnaaGreatDoorNt0
import Derived.Test.YtbphibolgckmnaaGreatDoorFl1
import Derived.Laws.EntriesVeiled
namespace Go.Proofs.YtbphibolgckmnaaGreatDoor
open Go.RowKit Go.Shelf Go.WideMaps
attribute [local go_sem] Oper.semAt_some

theorem Tryz.loadBool {w : World} {b o : Nat} {v : Value} (h : w.cell? ⟨b, o, none⟩ = some v) : (loadVar 4 ⟨b, o, none⟩).run Tryz.prog w = .ok v w := by
  go_simp
set_option maxRecDepth 100000 in
set_option maxHeartbeats 8000000 in
theorem nested4_any [TabC] (ev gv : Value) (nn : Int) (L : List (List Int)) (G : List Int) (w : World) (hV : Vars w) (hT : Tabs w) (hL : LsAt w ev L) (hG : NsAt w gv G) (hn0 : -9223372036854775808 ≤ nn) (hn1 : nn ≤ 9223372036854775807) :
    Calls Tryz.prog 4 #[.agg #[ev, gv, .int .i64 nn]] w fun e w' => e = .returned (.bool true) ∧ Kept [] w w' := by
  obtain ⟨W0, hW0⟩ : ∃ W0, W0 = w.alloc (.cells #[ev, gv, .int .i64 nn] 45) := ⟨_, rfl⟩
  obtain ⟨W1, hW1⟩ : ∃ W1, W1 = W0.alloc (.cells #[.bool false] 4) := ⟨_, rfl⟩
  have HW0 : Hid (W0 = w.alloc (.cells #[ev, gv, .int .i64 nn] 45)) := hW0
  have HW1 : Hid (W1 = W0.alloc (.cells #[.bool false] 4)) := hW1
  have k0 : Kept [] w W0 := by rw [hW0]; exact (Kept.refl _ _).alloc _
  have k1 : Kept [] W0 W1 := by rw [hW1]; exact (Kept.refl _ _).alloc _
  have k01 : Kept [] w W1 := k0.then k1
  have hs0 : W0.heap.size = w.heap.size + 1 := by rw [hW0]; exact World.size_alloc _ _
  have HK0 : Hid (Kept [] w W1) := k01
  have HC : Hid (∀ W, Kept [] W1 W → W.cell? ⟨w.heap.size, 2, none⟩ = some (.int .i64 nn) ∧ W.heap[w.heap.size + 1]? = some (.cells #[.bool false] 4 (0, 0))) := fun W k => by
    have h := (k1.then k).heap (show W0.heap[w.heap.size]? = _ by rw [hW0]; exact heap_alloc_new w _) (by simp)
    refine ⟨by rw [cell_of_row _ _ _ _ _ _ h]; rfl, ?_⟩
    rw [← hs0]
    exact k.heap (show W1.heap[W0.heap.size]? = _ by rw [hW1]; exact heap_alloc_new W0 _) (by simp)
  have hV0 := hV.kept k01 (by simp) (by simp)
  have HV : Hid (∀ W, Kept [] W1 W → Vars W) := fun W k => hV0.kept k (by simp) (by simp)
  have hfill := filled_any ev gv nn L G W1 hV0 (hT.kept k01) (hL.kept k01) (hG.kept k01)
  obtain ⟨eo, ec, rfl, _⟩ := hL
  obtain ⟨go, gc, rfl, _⟩ := hG
  clear hV k0 k1 hV0 hT k01 hW0 hW1
  refine (callsIn_wide (n := 5)).1 ?_
  refine callsIn_of_wp_marks Tryz.func4 rfl trivial ?_ rfl
  simp only [Tryz.ntmps4, List.size_toArray, List.length_cons, List.length_nil, Nat.reduceAdd, Nat.reduceSub, Array.replicate_succ, Array.replicate_zero, List.push_toArray, List.append_toArray, List.nil_append, List.cons_append]
  gi_wp2_with fail
  refine ⟨trivial, ?_⟩
  rw [← HW0.out, ← HW1.out]
  refine (callsIn_wide.2 hfill).mono ?_
  rintro e w1 ⟨s, b, n, D, rfl, hfl, hn80, hs, hb, k1⟩
  have HB : Hid (W1.heap.size ≤ s ∧ W1.heap.size ≤ b) := ⟨hs, hb⟩
  have HN : Hid (n ≤ 80) := hn80
  have HK1 : Hid (Kept [] W1 w1) := k1
  have HF1 : Hid (∀ W, Kept [] w1 W → Fl W s b n D) := fun W q => hfl.on q
  have hall := All_any s
  clear hfill hs hb k1 hfl
  gi_wp2_with fail
  obtain ⟨wA, hwA⟩ : ∃ wA, wA = w1.alloc (.cells #[.pointer (some ⟨s, 0, none⟩)] 26) := ⟨_, rfl⟩
  obtain ⟨FV1, hFV1⟩ : ∃ FV, FV = Value.func (.func 41) #[] #[.pointer (some ⟨w1.heap.size, 0, none⟩)] := ⟨_, rfl⟩
  obtain ⟨wB, hwB⟩ : ∃ wB, wB = wA.alloc (.cells #[Value.func (.func 41) #[] #[.pointer (some ⟨w1.heap.size, 0, none⟩)]] 49) := ⟨_, rfl⟩
  obtain ⟨wC, hwC⟩ : ∃ wC, wC = wB.alloc (.cells #[.pointer (some ⟨s, 0, none⟩)] 26) := ⟨_, rfl⟩
  obtain ⟨wD, hwD⟩ : ∃ wD, wD = wC.alloc (.cells #[Value.func (.func 41) #[] #[.pointer (some ⟨wB.heap.size, 0, none⟩)]] 49) := ⟨_, rfl⟩
  have HWA : Hid (wA = w1.alloc (.cells #[.pointer (some ⟨s, 0, none⟩)] 26)) := hwA
  have HWB : Hid (wB = wA.alloc (.cells #[Value.func (.func 41) #[] #[.pointer (some ⟨w1.heap.size, 0, none⟩)]] 49)) := hwB
  have HWC : Hid (wC = wB.alloc (.cells #[.pointer (some ⟨s, 0, none⟩)] 26)) := hwC
  have HWD : Hid (wD = wC.alloc (.cells #[Value.func (.func 41) #[] #[.pointer (some ⟨wB.heap.size, 0, none⟩)]] 49)) := hwD
  have kA : Kept [] w1 wA := by rw [hwA]; exact (Kept.refl _ _).alloc _
  have kB : Kept [] wA wB := by rw [hwB]; exact (Kept.refl _ _).alloc _
  have kC : Kept [] wB wC := by rw [hwC]; exact (Kept.refl _ _).alloc _
  have kD : Kept [] wC wD := by rw [hwD]; exact (Kept.refl _ _).alloc _
  have HK1D : Hid (Kept [] w1 wD) := ((kA.then kB).then kC).then kD
  have HCD : Hid (∀ W, Kept [] wD W → W.cell? ⟨w1.heap.size, 0, none⟩ = some (.pointer (some ⟨s, 0, none⟩)) ∧ W.cell? ⟨wB.heap.size, 0, none⟩ = some (.pointer (some ⟨s, 0, none⟩)) ∧ W.cell? ⟨wA.heap.size, 0, none⟩ = some (Value.func (.func 41) #[] #[.pointer (some ⟨w1.heap.size, 0, none⟩)]) ∧ W.cell? ⟨wC.heap.size, 0, none⟩ = some (Value.func (.func 41) #[] #[.pointer (some ⟨wB.heap.size, 0, none⟩)])) := fun W q => by
    have h1 := (((kB.then kC).then kD).then q).heap (show wA.heap[w1.heap.size]? = _ by rw [hwA]; exact heap_alloc_new w1 _) (by simp)
    have h2 := (kD.then q).heap (show wC.heap[wB.heap.size]? = _ by rw [hwC]; exact heap_alloc_new wB _) (by simp)
    have h3 := ((kC.then kD).then q).heap (show wB.heap[wA.heap.size]? = _ by rw [hwB]; exact heap_alloc_new wA _) (by simp)
    have h4 := q.heap (show wD.heap[wC.heap.size]? = _ by rw [hwD]; exact heap_alloc_new wC _) (by simp)
    exact ⟨by rw [cell_of_row _ _ _ _ _ _ h1]; rfl, by rw [cell_of_row _ _ _ _ _ _ h2]; rfl, by rw [cell_of_row _ _ _ _ _ _ h3]; rfl, by rw [cell_of_row _ _ _ _ _ _ h4]; rfl⟩
  have hids := Ids_any (HF1.out wD HK1D.out).st (by have := HN.out; omega) (HF1.out wD HK1D.out).non
  clear hwA hwB hwC hwD kA kB kC kD
  refine ⟨trivial, ?_⟩
  refine (callsIn_wide.2 (hall w1)).mono ?_
  rintro e wq ⟨rfl, hwq⟩
  rw [← HWA.out] at hwq
  subst wq
  gi_wp2_with fail
  refine ⟨trivial, ?_⟩
  rw [← HWB.out]
  refine (callsIn_wide.2 (hall wB)).mono ?_
  rintro e wq ⟨rfl, hwq⟩
  rw [← HWC.out] at hwq
  subst wq
  gi_wp2_with fail
  refine ⟨trivial, ?_⟩
  rw [← HWD.out]
  refine (callsIn_wide.2 hids).mono ?_
  rintro e w2 ⟨v, ids, rfl, hown, hof, k2⟩
  have HOF : Hid (IdsOf D ids) := hof
  have hlen : ids.length ≤ 80 := by
    have h1 := (HF1.out w1 (Kept.refl _ _)).st.size
    have h2 := HN.out
    rw [hof.len]
    omega
  have hat : IdsAt w2 v ids := hown.at (fun id hid => (hof.mem id hid).1) (by omega)
  have HGI : Hid (∀ id, id ∈ ids → GoodID id) := fun id hid => (hof.mem id hid).1
  obtain ⟨vo, vc, rfl, hvc, hnv, _⟩ := hat
  have HNV0 : Hid (vo = none → vc = 0) := hnv
  clear hnv
  obtain ⟨wE, hwE⟩ : ∃ wE, wE = w2.alloc (.cells #[.slice vo ids.length vc] 35) := ⟨_, rfl⟩
  obtain ⟨wF, hwF⟩ : ∃ wF, wF = wE.alloc (.cells #[.slice none 0 0] 35) := ⟨_, rfl⟩
  have HWE : Hid (wE = w2.alloc (.cells #[.slice vo ids.length vc] 35)) := hwE
  have HWF : Hid (wF = wE.alloc (.cells #[.slice none 0 0] 35)) := hwF
  have kE : Kept [] w2 wE := by rw [hwE]; exact (Kept.refl _ _).alloc _
  have kF : Kept [] wE wF := by rw [hwF]; exact (Kept.refl _ _).alloc _
  have HKF : Hid (Kept [] wE wF) := kF
  have HIV : Hid (∀ W, Kept [] wE W → IdsAt W (.slice vo ids.length vc) ids) := fun W q => (hown.at (fun id hid => (hof.mem id hid).1) (by omega)).onK (kE.then q)
  have HCE : Hid (∀ W, Kept [] wE W → W.cell? ⟨w2.heap.size, 0, none⟩ = some (.slice vo ids.length vc)) := fun W q => by
    have h := q.heap (show wE.heap[w2.heap.size]? = _ by rw [hwE]; exact heap_alloc_new w2 _) (by simp)
    rw [cell_of_row _ _ _ _ _ _ h]
    rfl
  have HKE : Hid (Kept [] wD wE) := k2.then kE
  have hsE : wE.heap.size = w2.heap.size + 1 := by rw [hwE]; exact World.size_alloc _ _
  have HSZ : Hid (wE.heap.size = w2.heap.size + 1) := hsE
  have HBX : Hid (IdBox wF (w2.heap.size + 1) (w2.heap.size + 1) none 0 []) := IdBox.start (by rw [← hsE, hwF]; exact heap_alloc_new wE _)
  have HFE : Hid (∀ W, Kept [] wE W → Fl W s b n D) := fun W q => HF1.out W (HK1D.out.then (HKE.out.then q))
  have HSE : Hid (w.heap.size < wE.heap.size ∧ w2.heap.size < wE.heap.size ∧ (∀ y, Gof D y → y < w1.heap.size) ∧ w1.heap.size ≤ wE.heap.size) := by
    refine ⟨?_, ?_, fun y hy => hy.lt (HF1.out w1 (Kept.refl _ _)).st, (HK1D.out.then HKE.out).size⟩
    · have h1 := HK0.out.size
      have h2 := HK1.out.size
      have h3 := (HK1D.out.then HKE.out).size
      have h4 := (HF1.out w1 (Kept.refl _ _)).st.lt.1
      have h5 := HB.out.1
      omega
    · rw [hwE, World.size_alloc]
      omega
  have e5 := (HCD.out wE HKE.out).2.2.1
  have e6 := (HCD.out wE HKE.out).2.2.2
  have f5 := (HCD.out wF (HKE.out.then kF)).2.2.1
  rw [hwF, hwE] at f5
  rw [hwE] at e5 e6
  have hnf : ∀ (W : World) (q : Nat), (binOp .eql 49 (.func (.func 41) #[] #[.pointer (some ⟨q, 0, none⟩)]) .nilFunc).run Tryz.prog W = .ok (.bool false) W := fun W q => by kernel_rfl
  clear hids hown hof k2 hwE hwF kE kF hall hsE
  gi_wp2_with fail
  rw [← HWE.out, ← HWF.out]
  clear e5 e6 f5 hnf
  have HKF2 : Hid (wE.heap.size < wF.heap.size) := by
    show wE.heap.size < wF.heap.size
    rw [HWF.out, World.size_alloc]
    omega
  have HWS : Hid (w.heap.size + 2 ≤ W1.heap.size) := by
    show w.heap.size + 2 ≤ W1.heap.size
    rw [HW1.out, World.size_alloc, hs0]
    omega
  obtain ⟨i0, hi0, hz0, hz1, hz2⟩ := info_parts Tryz.idInfo
  have HK1E : Hid (Kept [] W1 wE) := HK1.out.then (HK1D.out.then HKE.out)
  have hseq := all_G (HFE.out wF HKF.out).st (by have := HN.out; omega) (HFE.out wF HKF.out).non EncOf (HFE.out wF HKF.out).encOf w1.heap.size (HCD.out wF (HKE.out.then HKF.out)).1 4
  refine wpIn_cap fun T0 hT0 => ?_
  refine wpIn_rangeG_out rfl (by omega) (gf := 41) (lb := #[.pointer (some ⟨w1.heap.size, 0, none⟩)]) (by rw [hT0]; rfl) trivial (enters_of Tryz.func41 (by kernel_rfl) rfl) hseq (fun x A C h => h.keeps _) KpS.trans ?hKb (fun _ => rfl) (Below.refl _ _)
    (fun pre W => (∃ ao cap, IdBox W (w2.heap.size + 1) (w2.heap.size + 1) ao cap (pre.map (·.xs))) ∧ Kept [] wE W ∧ wF.heap.size ≤ W.heap.size)
    (fun _ pre _ => ids.length < pre.length) ?hI (fun _ _ _ _ _ hs _ _ => hs) ⟨⟨_, _, HBX.out⟩, HKF.out, Nat.le_refl _⟩
    (fun pre x a2 W => ∃ Bx ao cap, wF.heap.size ≤ Bx ∧ W.heap[Bx]? = some (.cells (idC x.xs) 29 (0, 0)) ∧ IdBox W (w2.heap.size + 1) (w2.heap.size + 1) ao cap (pre.map (·.xs)) ∧ Kept [] wE W ∧ wF.heap.size ≤ W.heap.size ∧ a2 = { tmps := ((T0.setIfInBounds 36 (.agg (idC x.xs))).setIfInBounds 37 (.slice x.p x.l x.c)).setIfInBounds 9 (.pointer (some ⟨Bx, 0, none⟩)), defers := [] })
    ?hAx ?assign ?body ?done ?stop
  case hKb => exact fun W l o o2 hl ho hc _ => KpS.putObj (b := wF.heap.size) (fun y hy => Nat.lt_of_lt_of_le (HSE.out.2.2.1 y hy) (Nat.le_trans HSE.out.2.2.2 HKF.out.size)) W l o o2 hl ho hc
  case hI =>
    intro pre W W2 row ⟨⟨ao, cap, h1⟩, h2, h3⟩ hg hr
    have ht : TurnsNone wF.heap.size W W2 row := ⟨hg, hr⟩
    exact ⟨⟨ao, cap, h1.turns ht⟩, ht.kept h2 HKF.out.size, Nat.le_trans h3 hg.size⟩
  case hAx =>
    intro pre x a2 _ W W2 row ⟨Bx, ao, cap, h1, h2, h3, h4, h5, h6⟩ hg hr
    have ht : TurnsNone wF.heap.size W W2 row := ⟨hg, hr⟩
    exact ⟨Bx, ao, cap, h1, ht.cells h2, h3.turns ht, ht.kept h4 HKF.out.size, Nat.le_trans h5 hg.size, h6⟩
  case assign =>
    rintro pre x A W K ⟨⟨ao, cap, h1⟩, h2, h3⟩ hx _ hK
    obtain ⟨V, hV⟩ : ∃ V, V = W.alloc (.cells (idC x.xs) 29) := ⟨_, rfl⟩
    have HVV : Hid (V = W.alloc (.cells (idC x.xs) 29)) := hV
    have kV : Kept [] W V := by rw [hV]; exact (Kept.refl _ _).alloc _
    have hsz : (Tryz.prog.info? 29).map (·.size) = some (idC x.xs).size := by rw [idC_size x.good.1]; exact Tryz.infoID
    have hzz : (idC zid).size = (idC x.xs).size := by rw [idC_size x.good.1]; rfl
    have hone : (idC x.xs).all (·.oneCell') = true := all_oneCell_toArray (map_oneCell _)
    have kA : Kept [] A V := hx.1.then kV
    have HF : Hid (KeepsFrom wF.heap.size W V ∧ KpS (Gof D) W V ∧ wF.heap.size ≤ W.heap.size ∧ V.heap[W.heap.size]? = some (.cells (idC x.xs) 29 (0, 0)) ∧ IdBox V (w2.heap.size + 1) (w2.heap.size + 1) ao cap (pre.map (·.xs)) ∧ Kept [] wE V ∧ wF.heap.size ≤ V.heap.size) := by
      have h4 : wF.heap.size ≤ W.heap.size := Nat.le_trans h3 hx.1.size
      refine ⟨kV.others (by simp) _, KpS.of_kept kV (by simp) (by simp) (fun y hy => ?_), h4, by rw [hV]; exact heap_alloc_new W _, h1.on kA, h2.then kA, Nat.le_trans h4 kV.size⟩
      have q1 := HSE.out.2.2.1 y hy
      have q2 := HSE.out.2.2.2
      have q3 := HKF.out.size
      omega
    clear h1 h2 h3 kV kA hV hx
    subst hT0
    simp only [encsR]
    gi_wp2_with (refine listIn_store_new (by rfl) 29 (.tmp 9) (.tmp 36) (by rfl) W _ (idC x.xs) (by rfl) (by rfl) hsz hzz hone ?_)
    rw [← HVV.out]
    exact hK _ _ HF.out.1 HF.out.2.1 ⟨W.heap.size, ao, cap, HF.out.2.2.1, HF.out.2.2.2.1, HF.out.2.2.2.2.1, HF.out.2.2.2.2.2.1, HF.out.2.2.2.2.2.2, rfl⟩
  case body =>
    rintro pre x a2 W hloop ⟨Bx, ao, cap, hBx, hbx, hib, hkE, hWF, rfl⟩ hpl
    have hui := Tryz.underlying29
    have HCN : Hid (∀ V, Kept [] W V → V.cell? ⟨w.heap.size, 2, none⟩ = some (.int .i64 nn)) := fun V q => (HC.out V (HK1E.out.then (hkE.then q))).1
    have HCV : Hid (∀ V, Kept [] W V → V.cell? ⟨w2.heap.size, 0, none⟩ = some (.slice vo ids.length vc)) := fun V q => HCE.out V (hkE.then q)
    have HCG : Hid (∀ V, Kept [] W V → V.cell? ⟨w2.heap.size + 1, 0, none⟩ = some (.slice ao pre.length cap)) := fun V q => by
      have h := (hib.on q).cell
      rwa [List.length_map] at h
    obtain ⟨r1, hr1⟩ : ∃ r1, r1 = nn % ((ids.length : Int) + 1) := ⟨_, rfl⟩
    have hr10 : 0 ≤ r1 := by rw [hr1]; exact Int.emod_nonneg _ (by omega)
    have hr11 : r1 < (ids.length : Int) + 1 := by rw [hr1]; exact Int.emod_lt_of_pos _ (by omega)
    have hinto1 := fun V => into4_any nn ((ids.length : Int) + 1) V (by omega) (by omega) hn0 hn1
    rw [← hr1] at hinto1
    obtain ⟨m, hm⟩ : ∃ m : Nat, (r1 + (pre.length : Int)) % ((ids.length : Int) + 1) = m := ⟨((r1 + (pre.length : Int)) % ((ids.length : Int) + 1)).toNat, by have := Int.emod_nonneg (r1 + (pre.length : Int)) (show (ids.length : Int) + 1 ≠ 0 by omega); omega⟩
    have hml : m ≤ ids.length := by have := Int.emod_lt_of_pos (r1 + (pre.length : Int)) (show (0 : Int) < (ids.length : Int) + 1 by omega); omega
    have hinto2 := fun V => into4_any (r1 + (pre.length : Int)) ((ids.length : Int) + 1) V (by omega) (by omega) (by omega) (by omega)
    rw [hm] at hinto2
    have hw1 : IntKind.i64.wrap ((ids.length : Int) + 1) = (ids.length : Int) + 1 := by simp [IntKind.wrap, IntKind.bits, IntKind.signed]; omega
    have hw2 : IntKind.i64.wrap (r1 + (pre.length : Int)) = r1 + (pre.length : Int) := by simp [IntKind.wrap, IntKind.bits, IntKind.signed]; omega
    have HW : Hid (wF.heap.size ≤ Bx ∧ W.heap[Bx]? = some (.cells (idC x.xs) 29 (0, 0)) ∧ IdBox W (w2.heap.size + 1) (w2.heap.size + 1) ao cap (pre.map (·.xs)) ∧ Kept [] wE W ∧ wF.heap.size ≤ W.heap.size) := ⟨hBx, hbx, hib, hkE, hWF⟩
    have HLOOP : Hid (∃ r, W.heap[wF.heap.size + 1]? = some (.loop r)) := hloop
    have HPL : Hid (pre.length < 1000000 ∧ GoodID x.xs) := ⟨hpl, x.good⟩
    clear hib hkE hWF hbx hBx hr1 hm hloop
    subst hT0
    simp only [List.setIfInBounds_toArray, List.set_cons_zero, List.set_cons_succ]
    gi_wp2_with fail
    refine wpIn_cap fun T1 hT1 => ?_
    obtain ⟨R12, hR12⟩ : ∃ R : Act → World → Prop, Hid (R = fun a2 W2 => Kept [] W W2 ∧ W2.heap[W.heap.size]? = some (.cells #[.int .i64 m] 3 (0, 0)) ∧ a2 = { tmps := ((((((((((((((T1.setIfInBounds 38 (.pointer (some ⟨w.heap.size, 2, none⟩))).setIfInBounds 39 (.int .i64 nn)).setIfInBounds 40 (.slice vo ids.length vc)).setIfInBounds 41 (.int .i64 ids.length)).setIfInBounds 42 (.int .i64 (ids.length + 1))).setIfInBounds 43 (.int .i64 r1)).setIfInBounds 44 (.slice ao pre.length cap)).setIfInBounds 45 (.int .i64 pre.length)).setIfInBounds 46 (.int .i64 (r1 + pre.length))).setIfInBounds 47 (.slice vo ids.length vc)).setIfInBounds 48 (.int .i64 ids.length)).setIfInBounds 49 (.int .i64 (ids.length + 1))).setIfInBounds 50 (.int .i64 m)).setIfInBounds 10 (.pointer (some ⟨W.heap.size, 0, none⟩))), defers := [] }) := ⟨_, rfl⟩
    refine round_held_post (S := Kept [] W) R12 (by kernel_rfl) (by kernel_rfl) (Kept.refl [] W).drew (fun hHeld => ?_) ?_
    · subst hT1
      refine takeP 0 (v := .pointer (some ⟨w.heap.size, 2, none⟩)) (some 38) #[true, false, false, false, false, false, false, false, false, false, false, false, false, false, false] rfl rfl rfl (by kernel_rfl) (by kernel_rfl) (by kernel_rfl) (fun _ _ _ h => NrmQ.panic h) (Or.inl ⟨by rfl, fun W hSW => by go_simp⟩) hHeld ?_
      simp only [Act.put, List.setIfInBounds_toArray, List.set_cons_zero, List.set_cons_succ]
      refine takeP 1 (v := .int .i64 nn) (some 39) #[true, true, false, false, false, false, false, false, false, false, false, false, false, false, false] rfl rfl rfl (by kernel_rfl) (by kernel_rfl) (by kernel_rfl) (fun _ _ _ h => NrmQ.panic h) (Or.inl ⟨by rfl, fun W hSW => by have hcc := HCN.out W hSW; go_simp⟩) hHeld ?_
      simp only [Act.put, List.setIfInBounds_toArray, List.set_cons_zero, List.set_cons_succ]
      refine takeP 2 (v := .slice vo ids.length vc) (some 40) #[true, true, true, false, false, false, false, false, false, false, false, false, false, false, false] rfl rfl rfl (by kernel_rfl) (by kernel_rfl) (by kernel_rfl) (fun _ _ _ h => NrmQ.panic h) (Or.inl ⟨by rfl, fun W hSW => by have hcc := HCV.out W hSW; go_simp⟩) hHeld ?_
      simp only [Act.put, List.setIfInBounds_toArray, List.set_cons_zero, List.set_cons_succ]
      refine takeP 3 (v := .int .i64 ids.length) (some 41) #[true, true, true, true, false, false, false, false, false, false, false, false, false, false, false] rfl rfl rfl (by kernel_rfl) (by kernel_rfl) (by kernel_rfl) (fun _ _ _ h => NrmQ.panic h) (Or.inl ⟨by rfl, fun W hSW => by go_simp⟩) hHeld ?_
      simp only [Act.put, List.setIfInBounds_toArray, List.set_cons_zero, List.set_cons_succ]
      refine takeP 4 (v := .int .i64 (ids.length + 1)) (some 42) #[true, true, true, true, true, false, false, false, false, false, false, false, false, false, false] rfl rfl rfl (by kernel_rfl) (by kernel_rfl) (by kernel_rfl) (fun _ _ _ h => NrmQ.panic h) (Or.inl ⟨by rfl, fun W hSW => by go_simp⟩) hHeld ?_
      simp only [Act.put, List.setIfInBounds_toArray, List.set_cons_zero, List.set_cons_succ]
      refine takeP 6 (v := .slice ao pre.length cap) (some 44) #[true, true, true, true, true, false, true, false, false, false, false, false, false, false, false] rfl rfl rfl (by kernel_rfl) (by kernel_rfl) (by kernel_rfl) (fun _ _ _ h => NrmQ.panic h) (Or.inl ⟨by rfl, fun W hSW => by have hcc := HCG.out W hSW; go_simp⟩) hHeld ?_
      simp only [Act.put, List.setIfInBounds_toArray, List.set_cons_zero, List.set_cons_succ]
      refine takeP 7 (v := .int .i64 pre.length) (some 45) #[true, true, true, true, true, false, true, true, false, false, false, false, false, false, false] rfl rfl rfl (by kernel_rfl) (by kernel_rfl) (by kernel_rfl) (fun _ _ _ h => NrmQ.panic h) (Or.inl ⟨by rfl, fun W hSW => by go_simp⟩) hHeld ?_
      simp only [Act.put, List.setIfInBounds_toArray, List.set_cons_zero, List.set_cons_succ]
      refine takeP 9 (v := .slice vo ids.length vc) (some 47) #[true, true, true, true, true, false, true, true, false, true, false, false, false, false, false] rfl rfl rfl (by kernel_rfl) (by kernel_rfl) (by kernel_rfl) (fun _ _ _ h => NrmQ.panic h) (Or.inl ⟨by rfl, fun W hSW => by have hcc := HCV.out W hSW; go_simp⟩) hHeld ?_
      simp only [Act.put, List.setIfInBounds_toArray, List.set_cons_zero, List.set_cons_succ]
      refine takeP 10 (v := .int .i64 ids.length) (some 48) #[true, true, true, true, true, false, true, true, false, true, true, false, false, false, false] rfl rfl rfl (by kernel_rfl) (by kernel_rfl) (by kernel_rfl) (fun _ _ _ h => NrmQ.panic h) (Or.inl ⟨by rfl, fun W hSW => by go_simp⟩) hHeld ?_
      simp only [Act.put, List.setIfInBounds_toArray, List.set_cons_zero, List.set_cons_succ]
      refine takeP 11 (v := .int .i64 (ids.length + 1)) (some 49) #[true, true, true, true, true, false, true, true, false, true, true, true, false, false, false] rfl rfl rfl (by kernel_rfl) (by kernel_rfl) (by kernel_rfl) (fun _ _ _ h => NrmQ.panic h) (Or.inl ⟨by rfl, fun W hSW => by go_simp⟩) hHeld ?_
      simp only [Act.put, List.setIfInBounds_toArray, List.set_cons_zero, List.set_cons_succ]
      refine wpAnyH_ready (rs := [5, 13]) (by kernel_rfl) (by simp) (AllReadyH.cons rfl (fun K hK => ?_) (AllReadyH.cons rfl (fun K hK => ?_) AllReadyH.nil))
      · rw [if_pos (by rfl)]
        go_simp
        refine (hinto1 _).mono ?_
        rintro e wi ⟨rfl, hwi⟩
        subst wi
        refine hK.out _ _ hHeld (fun hHeld => ?_)
        clear hK K
        simp only [List.setIfInBounds_toArray, List.set_cons_zero, List.set_cons_succ]
        refine takeP 8 (v := .int .i64 (r1 + pre.length)) (some 46) #[true, true, true, true, true, true, true, true, true, true, true, true, false, false, false] rfl rfl rfl (by kernel_rfl) (by kernel_rfl) (by kernel_rfl) (fun _ _ _ h => NrmQ.panic h) (Or.inl ⟨by rfl, fun W hSW => by go_simp⟩) hHeld ?_
        simp only [Act.put, List.setIfInBounds_toArray, List.set_cons_zero, List.set_cons_succ]
        refine wpAnyH_ready (rs := [12, 13]) (by kernel_rfl) (by simp) (AllReadyH.cons rfl (fun K hK => ?_) (AllReadyH.cons rfl (fun K hK => ?_) AllReadyH.nil))
        · rw [if_pos (by rfl)]
          go_simp
          refine (hinto2 _).mono ?_
          rintro e wi ⟨rfl, hwi⟩
          subst wi
          refine hK.out _ _ hHeld (fun hHeld => ?_)
          clear hK K
          simp only [List.setIfInBounds_toArray, List.set_cons_zero, List.set_cons_succ]
          refine wpAnyH_ready (rs := [13]) (by kernel_rfl) (by simp) (AllReadyH.cons rfl (fun K hK => ?_) AllReadyH.nil)
          rw [if_pos (by rfl)]
          go_simp
          refine alloc_letterd (n := 1) rfl (fun V1 Z1 hz1 hb1 hs1 hk1 => ?_)
          clear hs1
          refine hK.out _ _ hk1.out (fun hHeld => ?_)
          clear hK K
          simp only [List.setIfInBounds_toArray, List.set_cons_zero, List.set_cons_succ]
          obtain ⟨z0, hz0⟩ : ∃ z0, Z1 = #[z0] := by
            obtain ⟨l⟩ := Z1
            match l, hz1.out with
            | [z], _ => exact ⟨z, rfl⟩
          subst hz0
          have hbv : Hid (V1.heap[W.heap.size]? = some (.cells #[z0] 3 (0, 0))) := hb1.out
          have hcv : V1.cell? ⟨W.heap.size, 0, none⟩ = some z0 := by rw [cell_of_row _ _ _ _ _ _ hbv.out]; rfl
          have hfv : V1.frozen? ⟨W.heap.size, 0, none⟩ = false := frozen_of_row _ _ _ _ _ hbv.out
          refine wpAnyH_ready (rs := [14]) (by kernel_rfl) (by simp) (AllReadyH.cons rfl (fun K hK => ?_) AllReadyH.nil)
          rw [if_pos (by rfl)]
          go_simp
          refine hK.out _ _ (hHeld.setCell (p := ⟨W.heap.size, 0, none⟩) (Or.inr (Nat.le_refl _)) _) (fun hHeld => ?_)
          clear hK K
          simp only [List.setIfInBounds_toArray, List.set_cons_zero, List.set_cons_succ]
          refine wpAnyH_done (by kernel_rfl) ?_ _
          refine ⟨rfl, ?_⟩
          rw [hR12.out]
          refine ⟨hHeld, setCell_box hbv.out _, ?_⟩
          simp only [List.setIfInBounds_toArray, List.set_cons_zero, List.set_cons_succ]
        · rw [if_pos (by rfl)]
          go_simp
          refine alloc_letterd (n := 1) rfl (fun V1 Z1 hz1 hb1 hs1 hk1 => ?_)
          clear hs1
          refine hK.out _ _ hk1.out (fun hHeld => ?_)
          clear hK K
          simp only [List.setIfInBounds_toArray, List.set_cons_zero, List.set_cons_succ]
          refine wpAnyH_ready (rs := [12]) (by kernel_rfl) (by simp) (AllReadyH.cons rfl (fun K hK => ?_) AllReadyH.nil)
          rw [if_pos (by rfl)]
          go_simp
          refine (hinto2 _).mono ?_
          rintro e wi ⟨rfl, hwi⟩
          subst wi
          refine hK.out _ _ hHeld (fun hHeld => ?_)
          clear hK K
          simp only [List.setIfInBounds_toArray, List.set_cons_zero, List.set_cons_succ]
          obtain ⟨z0, hz0⟩ : ∃ z0, Z1 = #[z0] := by
            obtain ⟨l⟩ := Z1
            match l, hz1.out with
            | [z], _ => exact ⟨z, rfl⟩
          subst hz0
          have hbv : Hid (V1.heap[W.heap.size]? = some (.cells #[z0] 3 (0, 0))) := hb1.out
          have hcv : V1.cell? ⟨W.heap.size, 0, none⟩ = some z0 := by rw [cell_of_row _ _ _ _ _ _ hbv.out]; rfl
          have hfv : V1.frozen? ⟨W.heap.size, 0, none⟩ = false := frozen_of_row _ _ _ _ _ hbv.out
          refine wpAnyH_ready (rs := [14]) (by kernel_rfl) (by simp) (AllReadyH.cons rfl (fun K hK => ?_) AllReadyH.nil)
          rw [if_pos (by rfl)]
          go_simp
          refine hK.out _ _ (hHeld.setCell (p := ⟨W.heap.size, 0, none⟩) (Or.inr (Nat.le_refl _)) _) (fun hHeld => ?_)
          clear hK K
          simp only [List.setIfInBounds_toArray, List.set_cons_zero, List.set_cons_succ]
          refine wpAnyH_done (by kernel_rfl) ?_ _
          refine ⟨rfl, ?_⟩
          rw [hR12.out]
          refine ⟨hHeld, setCell_box hbv.out _, ?_⟩
          simp only [List.setIfInBounds_toArray, List.set_cons_zero, List.set_cons_succ]
      · rw [if_pos (by rfl)]
        go_simp
        refine alloc_letterd (n := 1) rfl (fun V1 Z1 hz1 hb1 hs1 hk1 => ?_)
        clear hs1
        refine hK.out _ _ hk1.out (fun hHeld => ?_)
        clear hK K
        simp only [List.setIfInBounds_toArray, List.set_cons_zero, List.set_cons_succ]
        refine wpAnyH_ready (rs := [5]) (by kernel_rfl) (by simp) (AllReadyH.cons rfl (fun K hK => ?_) AllReadyH.nil)
        rw [if_pos (by rfl)]
        go_simp
        refine (hinto1 _).mono ?_
        rintro e wi ⟨rfl, hwi⟩
        subst wi
        refine hK.out _ _ hHeld (fun hHeld => ?_)
        clear hK K
        simp only [List.setIfInBounds_toArray, List.set_cons_zero, List.set_cons_succ]
        refine takeP 8 (v := .int .i64 (r1 + pre.length)) (some 46) #[true, true, true, true, true, true, true, true, true, true, true, true, false, true, false] rfl rfl rfl (by kernel_rfl) (by kernel_rfl) (by kernel_rfl) (fun _ _ _ h => NrmQ.panic h) (Or.inl ⟨by rfl, fun W hSW => by go_simp⟩) hHeld ?_
        simp only [Act.put, List.setIfInBounds_toArray, List.set_cons_zero, List.set_cons_succ]
        refine wpAnyH_ready (rs := [12]) (by kernel_rfl) (by simp) (AllReadyH.cons rfl (fun K hK => ?_) AllReadyH.nil)
        rw [if_pos (by rfl)]
        go_simp
        refine (hinto2 _).mono ?_
        rintro e wi ⟨rfl, hwi⟩
        subst wi
        refine hK.out _ _ hHeld (fun hHeld => ?_)
        clear hK K
        simp only [List.setIfInBounds_toArray, List.set_cons_zero, List.set_cons_succ]
        obtain ⟨z0, hz0⟩ : ∃ z0, Z1 = #[z0] := by
          obtain ⟨l⟩ := Z1
          match l, hz1.out with
          | [z], _ => exact ⟨z, rfl⟩
        subst hz0
        have hbv : Hid (V1.heap[W.heap.size]? = some (.cells #[z0] 3 (0, 0))) := hb1.out
        have hcv : V1.cell? ⟨W.heap.size, 0, none⟩ = some z0 := by rw [cell_of_row _ _ _ _ _ _ hbv.out]; rfl
        have hfv : V1.frozen? ⟨W.heap.size, 0, none⟩ = false := frozen_of_row _ _ _ _ _ hbv.out
        refine wpAnyH_ready (rs := [14]) (by kernel_rfl) (by simp) (AllReadyH.cons rfl (fun K hK => ?_) AllReadyH.nil)
        rw [if_pos (by rfl)]
        go_simp
        refine hK.out _ _ (hHeld.setCell (p := ⟨W.heap.size, 0, none⟩) (Or.inr (Nat.le_refl _)) _) (fun hHeld => ?_)
        clear hK K
        simp only [List.setIfInBounds_toArray, List.set_cons_zero, List.set_cons_succ]
        refine wpAnyH_done (by kernel_rfl) ?_ _
        refine ⟨rfl, ?_⟩
        rw [hR12.out]
        refine ⟨hHeld, setCell_box hbv.out _, ?_⟩
        simp only [List.setIfInBounds_toArray, List.set_cons_zero, List.set_cons_succ]
    · intro a3 W3 h3
      rw [hR12.out] at h3
      obtain ⟨k3, hb3, rfl⟩ := h3
      clear hR12 R12
      subst hT1
      simp only [List.setIfInBounds_toArray, List.set_cons_zero, List.set_cons_succ]
      obtain ⟨V1, hV1⟩ : ∃ V, V = W3.alloc (.cells #[.slice none 0 0] 35) := ⟨_, rfl⟩
      have HV1 : Hid (V1 = W3.alloc (.cells #[.slice none 0 0] 35)) := hV1
      have kV1 : Kept [] W3 V1 := by rw [hV1]; exact (Kept.refl _ _).alloc _
      have HK3 : Hid (Kept [] W W3) := k3
      have HKW3 : Hid (Kept [] wE W3) := HW.out.2.2.2.1.then k3
      have HKV1 : Hid (Kept [] W3 V1) := kV1
      have HB10 : Hid (∀ V, Kept [] W3 V → V.cell? ⟨W.heap.size, 0, none⟩ = some (.int .i64 m)) := fun V q => by
        rw [cell_of_row _ _ _ _ _ _ (q.heap hb3 (by simp))]
        rfl
      have HBX1 : Hid (IdBox V1 W3.heap.size W3.heap.size none 0 []) := IdBox.start (by rw [hV1]; exact heap_alloc_new W3 _)
      have f5 := (HCD.out V1 (HKE.out.then (HKW3.out.then kV1))).2.2.1
      rw [hV1] at f5
      have hfl1 := HFE.out V1 (HKW3.out.then kV1)
      have hseq1 := (all_G hfl1.st (by have := HN.out; omega) hfl1.non EncOf hfl1.encOf w1.heap.size (HCD.out V1 (HKE.out.then (HKW3.out.then kV1))).1 2).inRound (wF.heap.size + 1)
      have hl1 : ∃ r, V1.heap[wF.heap.size + 1]? = some (.loop r) := by
        obtain ⟨r, hr⟩ := HLOOP.out
        exact ⟨r, (k3.then kV1).heap hr (by simp)⟩
      have HSW : Hid (wE.heap.size ≤ W3.heap.size) := HKW3.out.size
      clear hV1 k3 kV1 hb3 hfl1 hinto1 hinto2 hw1 hw2
      gi_wp2_with fail
      rw [← HV1.out]
      clear f5
      refine wpIn_cap fun T2 hT2 => ?_
      refine wpIn_rangeG_one (l₀ := wF.heap.size + 1) rfl hl1 (by omega) (gf := 41) (lb := #[.pointer (some ⟨w1.heap.size, 0, none⟩)]) (by rw [hT2]; rfl) trivial (enters_of Tryz.func41 (by kernel_rfl) rfl) hseq1 (fun x A C h => h.keeps _) KpS.trans ?hKb1 (fun _ => rfl) (Below.refl _ _) 2
        (fun V => (∃ ao cap, IdBox V W3.heap.size W3.heap.size ao cap (ids.take m)) ∧ Kept [] W3 V)
        (fun pre V => (∃ ao cap, IdBox V W3.heap.size W3.heap.size ao cap (pre.map (·.xs))) ∧ Kept [] W3 V ∧ pre.length ≤ m ∧ V1.heap.size ≤ V.heap.size)
        (fun c pre V => c = .exit 2 ∧ ∃ q y, pre = q ++ [y] ∧ q.length = m ∧ (∃ ao cap, IdBox V W3.heap.size W3.heap.size ao cap (q.map (·.xs))) ∧ Kept [] W3 V)
        ?hI1 ?hIx1 ⟨⟨_, _, HBX1.out⟩, HKV1.out, Nat.zero_le _, Nat.le_refl _⟩
        (fun pre y a4 V => ∃ By ao cap, V1.heap.size ≤ By ∧ V.heap[By]? = some (.cells (idC y.xs) 29 (0, 0)) ∧ IdBox V W3.heap.size W3.heap.size ao cap (pre.map (·.xs)) ∧ Kept [] W3 V ∧ pre.length ≤ m ∧ V1.heap.size ≤ V.heap.size ∧ a4 = { tmps := ((T2.setIfInBounds 52 (.agg (idC y.xs))).setIfInBounds 53 (.slice y.p y.l y.c)).setIfInBounds 12 (.pointer (some ⟨By, 0, none⟩)), defers := [] })
        ?hAx1 ?assign1 ?body1 ?done1 ?stop1 (fun _ h => h) ?cont1
      case hKb1 => exact fun W l o o2 hl ho hc _ => KpS.putObj (b := V1.heap.size) (fun z hz => by have q1 := HSE.out.2.2.1 z hz; have q2 := HSE.out.2.2.2; have q3 := HSW.out; have q4 := HKV1.out.size; omega) W l o o2 hl ho hc
      case hI1 =>
        intro pre W W2 row ⟨⟨ao, cap, h1⟩, h2, h3, h4⟩ hg hr
        have ht : TurnsNone V1.heap.size W W2 row := ⟨hg, hr⟩
        exact ⟨⟨ao, cap, h1.turns ht⟩, ht.kept h2 HKV1.out.size, h3, Nat.le_trans h4 hg.size⟩
      case hIx1 =>
        intro c pre W W2 row ⟨h0, q, y, h1, h2, ⟨ao, cap, h3⟩, h4⟩ hg hr
        have ht : TurnsNone V1.heap.size W W2 row := ⟨hg, hr⟩
        exact ⟨h0, q, y, h1, h2, ⟨ao, cap, h3.turns ht⟩, ht.kept h4 HKV1.out.size⟩
      case hAx1 =>
        intro pre x a2 _ W W2 row ⟨Bx, ao, cap, h1, h2, h3, h4, h5, h6, h7⟩ hg hr
        have ht : TurnsNone V1.heap.size W W2 row := ⟨hg, hr⟩
        exact ⟨Bx, ao, cap, h1, ht.cells h2, h3.turns ht, ht.kept h4 HKV1.out.size, h5, Nat.le_trans h6 hg.size, h7⟩
      case assign1 =>
        rintro pre1 y A V K ⟨⟨ao1, cap1, h1⟩, h2, h3, h4⟩ hx _ hK
        obtain ⟨U, hU⟩ : ∃ U, U = V.alloc (.cells (idC y.xs) 29) := ⟨_, rfl⟩
        have HUU : Hid (U = V.alloc (.cells (idC y.xs) 29)) := hU
        have kU : Kept [] V U := by rw [hU]; exact (Kept.refl _ _).alloc _
        have hsz : (Tryz.prog.info? 29).map (·.size) = some (idC y.xs).size := by rw [idC_size y.good.1]; exact Tryz.infoID
        have hzz : (idC zid).size = (idC y.xs).size := by rw [idC_size y.good.1]; rfl
        have hone : (idC y.xs).all (·.oneCell') = true := all_oneCell_toArray (map_oneCell _)
        have kA : Kept [] A U := hx.1.then kU
        have HF : Hid (KeepsFrom V1.heap.size V U ∧ KpS (Gof D) V U ∧ V1.heap.size ≤ V.heap.size ∧ U.heap[V.heap.size]? = some (.cells (idC y.xs) 29 (0, 0)) ∧ IdBox U W3.heap.size W3.heap.size ao1 cap1 (pre1.map (·.xs)) ∧ Kept [] W3 U ∧ pre1.length ≤ m ∧ V1.heap.size ≤ U.heap.size) := by
          have h5 : V1.heap.size ≤ V.heap.size := Nat.le_trans h4 hx.1.size
          refine ⟨kU.others (by simp) _, KpS.of_kept kU (by simp) (by simp) (fun z hz => ?_), h5, by rw [hU]; exact heap_alloc_new V _, h1.on kA, h2.then kA, h3, Nat.le_trans h5 kU.size⟩
          have q1 := HSE.out.2.2.1 z hz
          have q2 := HSE.out.2.2.2
          have q3 := HSW.out
          have q4 := HKV1.out.size
          omega
        clear h1 h2 h3 h4 kU kA hU hx
        subst hT2
        simp only [encsR]
        gi_wp2_with (refine listIn_store_new (by rfl) 29 (.tmp 12) (.tmp 52) (by rfl) V _ (idC y.xs) (by rfl) (by rfl) hsz hzz hone ?_)
        rw [← HUU.out]
        exact hK _ _ HF.out.1 HF.out.2.1 ⟨V.heap.size, ao1, cap1, HF.out.2.2.1, HF.out.2.2.2.1, HF.out.2.2.2.2.1, HF.out.2.2.2.2.2.1, HF.out.2.2.2.2.2.2.1, HF.out.2.2.2.2.2.2.2, rfl⟩
      case body1 =>
        rintro pre1 y a4 V _ ⟨By, ao1, cap1, hBy, hby, hib1, hkV, hpm, hVs, rfl⟩ hpl1
        obtain ⟨Lp, hLp⟩ : ∃ Lp, Lp = pre1.map (·.xs) := ⟨_, rfl⟩
        have HLP : Hid (Lp = pre1.map (·.xs) ∧ Lp.length = pre1.length) := ⟨hLp, by rw [hLp, List.length_map]⟩
        have hlpl : Lp.length < 1000000 := by rw [HLP.out.2]; exact hpl1
        rw [← hLp] at hib1
        have c11 := hib1.cell
        have c10 := HB10.out V hkV
        have HKV : Hid (Kept [] W3 V ∧ V1.heap.size ≤ V.heap.size ∧ pre1.length ≤ m) := ⟨hkV, hVs, hpm⟩
        have hbxle : W3.heap.size ≤ V.heap.size := hkV.size
        subst hT2
        simp only [List.setIfInBounds_toArray, List.set_cons_zero, List.set_cons_succ]
        clear hLp hkV hpm hBy
        by_cases hend : Lp.length = m
        · have HE : Hid (pre1.length = m ∧ IdBox V W3.heap.size W3.heap.size ao1 cap1 (pre1.map (·.xs))) := ⟨by rw [← HLP.out.2]; exact hend, by rw [← HLP.out.1]; exact hib1⟩
          have te : ((Lp.length : Int) == (m : Int)) = true := by simp [hend]
          clear hend
          gi_wp2
          exact ⟨KeepsFrom.refl _ _, rfl, pre1, y, rfl, HE.out.1, ⟨_, _, HE.out.2⟩, HKV.out.1⟩
        · have te : ((Lp.length : Int) == (m : Int)) = false := by simp; omega
          have HNE : Hid (Lp.length ≠ m) := hend
          clear hend c11
          have hrng : V.rangeAt By 0 (y.xs.map (Value.int .u8)) := row_range hby
          have hsi : (Tryz.prog.info? 29).map (·.size) = some (y.xs.map (Value.int .u8)).length := by rw [List.length_map, y.good.1]; exact Tryz.infoID
          have hul : (y.xs.map (Value.int .u8)).length = 1 * 32 := by rw [List.length_map, y.good.1]
          have huo : ∀ u, u ∈ y.xs.map (Value.int .u8) → u.oneCell' = true := map_oneCell _
          have hbs := fun W => run_build_k (t := 35) Tryz.underlying35 Tryz.idInfo (by decide) (by decide) (y.xs.map (Value.int .u8)) (by rw [List.length_map, y.good.1]) W
          obtain ⟨Z5, hZ5⟩ : ∃ Z5, Z5 = V.alloc (.cells (y.xs.map (Value.int .u8)).toArray 29) := ⟨_, rfl⟩
          have HZ5 : Hid (Z5 = V.alloc (.cells (y.xs.map (Value.int .u8)).toArray 29)) := hZ5
          have k5 : Kept [] V Z5 := by rw [hZ5]; exact (Kept.refl _ _).alloc _
          have own5 : Z5.ownsRow (W3.heap.size) 29 32 (.slice ao1 Lp.length cap1) Lp.length (Lp.map fun id => id.map (Value.int .u8)).flatten := ownsK_on hib1.own k5 (fun _ _ => by simp)
          have cells5 : ∀ j u, (y.xs.map (Value.int .u8))[j]? = some u → Z5.cell? ((⟨V.heap.size, 0, none⟩ : Addr).add j) = some u := fun j u hu => by
            rw [Addr.add_mid]
            exact (row_range (show Z5.heap[V.heap.size]? = _ by rw [hZ5]; exact heap_alloc_new V _)) j u hu
          have hb1 : Lp.length + 1 ≤ maxLen := by unfold maxLen; omega
          have hb2 : (Lp.length + 1) * 32 ≤ 140737488355328 := by omega
          have hb3 : W3.heap.size ≤ Z5.heap.size := Nat.le_trans hbxle k5.size
          have HK5 : Hid (Kept [] V Z5) := k5
          have HIB : Hid (IdBox V (W3.heap.size) (W3.heap.size) ao1 cap1 Lp) := hib1
          have cbx : V.cell? ⟨W3.heap.size, 0, none⟩ = some (.slice ao1 Lp.length cap1) := hib1.cell
          obtain ⟨us, hus⟩ : ∃ us, us = y.xs.map (Value.int .u8) := ⟨_, rfl⟩
          have HUS : Hid (us = y.xs.map (Value.int .u8)) := hus
          rw [← hus] at hrng hsi hul huo hbs HZ5 cells5
          clear hZ5 k5 hus hby hib1
          gi_wp2_with (first
            | (refine listIn_load_mid (by rfl) 29 (.tmp 12) (by rfl) By 0 (by rfl) us _ hrng hui rfl hsi ?_)
            | (refine listIn_slice_k (by rfl) 35 29 (.tmp 59) (by rfl) us (by rfl) hbs ?_; rw [← HZ5.out])
            | (gi_at_builtin; refine wpListIn_append_own _ (by rfl) _ _ 35 (by rfl) (W3.heap.size) 29 i0 _ 32 32 Tryz.underlying35 hi0 hz0 hz1 hz2 Tryz.idZero (by decide) _ _ _ (by rfl) own5 ⟨V.heap.size, 0, none⟩ 1 1 us (by rfl) hul cells5 huo hb1 hb2 hb3 ?_
               intro v6 w6 own6 hgr6 _
               rw [HUS.out] at own6
               obtain ⟨g6, cap6, rfl, hc6, hf6, hib6, hkk6, hkf6, hkp6⟩ := HIB.out.push HK5.out own6 hgr6
               have HP6 : Hid (IdBox (w6.setCell ⟨W3.heap.size, 0, none⟩ (.slice (some ⟨g6, 0, none⟩) (Lp.length + 1) cap6)) (W3.heap.size) (W3.heap.size) (some ⟨g6, 0, none⟩) cap6 (Lp ++ [y.xs]) ∧ (∀ U, Kept [] U V → U.heap.size ≤ W3.heap.size → U.heap.size ≤ W3.heap.size → Kept [] U (w6.setCell ⟨W3.heap.size, 0, none⟩ (.slice (some ⟨g6, 0, none⟩) (Lp.length + 1) cap6))) ∧ (∀ b, KeepsFrom b V (w6.setCell ⟨W3.heap.size, 0, none⟩ (.slice (some ⟨g6, 0, none⟩) (Lp.length + 1) cap6))) ∧ (∀ G : Nat → Prop, (∀ y, G y → y < W3.heap.size ∧ y < W3.heap.size ∧ y < V.heap.size) → KpS G V (w6.setCell ⟨W3.heap.size, 0, none⟩ (.slice (some ⟨g6, 0, none⟩) (Lp.length + 1) cap6)))) := ⟨hib6, hkk6, hkf6, hkp6⟩
               clear own6 hgr6 hib6 hkk6 hkf6 hkp6))
          obtain ⟨pb6, pk6, pf6, pp6⟩ := HP6.out
          refine ⟨pf6 _, pp6 _ (fun z hz => ?_), ⟨some ⟨g6, 0, none⟩, cap6, ?_⟩, pk6 _ HKV.out.1 (Nat.le_refl _) (Nat.le_refl _), ?_, ?_⟩
          · have q1 := HSE.out.2.2.1 z hz
            have q2 := HSE.out.2.2.2
            have q3 := HSW.out
            omega
          · have h := pb6
            rw [HLP.out.1] at h
            rw [List.map_append]
            rw [HLP.out.1]
            exact h
          · have q1 := HKV.out.2.2
            have q2 := HNE.out
            have q3 := HLP.out.2
            rw [List.length_append, List.length_singleton]
            omega
          · exact Nat.le_trans HKV.out.2.1 (pf6 0).size
      case done1 =>
        rintro xs1 V hS ⟨⟨ao1, cap1, h1⟩, h2, h3, _⟩
        have e := hS.eq (HFE.out wE (Kept.refl _ _)).st HOF.out
        rw [e] at h1
        have hl : xs1.length = ids.length := by rw [← e, List.length_map]
        rw [List.take_of_length_le (by omega)]
        exact ⟨⟨ao1, cap1, h1⟩, h2⟩
      case stop1 =>
        rintro c pre V hS ⟨rfl, q, y, rfl, h2, ⟨ao1, cap1, h3⟩, h4⟩
        have e := hS.front (HFE.out wE (Kept.refl _ _)).st HOF.out
        rw [e.1, h2] at h3
        exact ⟨rfl, ⟨ao1, cap1, h3⟩, h4⟩
      case cont1 =>
        rintro V2 ⟨⟨ao1, cap1, hib1⟩, hkV2⟩
        obtain ⟨Lm, hLm⟩ : ∃ Lm, Lm = ids.take m := ⟨_, rfl⟩
        have HLM : Hid (Lm = ids.take m ∧ Lm.length = m) := ⟨hLm, by rw [hLm, List.length_take, Nat.min_eq_left hml]⟩
        rw [← hLm] at hib1
        obtain ⟨V3, hV3⟩ : ∃ V, V = V2.alloc (.cells #[.slice none 0 0] 35) := ⟨_, rfl⟩
        have HV3 : Hid (V3 = V2.alloc (.cells #[.slice none 0 0] 35)) := hV3
        have kV3 : Kept [] V2 V3 := by rw [hV3]; exact (Kept.refl _ _).alloc _
        have HKV3 : Hid (Kept [] V2 V3) := kV3
        have HKW4 : Hid (Kept [] wE V2) := HKW3.out.then hkV2
        have HK32 : Hid (Kept [] W3 V2) := hkV2
        have HBX3 : Hid (IdBox V3 V2.heap.size V2.heap.size none 0 []) := IdBox.start (by rw [hV3]; exact heap_alloc_new V2 _)
        have HIN : Hid (∀ V, Kept [] V2 V → IdBox V W3.heap.size W3.heap.size ao1 cap1 Lm) := fun V q => hib1.on q
        have f6 := (HCD.out V3 (HKE.out.then (HKW4.out.then kV3))).2.2.2
        rw [hV3] at f6
        have hfl3 := HFE.out V3 (HKW4.out.then kV3)
        have hseq3 := (all_G hfl3.st (by have := HN.out; omega) hfl3.non EncOf hfl3.encOf wB.heap.size (HCD.out V3 (HKE.out.then (HKW4.out.then kV3))).2.1 2).inRound (wF.heap.size + 1)
        have hl3 : ∃ r, V3.heap[wF.heap.size + 1]? = some (.loop r) := by
          obtain ⟨r, hr⟩ := HLOOP.out
          exact ⟨r, ((HK3.out.then hkV2).then kV3).heap hr (by simp)⟩
        have HSW2 : Hid (wE.heap.size ≤ V2.heap.size) := HKW4.out.size
        clear hV3 kV3 hfl3 hkV2 hib1 hLm hseq1 hl1
        subst hT2
        gi_wp2_with fail
        rw [← HV3.out]
        clear f6
        refine wpIn_cap fun T3 hT3 => ?_
        refine wpIn_rangeG_in (l₀ := wF.heap.size + 1) rfl hl3 (by omega) (gf := 41) (lb := #[.pointer (some ⟨wB.heap.size, 0, none⟩)]) (by rw [hT3]; rfl) trivial (enters_of Tryz.func41 (by kernel_rfl) rfl) hseq3 (fun x A C h => h.keeps _) KpS.trans ?hKb3 (fun _ => rfl) (Below.refl _ _)
          (fun pre V => (∃ ao cap, IdBox V V2.heap.size V2.heap.size ao cap (pre.map (·.xs))) ∧ Kept [] V2 V ∧ V3.heap.size ≤ V.heap.size)
          (fun _ _ _ => False) ?hI3 (fun _ _ _ _ _ hs _ _ => hs) ⟨⟨_, _, HBX3.out⟩, HKV3.out, Nat.le_refl _⟩
          (fun pre y a4 V => ∃ By ao cap ys, V3.heap.size ≤ By ∧ V.heap[By]? = some (.cells (idC y.xs) 29 (0, 0)) ∧ IdBox V V2.heap.size V2.heap.size ao cap (pre.map (·.xs)) ∧ Kept [] V2 V ∧ V3.heap.size ≤ V.heap.size ∧ OwnB V 0 (.slice y.p y.l y.c) ys ∧ (y.xs = digL ys ∧ Octs ys ∧ ys.length ≤ 65536) ∧ a4 = { tmps := (((T3.setIfInBounds 63 (.agg (idC y.xs))).setIfInBounds 64 (.slice y.p y.l y.c)).setIfInBounds 14 (.pointer (some ⟨By, 0, none⟩))).setIfInBounds 15 (.slice y.p y.l y.c), defers := [] })
          ?hAx3 ?assign3 ?body3 ?done3 ?stop3
        case hKb3 => exact fun W l o o2 hl ho hc _ => KpS.putObj (b := V3.heap.size) (fun z hz => by have q1 := HSE.out.2.2.1 z hz; have q2 := HSE.out.2.2.2; have q3 := HSW2.out; have q4 := HKV3.out.size; omega) W l o o2 hl ho hc
        case hI3 =>
          intro pre W W2 row ⟨⟨ao, cap, h1⟩, h2, h4⟩ hg hr
          have ht : TurnsNone V3.heap.size W W2 row := ⟨hg, hr⟩
          exact ⟨⟨ao, cap, h1.turns ht⟩, ht.kept h2 HKV3.out.size, Nat.le_trans h4 hg.size⟩
        case hAx3 =>
          intro pre x a2 _ W W2 row ⟨Bx, ao, cap, ys, h1, h2, h3, h4, h6, h7, h8, h9⟩ hg hr
          have ht : TurnsNone V3.heap.size W W2 row := ⟨hg, hr⟩
          exact ⟨Bx, ao, cap, ys, h1, ht.cells h2, h3.turns ht, ht.kept h4 HKV3.out.size, Nat.le_trans h6 hg.size, ht.owns h7, h8, h9⟩
        case assign3 =>
          rintro pre1 y A V K ⟨⟨ao3, cap3, h1⟩, h2, h4⟩ hx _ hK
          obtain ⟨hxk, ge, ys, hxp, hxg, hxo, hxl, hx65, _, hxq⟩ := hx
          obtain ⟨U, hU⟩ : ∃ U, U = V.alloc (.cells (idC y.xs) 29) := ⟨_, rfl⟩
          have HUU : Hid (U = V.alloc (.cells (idC y.xs) 29)) := hU
          have kU : Kept [] V U := by rw [hU]; exact (Kept.refl _ _).alloc _
          have hsz : (Tryz.prog.info? 29).map (·.size) = some (idC y.xs).size := by rw [idC_size y.good.1]; exact Tryz.infoID
          have hzz : (idC zid).size = (idC y.xs).size := by rw [idC_size y.good.1]; rfl
          have hone : (idC y.xs).all (·.oneCell') = true := all_oneCell_toArray (map_oneCell _)
          have kA : Kept [] A U := hxk.then kU
          have HF : Hid (KeepsFrom V3.heap.size V U ∧ KpS (Gof D) V U ∧ V3.heap.size ≤ V.heap.size ∧ U.heap[V.heap.size]? = some (.cells (idC y.xs) 29 (0, 0)) ∧ IdBox U V2.heap.size V2.heap.size ao3 cap3 (pre1.map (·.xs)) ∧ Kept [] V2 U ∧ V3.heap.size ≤ U.heap.size ∧ OwnB U 0 (.slice y.p y.l y.c) ys ∧ (y.xs = digL ys ∧ Octs ys ∧ ys.length ≤ 65536)) := by
            have h5 : V3.heap.size ≤ V.heap.size := Nat.le_trans h4 hxk.size
            refine ⟨kU.others (by simp) _, KpS.of_kept kU (by simp) (by simp) (fun z hz => ?_), h5, by rw [hU]; exact heap_alloc_new V _, h1.on kA, h2.then kA, Nat.le_trans h5 kU.size, ownsK_on (owns_lower hxo (Nat.zero_le _)) kU (fun _ _ => by simp), idKey_inj y.good ⟨digL_len ys, digL_octs ys⟩ hxq.1, hxq.2, hx65⟩
            have q1 := HSE.out.2.2.1 z hz
            have q2 := HSE.out.2.2.2
            have q3 := HSW2.out
            have q4 := HKV3.out.size
            omega
          clear h1 h2 h4 kU kA hU hxk hxg hxo hxl hx65 hxq hxp
          subst hT3
          simp only [encsR]
          gi_wp2_with (refine listIn_store_new (by rfl) 29 (.tmp 14) (.tmp 63) (by rfl) V _ (idC y.xs) (by rfl) (by rfl) hsz hzz hone ?_; rw [← HUU.out])
          exact hK _ _ HF.out.1 HF.out.2.1 ⟨V.heap.size, ao3, cap3, ys, HF.out.2.2.1, HF.out.2.2.2.1, HF.out.2.2.2.2.1, HF.out.2.2.2.2.2.1, HF.out.2.2.2.2.2.2.1, HF.out.2.2.2.2.2.2.2.1, HF.out.2.2.2.2.2.2.2.2, rfl⟩
        case body3 =>
          rintro pre1 y a4 V _ ⟨By, ao3, cap3, ys, hBy, hby, hib3, hkV, hVs, hoy, ⟨hdy, hocy, hly⟩, rfl⟩ hpl1
          obtain ⟨Lp, hLp⟩ : ∃ Lp, Lp = pre1.map (·.xs) := ⟨_, rfl⟩
          have HLP : Hid (Lp = pre1.map (·.xs) ∧ Lp.length = pre1.length) := ⟨hLp, by rw [hLp, List.length_map]⟩
          have hlpl : Lp.length < 1000000 := by rw [HLP.out.2]; exact hpl1
          rw [← hLp] at hib3
          obtain ⟨uv, huv⟩ : ∃ uv, uv = y.xs.map (Value.int .u8) := ⟨_, rfl⟩
          have hidc : idC (digL ys) = uv.toArray := by rw [huv, ← hdy]; rfl
          have HUV : Hid (uv = y.xs.map (Value.int .u8)) := huv
          have hsv : (Tryz.prog.info? 29).map (·.size) = some uv.length := by rw [huv, List.length_map, y.good.1]; exact Tryz.infoID
          have HRV : Hid (∀ U, Kept [] V U → U.rangeAt By 0 uv) := fun U q => by
            rw [huv]
            exact row_range (q.heap hby (by simp))
          have HIDV : Hid (∀ U, Kept [] V U → Calls Tryz.prog 19 #[.slice y.p y.l y.c] U fun e w' => e = .returned (.agg uv.toArray) ∧ Kept [] V w') := fun U q => by
            rw [← hidc]
            exact (Id_any _ ys U (HV.out U (HK1E.out.then (HKW4.out.then (hkV.then q)))) (hoy.bytes.kept' q (fun _ _ _ => by simp)) hocy (by omega)).mono fun _ _ ⟨h1, h2⟩ => ⟨h1, q.then h2⟩
          have HEQ : Hid (∀ W, (Op.equalIn 10000 29 (.agg uv.toArray) (.agg uv.toArray)).run Tryz.prog W = .ok true W) := fun W => by
            rw [← hidc]
            have h1 := idEq (digL ys) (digL ys) W (digL_len ys) (digL_len ys)
            simpa using h1
          have HKV : Hid (Kept [] V2 V ∧ V3.heap.size ≤ V.heap.size) := ⟨hkV, hVs⟩
          have HIB3 : Hid (∀ U, Kept [] V U → IdBox U V2.heap.size V2.heap.size ao3 cap3 Lp ∧ U.heap[By]? = some (.cells (idC y.xs) 29 (0, 0))) := fun U q => ⟨hib3.on q, q.heap hby (by simp)⟩
          subst hT3
          simp only [List.setIfInBounds_toArray, List.set_cons_zero, List.set_cons_succ]
          clear hLp hkV hBy hib3 hby hidc huv hoy hdy hocy hly hVs
          gi_wp2_with fail
          refine round_quiet (Kept [] V) (by kernel_rfl) (by kernel_rfl) (by kernel_rfl) (Kept.refl [] V).drew ?_
          refine quiet_move (by rfl) (.tmp 15) rfl (.slice y.p y.l y.c) rfl ?_
          simp only [Act.put, List.setIfInBounds_toArray, List.set_cons_zero, List.set_cons_succ]
          refine quiet_call (by rfl) 19 #[.slice y.p y.l y.c] (.agg uv.toArray) (fun W => by go_simp) HIDV.out ?_
          simp only [Act.put, List.setIfInBounds_toArray, List.set_cons_zero, List.set_cons_succ]
          refine quiet_row (by rfl) _ _ rfl By 0 rfl uv _ HRV.out hui rfl hsv ?_
          simp only [Act.put, List.setIfInBounds_toArray, List.set_cons_zero, List.set_cons_succ]
          refine quiet_neq (by rfl) (.tmp 66) (.tmp 67) _ rfl _ _ rfl rfl true HEQ.out ?_
          simp only [Act.put, List.setIfInBounds_toArray, List.set_cons_zero, List.set_cons_succ]
          refine wpQuiet_nil fun V4 k4 => ?_
          obtain ⟨hib4, hby⟩ := HIB3.out V4 k4
          have HK4 : Hid (Kept [] V V4) := k4
          have hbxle : V2.heap.size ≤ V4.heap.size := (HKV.out.1.then k4).size
          clear k4 HRV HIDV HIB3 hsv
          have hrng : V4.rangeAt By 0 (y.xs.map (Value.int .u8)) := row_range hby
          have hsi : (Tryz.prog.info? 29).map (·.size) = some (y.xs.map (Value.int .u8)).length := by rw [List.length_map, y.good.1]; exact Tryz.infoID
          have hul : (y.xs.map (Value.int .u8)).length = 1 * 32 := by rw [List.length_map, y.good.1]
          have huo : ∀ u, u ∈ y.xs.map (Value.int .u8) → u.oneCell' = true := map_oneCell _
          have hbs := fun W => run_build_k (t := 35) Tryz.underlying35 Tryz.idInfo (by decide) (by decide) (y.xs.map (Value.int .u8)) (by rw [List.length_map, y.good.1]) W
          obtain ⟨Z5, hZ5⟩ : ∃ Z5, Z5 = V4.alloc (.cells (y.xs.map (Value.int .u8)).toArray 29) := ⟨_, rfl⟩
          have HZ5 : Hid (Z5 = V4.alloc (.cells (y.xs.map (Value.int .u8)).toArray 29)) := hZ5
          have k5 : Kept [] V4 Z5 := by rw [hZ5]; exact (Kept.refl _ _).alloc _
          have own5 : Z5.ownsRow (V2.heap.size) 29 32 (.slice ao3 Lp.length cap3) Lp.length (Lp.map fun id => id.map (Value.int .u8)).flatten := ownsK_on hib4.own k5 (fun _ _ => by simp)
          have cells5 : ∀ j u, (y.xs.map (Value.int .u8))[j]? = some u → Z5.cell? ((⟨V4.heap.size, 0, none⟩ : Addr).add j) = some u := fun j u hu => by
            rw [Addr.add_mid]
            exact (row_range (show Z5.heap[V4.heap.size]? = _ by rw [hZ5]; exact heap_alloc_new V4 _)) j u hu
          have hb1 : Lp.length + 1 ≤ maxLen := by unfold maxLen; omega
          have hb2 : (Lp.length + 1) * 32 ≤ 140737488355328 := by omega
          have hb3 : V2.heap.size ≤ Z5.heap.size := Nat.le_trans hbxle k5.size
          have HK5 : Hid (Kept [] V4 Z5) := k5
          have HIB : Hid (IdBox V4 (V2.heap.size) (V2.heap.size) ao3 cap3 Lp) := hib4
          have cbx : V4.cell? ⟨V2.heap.size, 0, none⟩ = some (.slice ao3 Lp.length cap3) := hib4.cell
          obtain ⟨us, hus⟩ : ∃ us, us = y.xs.map (Value.int .u8) := ⟨_, rfl⟩
          have HUS : Hid (us = y.xs.map (Value.int .u8)) := hus
          rw [← hus] at hrng hsi hul huo hbs HZ5 cells5
          clear hZ5 k5 hus hby hib4
          gi_wp2_with (first
            | (refine listIn_load_mid (by rfl) 29 (.tmp 14) (by rfl) By 0 (by rfl) us _ hrng hui rfl hsi ?_)
            | (refine listIn_slice_k (by rfl) 35 29 (.tmp 70) (by rfl) us (by rfl) hbs ?_; rw [← HZ5.out])
            | (gi_at_builtin; refine wpListIn_append_own _ (by rfl) _ _ 35 (by rfl) (V2.heap.size) 29 i0 _ 32 32 Tryz.underlying35 hi0 hz0 hz1 hz2 Tryz.idZero (by decide) _ _ _ (by rfl) own5 ⟨V4.heap.size, 0, none⟩ 1 1 us (by rfl) hul cells5 huo hb1 hb2 hb3 ?_
               intro v6 w6 own6 hgr6 _
               rw [HUS.out] at own6
               obtain ⟨g6, cap6, rfl, hc6, hf6, hib6, hkk6, hkf6, hkp6⟩ := HIB.out.push HK5.out own6 hgr6
               have HP6 : Hid (IdBox (w6.setCell ⟨V2.heap.size, 0, none⟩ (.slice (some ⟨g6, 0, none⟩) (Lp.length + 1) cap6)) (V2.heap.size) (V2.heap.size) (some ⟨g6, 0, none⟩) cap6 (Lp ++ [y.xs]) ∧ (∀ U, Kept [] U V4 → U.heap.size ≤ V2.heap.size → U.heap.size ≤ V2.heap.size → Kept [] U (w6.setCell ⟨V2.heap.size, 0, none⟩ (.slice (some ⟨g6, 0, none⟩) (Lp.length + 1) cap6))) ∧ (∀ b, KeepsFrom b V4 (w6.setCell ⟨V2.heap.size, 0, none⟩ (.slice (some ⟨g6, 0, none⟩) (Lp.length + 1) cap6))) ∧ (∀ G : Nat → Prop, (∀ y, G y → y < V2.heap.size ∧ y < V2.heap.size ∧ y < V4.heap.size) → KpS G V4 (w6.setCell ⟨V2.heap.size, 0, none⟩ (.slice (some ⟨g6, 0, none⟩) (Lp.length + 1) cap6)))) := ⟨hib6, hkk6, hkf6, hkp6⟩
               clear own6 hgr6 hib6 hkk6 hkf6 hkp6))
          obtain ⟨pb6, pk6, pf6, pp6⟩ := HP6.out
          refine ⟨(HK4.out.others (by simp) _).trans (pf6 _), KpS.trans (KpS.of_kept HK4.out (by simp) (by simp) (fun z hz => ?_)) (pp6 _ (fun z hz => ?_)), ⟨some ⟨g6, 0, none⟩, cap6, ?_⟩, pk6 _ (HKV.out.1.then HK4.out) (Nat.le_refl _) (Nat.le_refl _), ?_⟩
          · have q1 := HSE.out.2.2.1 z hz
            have q2 := HSE.out.2.2.2
            have q3 := HSW2.out
            have q4 := HKV3.out.size
            have q5 := HKV.out.2
            omega
          · have q1 := HSE.out.2.2.1 z hz
            have q2 := HSE.out.2.2.2
            have q3 := HSW2.out
            omega
          · have h := pb6
            rw [HLP.out.1] at h
            rw [List.map_append]
            rw [HLP.out.1]
            exact h
          · exact Nat.le_trans HKV.out.2 (Nat.le_trans HK4.out.size (pf6 0).size)
        case stop3 =>
          rintro c pre V _ h
          exact h.elim
        case done3 =>
          rintro xs3 V5 hS ⟨⟨ao3, cap3, hib3⟩, hkV5, _⟩
          rw [hS.eq (HFE.out wE (Kept.refl _ _)).st HOF.out] at hib3
          have HKV6 : Hid (∀ U, Kept [] V5 U → Kept [] V2 U) := fun U q => hkV5.then q
          have HK5 : Hid (Kept [] W V5) := (HK3.out.then HK32.out).then hkV5
          have HC5 : Hid (∀ U, Kept [] V5 U → U.cell? ⟨W3.heap.size, 0, none⟩ = some (.slice ao1 Lm.length cap1) ∧ U.cell? ⟨w2.heap.size, 0, none⟩ = some (.slice vo ids.length vc) ∧ U.cell? ⟨W.heap.size, 0, none⟩ = some (.int .i64 m) ∧ U.cell? ⟨V2.heap.size, 0, none⟩ = some (.slice ao3 ids.length cap3)) := fun U q => ⟨(HIN.out U (hkV5.then q)).cell, HCE.out U (HKW4.out.then (hkV5.then q)), HB10.out U (HK32.out.then (hkV5.then q)), (hib3.on q).cell⟩
          have HGM : Hid (∀ id, id ∈ Lm → GoodID id) := fun id hid => HGI.out id (by rw [HLM.out.1] at hid; exact List.mem_of_mem_take hid)
          have HQ1 : Hid (∀ U, Kept [] V5 U → Calls Tryz.prog 20 #[.slice ao1 Lm.length cap1, .slice vo m vc] U fun e w' => e = .returned (.bool true) ∧ Kept [] V5 w') := fun U q => by
            have h1 := (HIN.out U (hkV5.then q)).at HGM.out (by rw [HLM.out.2]; omega)
            have h2 := (HIV.out U (HKW4.out.then (hkV5.then q))).front m hml
            rw [← HLM.out.1] at h2
            exact (EqIDs_same _ _ Lm U h1 h2 (fun id hid => (HGM.out id hid).1)).mono fun _ _ ⟨h1, h2⟩ => ⟨h1, q.then h2⟩
          have HQ2 : Hid (∀ U, Kept [] V5 U → Calls Tryz.prog 20 #[.slice ao3 ids.length cap3, .slice vo ids.length vc] U fun e w' => e = .returned (.bool true) ∧ Kept [] V5 w') := fun U q => by
            have h1 := (hib3.on q).at HGI.out (by omega)
            have h2 := HIV.out U (HKW4.out.then (hkV5.then q))
            exact (EqIDs_same _ _ ids U h1 h2 (fun id hid => (HGI.out id hid).1)).mono fun _ _ ⟨h1, h2⟩ => ⟨h1, q.then h2⟩
          have s0 : (0 : Int) ≤ (m : Int) := by omega
          have s1 : (m : Int) ≤ (vc : Int) := by omega
          have HNV : Hid (vo = none → vc = 0) := HNV0.out
          obtain ⟨Lg, hLg⟩ : ∃ Lg, Lg = pre.map (·.xs) := ⟨_, rfl⟩
          have HLG : Hid (Lg = pre.map (·.xs) ∧ Lg.length = pre.length) := ⟨hLg, by rw [hLg, List.length_map]⟩
          have HG5 : Hid (∀ U, Kept [] V5 U → IdBox U (w2.heap.size + 1) (w2.heap.size + 1) ao cap Lg ∧ U.heap[Bx]? = some (.cells (idC x.xs) 29 (0, 0))) := fun U q => ⟨by rw [hLg]; exact HW.out.2.2.1.on (HK5.out.then q), (HK5.out.then q).heap HW.out.2.1 (by simp)⟩
          have hlgl : Lg.length < 1000000 := by rw [HLG.out.2]; exact HPL.out.1
          subst hT3
          clear hib3 hkV5 hseq3 hl3 hLg hS
          gi_wp2_with fail
          refine round_quiet (Kept [] V5) (by kernel_rfl) (by kernel_rfl) (by kernel_rfl) (Kept.refl [] V5).drew ?_
          with_reducible refine wpQuiet_step ?_
          intro K hK
          rw [if_pos (by go_simp)]
          refine valC_at (.slice ao1 Lm.length cap1) (fun W hW => by have hcc := (HC5.out W hW).1; go_simp) (hK _ ?_)
          clear hK K
          simp only [Act.put, List.setIfInBounds_toArray, List.set_cons_zero, List.set_cons_succ]
          with_reducible refine wpQuiet_step ?_
          intro K hK
          rw [if_pos (by go_simp)]
          refine valC_at (.slice vo ids.length vc) (fun W hW => by have hcc := (HC5.out W hW).2.1; go_simp) (hK _ ?_)
          clear hK K
          simp only [Act.put, List.setIfInBounds_toArray, List.set_cons_zero, List.set_cons_succ]
          with_reducible refine wpQuiet_step ?_
          intro K hK
          rw [if_pos (by go_simp)]
          refine valC_at (.int .i64 m) (fun W hW => by have hcc := (HC5.out W hW).2.2.1; go_simp) (hK _ ?_)
          clear hK K
          simp only [Act.put, List.setIfInBounds_toArray, List.set_cons_zero, List.set_cons_succ]
          with_reducible refine wpQuiet_step ?_
          intro K hK
          rw [if_pos (by go_simp)]
          refine val_at (.slice vo m vc) (fun W => by
            rcases vo with _ | ⟨vb, vf, vs⟩
            · have hz := HNV.out rfl
              subst hz
              obtain rfl : m = 0 := by omega
              go_simp
            · go_simp) (hK _ ?_)
          clear hK K
          simp only [Act.put, List.setIfInBounds_toArray, List.set_cons_zero, List.set_cons_succ]
          with_reducible refine wpQuiet_step ?_
          intro K hK
          rw [if_pos (by go_simp)]
          refine call_at 20 #[.slice ao1 Lm.length cap1, .slice vo m vc] (.bool true) (fun W => by go_simp) HQ1.out (hK _ ?_)
          clear hK K
          simp only [Act.put, List.setIfInBounds_toArray, List.set_cons_zero, List.set_cons_succ]
          with_reducible refine wpQuiet_step ?_
          intro K hK
          rw [if_pos (by go_simp)]
          refine val_at (.bool false) (fun W => by go_simp) (hK _ ?_)
          clear hK K
          simp only [Act.put, List.setIfInBounds_toArray, List.set_cons_zero, List.set_cons_succ]
          with_reducible refine wpQuiet_step ?_
          intro K hK
          rw [if_pos (by go_simp)]
          refine move_at (.tmp 78) rfl (.bool false) rfl (hK _ ?_)
          clear hK K
          simp only [Act.put, List.setIfInBounds_toArray, List.set_cons_zero, List.set_cons_succ]
          with_reducible refine wpQuiet_step ?_
          intro K hK
          rw [if_pos (by go_simp)]
          refine valC_at (.slice ao3 ids.length cap3) (fun W hW => by have hcc := (HC5.out W hW).2.2.2; go_simp) (hK _ ?_)
          clear hK K
          simp only [Act.put, List.setIfInBounds_toArray, List.set_cons_zero, List.set_cons_succ]
          with_reducible refine wpQuiet_step ?_
          intro K hK
          rw [if_pos (by go_simp)]
          refine valC_at (.slice vo ids.length vc) (fun W hW => by have hcc := (HC5.out W hW).2.1; go_simp) (hK _ ?_)
          clear hK K
          simp only [Act.put, List.setIfInBounds_toArray, List.set_cons_zero, List.set_cons_succ]
          with_reducible refine wpQuiet_step ?_
          intro K hK
          rw [if_pos (by go_simp)]
          refine call_at 20 #[.slice ao3 ids.length cap3, .slice vo ids.length vc] (.bool true) (fun W => by go_simp) HQ2.out (hK _ ?_)
          clear hK K
          simp only [Act.put, List.setIfInBounds_toArray, List.set_cons_zero, List.set_cons_succ]
          with_reducible refine wpQuiet_step ?_
          intro K hK
          rw [if_pos (by go_simp)]
          refine val_at (.bool false) (fun W => by go_simp) (hK _ ?_)
          clear hK K
          simp only [Act.put, List.setIfInBounds_toArray, List.set_cons_zero, List.set_cons_succ]
          with_reducible refine wpQuiet_step ?_
          intro K hK
          rw [if_pos (by go_simp)]
          refine val_at (.bool false) (fun W => by go_simp) (hK _ ?_)
          clear hK K
          simp only [Act.put, List.setIfInBounds_toArray, List.set_cons_zero, List.set_cons_succ]
          refine wpQuiet_nil fun V6 k6 => ?_
          obtain ⟨hib6, hby⟩ := HG5.out V6 k6
          have HK6 : Hid (Kept [] W V6) := HK5.out.then k6
          have HKE6 : Hid (Kept [] wE V6) := HKW4.out.then ((HKV6.out V6 k6))
          have hbxle : w2.heap.size + 1 ≤ V6.heap.size := by
            have q1 := HKE6.out.size
            have q2 := HSZ.out
            omega
          clear k6 HC5 HQ1 HQ2 HG5 s0 s1
          by_cases hgl : Lg.length + 1 ≤ ids.length
          · have tg : decide ((ids.length : Int) < (Lg.length : Int) + 1) = false := decide_eq_false (by omega)
            have hrng : V6.rangeAt Bx 0 (x.xs.map (Value.int .u8)) := row_range hby
            have hsi : (Tryz.prog.info? 29).map (·.size) = some (x.xs.map (Value.int .u8)).length := by rw [List.length_map, x.good.1]; exact Tryz.infoID
            have hul : (x.xs.map (Value.int .u8)).length = 1 * 32 := by rw [List.length_map, x.good.1]
            have huo : ∀ u, u ∈ x.xs.map (Value.int .u8) → u.oneCell' = true := map_oneCell _
            have hbs := fun W => run_build_k (t := 35) Tryz.underlying35 Tryz.idInfo (by decide) (by decide) (x.xs.map (Value.int .u8)) (by rw [List.length_map, x.good.1]) W
            obtain ⟨Z5, hZ5⟩ : ∃ Z5, Z5 = V6.alloc (.cells (x.xs.map (Value.int .u8)).toArray 29) := ⟨_, rfl⟩
            have HZ5 : Hid (Z5 = V6.alloc (.cells (x.xs.map (Value.int .u8)).toArray 29)) := hZ5
            have k5 : Kept [] V6 Z5 := by rw [hZ5]; exact (Kept.refl _ _).alloc _
            have own5 : Z5.ownsRow (w2.heap.size + 1) 29 32 (.slice ao Lg.length cap) Lg.length (Lg.map fun id => id.map (Value.int .u8)).flatten := ownsK_on hib6.own k5 (fun _ _ => by simp)
            have cells5 : ∀ j u, (x.xs.map (Value.int .u8))[j]? = some u → Z5.cell? ((⟨V6.heap.size, 0, none⟩ : Addr).add j) = some u := fun j u hu => by
              rw [Addr.add_mid]
              exact (row_range (show Z5.heap[V6.heap.size]? = _ by rw [hZ5]; exact heap_alloc_new V6 _)) j u hu
            have hb1 : Lg.length + 1 ≤ maxLen := by unfold maxLen; omega
            have hb2 : (Lg.length + 1) * 32 ≤ 140737488355328 := by omega
            have hb3 : w2.heap.size + 1 ≤ Z5.heap.size := Nat.le_trans hbxle k5.size
            have HK5 : Hid (Kept [] V6 Z5) := k5
            have HIB : Hid (IdBox V6 (w2.heap.size + 1) (w2.heap.size + 1) ao cap Lg) := hib6
            have cbx : V6.cell? ⟨w2.heap.size + 1, 0, none⟩ = some (.slice ao Lg.length cap) := hib6.cell
            obtain ⟨us, hus⟩ : ∃ us, us = x.xs.map (Value.int .u8) := ⟨_, rfl⟩
            have HUS : Hid (us = x.xs.map (Value.int .u8)) := hus
            rw [← hus] at hrng hsi hul huo hbs HZ5 cells5
            clear hZ5 k5 hus hby hib6
            gi_wp2_with (first
              | (refine listIn_load_mid (by rfl) 29 (.tmp 9) (by rfl) Bx 0 (by rfl) us _ hrng hui rfl hsi ?_)
              | (refine listIn_slice_k (by rfl) 35 29 (.tmp 86) (by rfl) us (by rfl) hbs ?_; rw [← HZ5.out])
              | (gi_at_builtin; refine wpListIn_append_own _ (by rfl) _ _ 35 (by rfl) (w2.heap.size + 1) 29 i0 _ 32 32 Tryz.underlying35 hi0 hz0 hz1 hz2 Tryz.idZero (by decide) _ _ _ (by rfl) own5 ⟨V6.heap.size, 0, none⟩ 1 1 us (by rfl) hul cells5 huo hb1 hb2 hb3 ?_
                 intro v6 w6 own6 hgr6 _
                 rw [HUS.out] at own6
                 obtain ⟨g6, cap6, rfl, hc6, hf6, hib6, hkk6, hkf6, hkp6⟩ := HIB.out.push HK5.out own6 hgr6
                 have HP6 : Hid (IdBox (w6.setCell ⟨w2.heap.size + 1, 0, none⟩ (.slice (some ⟨g6, 0, none⟩) (Lg.length + 1) cap6)) (w2.heap.size + 1) (w2.heap.size + 1) (some ⟨g6, 0, none⟩) cap6 (Lg ++ [x.xs]) ∧ (∀ U, Kept [] U V6 → U.heap.size ≤ w2.heap.size + 1 → U.heap.size ≤ w2.heap.size + 1 → Kept [] U (w6.setCell ⟨w2.heap.size + 1, 0, none⟩ (.slice (some ⟨g6, 0, none⟩) (Lg.length + 1) cap6))) ∧ (∀ b, KeepsFrom b V6 (w6.setCell ⟨w2.heap.size + 1, 0, none⟩ (.slice (some ⟨g6, 0, none⟩) (Lg.length + 1) cap6))) ∧ (∀ G : Nat → Prop, (∀ y, G y → y < w2.heap.size + 1 ∧ y < w2.heap.size + 1 ∧ y < V6.heap.size) → KpS G V6 (w6.setCell ⟨w2.heap.size + 1, 0, none⟩ (.slice (some ⟨g6, 0, none⟩) (Lg.length + 1) cap6)))) := ⟨hib6, hkk6, hkf6, hkp6⟩
                 have c7 : (w6.setCell ⟨w2.heap.size + 1, 0, none⟩ (.slice (some ⟨g6, 0, none⟩) (Lg.length + 1) cap6)).cell? ⟨w2.heap.size, 0, none⟩ = some (.slice vo ids.length vc) := HCE.out _ (hkk6 wE HKE6.out (Nat.le_of_eq HSZ.out) (Nat.le_of_eq HSZ.out))
                 clear own6 hgr6 hib6 hkk6 hkf6 hkp6))
            obtain ⟨pb6, pk6, pf6, pp6⟩ := HP6.out
            refine ⟨(HK6.out.others (by simp) _).trans (pf6 _), KpS.trans (KpS.of_kept HK6.out (by simp) (by simp) (fun z hz => ?_)) (pp6 _ (fun z hz => ?_)), ⟨some ⟨g6, 0, none⟩, cap6, ?_⟩, pk6 _ HKE6.out (Nat.le_of_eq HSZ.out) (Nat.le_of_eq HSZ.out), ?_⟩
            · have q1 := HSE.out.2.2.1 z hz
              have q2 := HSE.out.2.2.2
              have q3 := HW.out.2.2.2.1.size
              omega
            · have q1 := HSE.out.2.2.1 z hz
              have q2 := HSE.out.2.2.2
              have q3 := HSZ.out
              omega
            · have h := pb6
              rw [HLG.out.1] at h
              rw [List.map_append]
              rw [HLG.out.1]
              exact h
            · exact Nat.le_trans HW.out.2.2.2.2 (Nat.le_trans HK6.out.size (pf6 0).size)
          · have tg : decide ((ids.length : Int) < (Lg.length : Int) + 1) = true := decide_eq_true (by omega)
            have HGG : Hid (¬ Lg.length + 1 ≤ ids.length) := hgl
            have hrng : V6.rangeAt Bx 0 (x.xs.map (Value.int .u8)) := row_range hby
            have hsi : (Tryz.prog.info? 29).map (·.size) = some (x.xs.map (Value.int .u8)).length := by rw [List.length_map, x.good.1]; exact Tryz.infoID
            have hul : (x.xs.map (Value.int .u8)).length = 1 * 32 := by rw [List.length_map, x.good.1]
            have huo : ∀ u, u ∈ x.xs.map (Value.int .u8) → u.oneCell' = true := map_oneCell _
            have hbs := fun W => run_build_k (t := 35) Tryz.underlying35 Tryz.idInfo (by decide) (by decide) (x.xs.map (Value.int .u8)) (by rw [List.length_map, x.good.1]) W
            obtain ⟨Z5, hZ5⟩ : ∃ Z5, Z5 = V6.alloc (.cells (x.xs.map (Value.int .u8)).toArray 29) := ⟨_, rfl⟩
            have HZ5 : Hid (Z5 = V6.alloc (.cells (x.xs.map (Value.int .u8)).toArray 29)) := hZ5
            have k5 : Kept [] V6 Z5 := by rw [hZ5]; exact (Kept.refl _ _).alloc _
            have own5 : Z5.ownsRow (w2.heap.size + 1) 29 32 (.slice ao Lg.length cap) Lg.length (Lg.map fun id => id.map (Value.int .u8)).flatten := ownsK_on hib6.own k5 (fun _ _ => by simp)
            have cells5 : ∀ j u, (x.xs.map (Value.int .u8))[j]? = some u → Z5.cell? ((⟨V6.heap.size, 0, none⟩ : Addr).add j) = some u := fun j u hu => by
              rw [Addr.add_mid]
              exact (row_range (show Z5.heap[V6.heap.size]? = _ by rw [hZ5]; exact heap_alloc_new V6 _)) j u hu
            have hb1 : Lg.length + 1 ≤ maxLen := by unfold maxLen; omega
            have hb2 : (Lg.length + 1) * 32 ≤ 140737488355328 := by omega
            have hb3 : w2.heap.size + 1 ≤ Z5.heap.size := Nat.le_trans hbxle k5.size
            have HK5 : Hid (Kept [] V6 Z5) := k5
            have HIB : Hid (IdBox V6 (w2.heap.size + 1) (w2.heap.size + 1) ao cap Lg) := hib6
            have cbx : V6.cell? ⟨w2.heap.size + 1, 0, none⟩ = some (.slice ao Lg.length cap) := hib6.cell
            obtain ⟨us, hus⟩ : ∃ us, us = x.xs.map (Value.int .u8) := ⟨_, rfl⟩
            have HUS : Hid (us = x.xs.map (Value.int .u8)) := hus
            rw [← hus] at hrng hsi hul huo hbs HZ5 cells5
            clear hZ5 k5 hus hby hib6
            gi_wp2_with (first
              | (refine listIn_load_mid (by rfl) 29 (.tmp 9) (by rfl) Bx 0 (by rfl) us _ hrng hui rfl hsi ?_)
              | (refine listIn_slice_k (by rfl) 35 29 (.tmp 86) (by rfl) us (by rfl) hbs ?_; rw [← HZ5.out])
              | (gi_at_builtin; refine wpListIn_append_own _ (by rfl) _ _ 35 (by rfl) (w2.heap.size + 1) 29 i0 _ 32 32 Tryz.underlying35 hi0 hz0 hz1 hz2 Tryz.idZero (by decide) _ _ _ (by rfl) own5 ⟨V6.heap.size, 0, none⟩ 1 1 us (by rfl) hul cells5 huo hb1 hb2 hb3 ?_
                 intro v6 w6 own6 hgr6 _
                 rw [HUS.out] at own6
                 obtain ⟨g6, cap6, rfl, hc6, hf6, hib6, hkk6, hkf6, hkp6⟩ := HIB.out.push HK5.out own6 hgr6
                 have HP6 : Hid (IdBox (w6.setCell ⟨w2.heap.size + 1, 0, none⟩ (.slice (some ⟨g6, 0, none⟩) (Lg.length + 1) cap6)) (w2.heap.size + 1) (w2.heap.size + 1) (some ⟨g6, 0, none⟩) cap6 (Lg ++ [x.xs]) ∧ (∀ U, Kept [] U V6 → U.heap.size ≤ w2.heap.size + 1 → U.heap.size ≤ w2.heap.size + 1 → Kept [] U (w6.setCell ⟨w2.heap.size + 1, 0, none⟩ (.slice (some ⟨g6, 0, none⟩) (Lg.length + 1) cap6))) ∧ (∀ b, KeepsFrom b V6 (w6.setCell ⟨w2.heap.size + 1, 0, none⟩ (.slice (some ⟨g6, 0, none⟩) (Lg.length + 1) cap6))) ∧ (∀ G : Nat → Prop, (∀ y, G y → y < w2.heap.size + 1 ∧ y < w2.heap.size + 1 ∧ y < V6.heap.size) → KpS G V6 (w6.setCell ⟨w2.heap.size + 1, 0, none⟩ (.slice (some ⟨g6, 0, none⟩) (Lg.length + 1) cap6)))) := ⟨hib6, hkk6, hkf6, hkp6⟩
                 have c7 : (w6.setCell ⟨w2.heap.size + 1, 0, none⟩ (.slice (some ⟨g6, 0, none⟩) (Lg.length + 1) cap6)).cell? ⟨w2.heap.size, 0, none⟩ = some (.slice vo ids.length vc) := HCE.out _ (hkk6 wE HKE6.out (Nat.le_of_eq HSZ.out) (Nat.le_of_eq HSZ.out))
                 have HB2 : Hid ((w6.setCell ⟨w2.heap.size + 1, 0, none⟩ (.slice (some ⟨g6, 0, none⟩) (Lg.length + 1) cap6)).heap[w.heap.size + 1]? = some (.cells #[.bool false] 4 (0, 0))) := (HC.out _ (HK1E.out.then (hkk6 wE HKE6.out (Nat.le_of_eq HSZ.out) (Nat.le_of_eq HSZ.out)))).2
                 have c2 : (w6.setCell ⟨w2.heap.size + 1, 0, none⟩ (.slice (some ⟨g6, 0, none⟩) (Lg.length + 1) cap6)).cell? ⟨w.heap.size + 1, 0, none⟩ = some (.bool false) := by rw [cell_of_row _ _ _ _ _ _ HB2.out]; rfl
                 have f2 : (w6.setCell ⟨w2.heap.size + 1, 0, none⟩ (.slice (some ⟨g6, 0, none⟩) (Lg.length + 1) cap6)).frozen? ⟨w.heap.size + 1, 0, none⟩ = false := frozen_of_row _ _ _ _ _ HB2.out
                 clear own6 hgr6 hib6 hkk6 hkf6 hkp6))
            obtain ⟨pb6, pk6, pf6, pp6⟩ := HP6.out
            refine ⟨((HK6.out.others (by simp) _).trans (pf6 _)).trans ?_, ?_⟩
            · refine Kept.others (S := [w.heap.size + 1]) ((Kept.refl [w.heap.size + 1] _).setCell (p := ⟨w.heap.size + 1, 0, none⟩) (Or.inl (by simp)) _) (fun z hz => ?_) _
              rw [List.mem_singleton.1 hz]
              exact ⟨_, _, _, HB2.out⟩
            · show ids.length < (pre ++ [x]).length
              have q1 := HGG.out
              have q2 := HLG.out.2
              rw [List.length_append, List.length_singleton]
              omega

  case done =>
    rintro xs W hS ⟨⟨ao, cap, hib⟩, hkE, _⟩ hD
    rw [hS.eq (HFE.out wE (Kept.refl _ _)).st HOF.out] at hib
    have c8 := hib.cell
    have c7 := HCE.out W hkE
    have heq := EqIDs_same _ _ ids W (hib.at HGI.out (by omega)) (HIV.out W hkE) (fun id hid => (HGI.out id hid).1)
    have HD : Hid (W.heap[wF.heap.size]? = some (.deferred (some []))) := hD
    have HKW : Hid (Kept [] wE W) := hkE
    clear hib hkE hD hS
    subst hT0
    gi_wp2_with fail
    refine ⟨trivial, ?_⟩
    refine (callsIn_wide.2 heq).mono ?_
    rintro e V9 ⟨rfl, k9⟩
    have HB2 : Hid (V9.heap[w.heap.size + 1]? = some (.cells #[.bool false] 4 (0, 0))) := (HC.out V9 (HK1E.out.then (HKW.out.then k9))).2
    have c2 : V9.cell? ⟨w.heap.size + 1, 0, none⟩ = some (.bool false) := by rw [cell_of_row _ _ _ _ _ _ HB2.out]; rfl
    have f2 : V9.frozen? ⟨w.heap.size + 1, 0, none⟩ = false := frozen_of_row _ _ _ _ _ HB2.out
    have HD9 : Hid (V9.heap[wF.heap.size]? = some (.deferred (some []))) := k9.heap HD.out (by simp)
    have HK9 : Hid (Kept [] wE V9) := HKW.out.then k9
    clear heq k9 c7 c8
    gi_wp2
    have b10 := setCell_box HB2.out (.bool true)
    have k10 : Kept [w.heap.size + 1] V9 (V9.setCell ⟨w.heap.size + 1, 0, none⟩ (.bool true)) := (Kept.refl [w.heap.size + 1] _).setCell (p := ⟨w.heap.size + 1, 0, none⟩) (Or.inl (by simp)) _
    have hne : wF.heap.size ≠ w.heap.size + 1 := by
      have q1 := HKF.out.size
      have q2 := HSE.out.1
      have q3 := HSE.out.2.1
      have q4 := HK1E.out.size
      have q5 := HKF2.out
      have q6 := HWS.out
      omega
    have hD10 : (V9.setCell ⟨w.heap.size + 1, 0, none⟩ (.bool true)).heap[wF.heap.size]? = some (.deferred (some [])) := k10.heap HD9.out (by simpa using hne)
    refine ⟨by simp, .inl ⟨_, _, rfl, run_takeDeferred hD10, ?_⟩⟩
    have b11 : ((V9.setCell ⟨w.heap.size + 1, 0, none⟩ (.bool true)).putObj wF.heap.size (.deferred none)).heap[w.heap.size + 1]? = some (.cells #[.bool true] 4 (0, 0)) := (World.putObj_heap_other hne.symm).trans b10
    have c11 : ((V9.setCell ⟨w.heap.size + 1, 0, none⟩ (.bool true)).putObj wF.heap.size (.deferred none)).cell? ⟨w.heap.size + 1, 0, none⟩ = some (.bool true) := by rw [cell_of_row _ _ _ _ _ _ b11]; rfl
    have hld := Tryz.loadBool c11
    have kfin : Kept [] w ((V9.setCell ⟨w.heap.size + 1, 0, none⟩ (.bool true)).putObj wF.heap.size (.deferred none)) := by
      have q4 : w.heap.size ≤ wF.heap.size := (HK0.out.then (HK1E.out.then HKF.out)).size
      refine (kept_newP (HK0.out.then (HK1E.out.then HK9.out)) k10 (by omega)).grown (grownBy_putObj' _ _ _) (fun r e => Or.inr ?_)
      cases e
      exact q4
    refine ⟨.bool true, ?_, rfl, kfin⟩
    simp [results, Tryz.results4, asAddr, hld]
  case stop =>
    rintro c pre W hS h _
    exfalso
    rcases List.eq_nil_or_concat pre with rfl | ⟨q, y, rfl⟩
    · simp at h
    · rw [List.concat_eq_append] at hS h
      have e := (hS.front (HFE.out wE (Kept.refl _ _)).st HOF.out).2
      rw [List.length_append, List.length_singleton] at h
      omega
end Go.Proofs.YtbphibolgckmnaaGreatDoor
