/-
  WALK: satchellaw4.StoreMany.
-/
import Derived.Test.YtmhbadkejhbbmaaGreatDoorSm0
namespace Go.Proofs.YtmhbadkejhbbmaaGreatDoor
open Go.RowKit Go.WideMaps

theorem Tryz.ptrInfo : (Tryz.prog.info? 26).map (fun i => (i.zero, i.size, i.bytes)) = some (some (.pointer none), 1, 8) := by kernel_rfl
set_option maxRecDepth 100000 in
set_option maxHeartbeats 8000000 in
theorem many4_any (nn sd : Int) (w : World) (hV : Vars w) (hn0 : -9223372036854775808 ≤ nn) (hn1 : nn ≤ 9223372036854775807) (hs0 : 0 ≤ sd) (hs1 : sd ≤ 255) :
    Calls Tryz.prog 3 #[.agg #[.int .i64 nn, .int .u8 sd]] w fun e w' => e = .returned (.bool true) ∧ Kept [] w w' := by
  obtain ⟨W0, hW0⟩ : ∃ W0, W0 = w.alloc (.cells #[.int .i64 nn, .int .u8 sd] 23) := ⟨_, rfl⟩
  have HW0 : Hid (W0 = w.alloc (.cells #[.int .i64 nn, .int .u8 sd] 23)) := hW0
  have k0 : Kept [] w W0 := by rw [hW0]; exact (Kept.refl _ _).alloc _
  have HK0 : Hid (Kept [] w W0) := k0
  have HC : Hid (∀ W, Kept [] W0 W → W.cell? ⟨w.heap.size, 1, none⟩ = some (.int .u8 sd)) := fun W k => by
    have h := k.heap (show W0.heap[w.heap.size]? = _ by rw [hW0]; exact heap_alloc_new w _) (by simp)
    rw [cell_of_row _ _ _ _ _ _ h]; rfl
  have hV0 := hV.kept k0 (by simp) (by simp)
  have HV : Hid (∀ W, Kept [] W0 W → Vars W) := fun W k => hV0.kept k (by simp) (by simp)
  have hinto := fun W => into4_any nn 64 W (by decide) (by decide) hn0 hn1
  clear hV k0 hV0
  go_enter Tryz.func3, Tryz.ntmps3
  go_wp2_with fail
  go_at_call 9
  refine (hinto _).mono ?_
  rintro e wn ⟨rfl, hwn⟩
  subst wn
  rw [← HW0.out]
  obtain ⟨m, hm, hm1, hml⟩ : ∃ m : Nat, 1 + nn % 64 = m ∧ 1 ≤ m ∧ m ≤ 64 := by
    have h1 := Int.emod_nonneg nn (show (64 : Int) ≠ 0 by decide)
    have h2 := Int.emod_lt_of_pos nn (show (0 : Int) < 64 by decide)
    exact ⟨(1 + nn % 64).toNat, by omega, by omega, by omega⟩
  have hw64 : IntKind.i64.wrap (1 + nn % 64) = (m : Int) := by rw [hm]; simp [IntKind.wrap, IntKind.bits, IntKind.signed]; omega
  clear hinto hW0
  go_wp2
  have hum := Tryz.underlying26
  go_loopw [4, 5, 6, 7, 8, 9] (fun s4 s5 _ _ _ _ wr => ∃ (k : Nat) (ss : List Nat) (ao : Option Addr) (cap : Nat), k ≤ m ∧ s5 = .int .i64 k ∧ s4 = .slice ao k cap ∧ Hid (ss.length = k ∧ Crowd wr W0.heap.size (.slice ao k cap) sd ss ∧ Kept [] W0 wr)) (fun _ s5 _ _ _ _ _ => m - (intOf s5).toNat)
  case atStart => exact ⟨0, [], none, 0, Nat.zero_le _, rfl, rfl, rfl, ⟨⟨rfl, Or.inl ⟨rfl, rfl⟩⟩, fun i s hs => by simp at hs, fun _ => rfl⟩, Kept.refl _ _⟩
  case round =>
    obtain ⟨k, ss, ao, cap, hk, rfl, rfl, HH⟩ := hrel
    by_cases hlt : k < m
    · have t1 : decide ((k : Int) < (m : Int)) = true := decide_eq_true (by omega)
      have hnew := New_st wr
      go_wp2_with fail
      go_at_call 10
      refine hnew.mono ?_
      rintro e w1 ⟨s, b, rfl, hst, hs, hb, k1⟩
      obtain ⟨xs, hxs⟩ : ∃ xs : List Int, xs = crowdX sd k := ⟨_, rfl⟩
      have hxl : xs.length = 4 := by rw [hxs]; rfl
      have hox : Octs xs := by
        rw [hxs]
        intro u hu
        simp only [crowdX, List.mem_cons, List.not_mem_nil, or_false] at hu
        omega
      have hmap : (xs.map (Value.int .u8)).toArray = #[.int .u8 1, .int .u8 99, .int .u8 sd, .int .u8 (k : Int)] := by rw [hxs]; rfl
      obtain ⟨w2, hw2⟩ : ∃ w2, w2 = w1.alloc (.cells #[.int .u8 1, .int .u8 99, .int .u8 sd, .int .u8 (k : Int)] 5) := ⟨_, rfl⟩
      have HW2 : Hid (w2 = w1.alloc (.cells #[.int .u8 1, .int .u8 99, .int .u8 sd, .int .u8 (k : Int)] 5)) := hw2
      have k12 : Kept [] w1 w2 := by rw [hw2]; exact (Kept.refl _ _).alloc _
      have hb2 : BytesAt w2 (.slice (some ⟨w1.heap.size, 0, none⟩) 4 4) xs := by
        have h := row_bytes' (w := w2) (q := w1.heap.size) (ys := xs) (by rw [hmap, hw2]; exact heap_alloc_new w1 _)
        rwa [hxl] at h
      have hbl := hst.lt.2
      have HX1 : Hid (∃ ys, xs = 1 :: ys) := ⟨_, hxs⟩
      have hput : Calls Tryz.prog 11 #[.pointer (some ⟨s, 0, none⟩), .slice (some ⟨w1.heap.size, 0, none⟩) 4 4] w2 (PutA w2 s b 0 (.map []) xs) := by
        obtain ⟨ys, hys⟩ := HX1.out
        have h := Put_st (hst.on k12) (by omega) w1.heap.size 0 4 xs ys hys (by rw [hxl]; exact hb2) (by omega) hox (by omega) (HV.out w2 ((HH.out.2.2.then k1).then k12))
        rwa [hxl] at h
      have HK2 : Hid (Kept [] wr w2) := k1.then k12
      have HBW : Hid (wr.heap.size ≤ b) := hb
      have hcs := HC.out w1 (HH.out.2.2.then k1)
      have HXS : Hid (xs = crowdX sd k) := hxs
      have hk64 : k < 64 := by omega
      clear hnew hst hs hb k1 hw2 k12 hb2 hbl hox hmap hxs
      go_wp2_with fail
      rw [← HW2.out]
      go_at_call 11
      refine hput.mono ?_
      rintro e w3 hpa
      obtain ⟨g, c, rfl, hst3, hb3, k3⟩ := hpa.new rfl (by decide)
      obtain ⟨w4, hw4⟩ : ∃ w4, w4 = w3.alloc (.cells (idC (digL xs)) 29) := ⟨_, rfl⟩
      have HW4 : Hid (w4 = w3.alloc (.cells (idC (digL xs)) 29)) := hw4
      have k34 : Kept [] w3 w4 := by rw [hw4]; exact (Kept.refl _ _).alloc _
      have hsz : (Tryz.prog.info? 29).map (·.size) = some (idC (digL xs)).size := by rw [idC_size (digL_len _)]; exact Tryz.infoID
      have hzz : (idC zid).size = (idC (digL xs)).size := by rw [idC_size (digL_len _)]; rfl
      have hone : (idC (digL xs)).all (·.oneCell') = true := all_oneCell_toArray (map_oneCell _)
      obtain ⟨w5, hw5⟩ : ∃ w5, w5 = w4.alloc (.cells #[.pointer (some ⟨s, 0, none⟩)] 26) := ⟨_, rfl⟩
      have HW5 : Hid (w5 = w4.alloc (.cells #[.pointer (some ⟨s, 0, none⟩)] 26)) := hw5
      have k45 : Kept [] w4 w5 := by rw [hw5]; exact (Kept.refl _ _).alloc _
      have kr5 : Kept [] wr w5 := ((kept_newP HK2.out k3 HBW.out).then k34).then k45
      obtain ⟨hln, hcr, hkr⟩ := HH.out
      have hcr5 := hcr.on kr5
      have HN5 : Hid (OneS w5 s b g c (crowdX sd ss.length)) := by
        rw [hln, ← HXS.out]
        exact ⟨(hst3.on k34).on k45, (hb3.kept' k34 (fun _ _ _ => by simp)).kept' k45 (fun _ _ _ => by simp)⟩
      have own5 := hcr5.own
      rw [hln] at own5
      have rng5 : w5.rangeAt w4.heap.size 0 [Value.pointer (some ⟨s, 0, none⟩)] := by
        rw [hw5]
        exact row_range (cs := [Value.pointer (some ⟨s, 0, none⟩)]) (heap_alloc_new w4 _)
      have HC5 : Hid (Crowd w5 W0.heap.size (.slice ao k cap) sd ss ∧ ss.length = k ∧ Kept [] W0 w5) := ⟨hcr5, hln, hkr.then kr5⟩
      have hB5 : W0.heap.size ≤ w5.heap.size := Nat.le_trans hkr.size kr5.size
      have hk6 : k ≤ 1000000 := by omega
      clear hput hpa hst3 hb3 k3 hw4 k34 hw5 k45 kr5 hcr hkr hcr5 hln HH HXS hcs
      generalize idC (digL xs) = ic at *
      go_wp2_with (first
        | (refine wpList_store_newS (by rfl) 29 (.tmp 7) (.tmp 34) (by rfl) w3 _ ic (by rfl) (by rfl) hsz hzz hone ?_; rw [← HW4.out])
        | (go_at_call 12; refine (num4_any _ _).mono ?_; rintro e wn ⟨rfl, hwn⟩; subst wn)
        | (at_builtin; rw [← HW5.out]; refine wpList_append_k (by rfl) (.tmp 44) (.tmp 46) 25 26 (.pointer none) 1 8 Tryz.underlying25 Tryz.ptrInfo rfl (by decide) (by rfl) (by rfl) own5 (by rfl) rfl rng5 (by simp [Value.oneCell']) hk6 (by decide) hB5 ?_
           intro v6 w6 own6 k6 hb6
           have HP6 : Hid (∃ ss', ss'.length = k + 1 ∧ Crowd w6 W0.heap.size v6 sd ss' ∧ Kept [] W0 w6) := by
             obtain ⟨hC, hl, hkk⟩ := HC5.out
             refine ⟨ss ++ [s], by simp [hl], hC.push HN5.out (by rw [hl]; exact own6) k6, hkk.trans k6 (fun y hy => Or.inr ?_)⟩
             have : Value.ownBlock (.slice ao k cap) = some y := by simpa using hy
             exact (World.ownsRow.lt own5 y this).1
           obtain ⟨g6, cap6, rfl⟩ := own_succ own6
           clear own6 k6 hb6))
      obtain ⟨ss', hl', hC', hk'⟩ := HP6.out
      have HE : Hid (ss'.length = k + 1 ∧ Crowd w6 W0.heap.size (.slice (some ⟨g6, 0, none⟩) (k + 1) cap6) sd ss' ∧ Kept [] W0 w6) := ⟨hl', hC', hk'⟩
      clear HP6 hl' hC' hk'
      go_roundw
      case rel => exact ⟨k + 1, ss', some ⟨g6, 0, none⟩, cap6, by omega, by go_num, rfl, HE⟩
      case measure => simp [intOf]; omega
    · have t1 : decide ((k : Int) < (m : Int)) = false := decide_eq_false (by omega)
      obtain rfl : k = m := by omega
      obtain ⟨hln, hcr, hkr⟩ := HH.out
      have HCR : Hid (∀ W, Kept [] wr W → Crowd W W0.heap.size (.slice ao k cap) sd ss) := fun W q => hcr.on q
      have HKR : Hid (Kept [] W0 wr) := hkr
      have HLN : Hid (ss.length = k) := hln
      obtain ⟨gl, rfl, hlc⟩ : ∃ gl, ao = some ⟨gl, 0, none⟩ ∧ ∀ W, Kept [] wr W → ∀ j s, ss[j]? = some s → W.cell? ⟨gl, j, none⟩ = some (.pointer (some ⟨s, 0, none⟩)) := by
        obtain ⟨_, ⟨hv, h0⟩ | ⟨gl, cp, cur, hv, _, hc, _, _, _, htk⟩⟩ := hcr.own
        · omega
        · injection hv with hv1 _ _
          refine ⟨gl, hv1, fun W q j s hjs => ?_⟩
          rw [cell_of_row _ _ _ _ _ _ (q.heap hc (by simp)), ← Array.getElem?_toList]
          have hjl : j < ss.length := (List.getElem?_eq_some_iff.1 hjs).1
          have h4 : (cur.toList.take (ss.length * 1))[j]? = cur.toList[j]? := List.getElem?_take_of_lt (by omega)
          rw [← h4, htk, List.getElem?_map, hjs]
          rfl
      have HLC : Hid (∀ W, Kept [] wr W → ∀ j s, ss[j]? = some s → W.cell? ⟨gl, j, none⟩ = some (.pointer (some ⟨s, 0, none⟩))) := hlc
      clear HH hcr hkr hln hlc
      go_wp2
      obtain ⟨wz, rfl⟩ : ∃ wz, wz = wr := ⟨_, rfl⟩
      go_loopw [10, 11, 12, 13] (fun s10 _ _ _ wr => ∃ j : Nat, j ≤ k ∧ s10 = .int .i64 j ∧ Hid (Kept [] wz wr)) (fun s10 _ _ _ _ => k - (intOf s10).toNat)
      case atStart => exact ⟨0, Nat.zero_le _, rfl, Kept.refl _ _⟩
      case round =>
        obtain ⟨j, hj, rfl, HQ⟩ := hrel
        by_cases hjl : j < k
        case neg =>
          have t2 : decide ((j : Int) < (k : Int)) = false := decide_eq_false (by omega)
          have HF : Hid (Kept [] w wr) := (HK0.out.then HKR.out).then HQ.out
          go_wp2
          go_ret
          exact ⟨rfl, HF.out⟩
        case pos =>
        have t2 : decide ((j : Int) < (k : Int)) = true := decide_eq_true (by omega)
        obtain ⟨s, hs⟩ : ∃ s, ss[j]? = some s := ⟨_, List.getElem?_eq_getElem (by rw [HLN.out]; exact hjl)⟩
        obtain ⟨b, g, c, hone⟩ := (HCR.out wr HQ.out).all j s hs
        obtain ⟨xs, hxs⟩ : ∃ xs : List Int, xs = crowdX sd j := ⟨_, rfl⟩
        rw [← hxs] at hone
        have hxl : xs.length = 4 := by rw [hxs]; rfl
        have hne : xs ≠ [] := by rw [hxs]; simp [crowdX]
        have hcell := HLC.out wr HQ.out j s hs
        have hids := Ids_any hone.st (by omega) (oneD_non hne g c)
        have HON : Hid (OneS wr s b g c xs) := hone
        have HXS : Hid (xs = crowdX sd j) := hxs
        clear hone hxs
        go_wp2_with fail
        go_at_call 13
        refine hids.mono ?_
        rintro e w1 ⟨v, ids, rfl, hown, hio, k1⟩
        obtain ⟨a, rfl, HA⟩ : ∃ a, ids = [a] ∧ Hid (GoodID a ∧ a = digL xs) := by
          have h1 := hio.len
          rw [oneD_size] at h1
          obtain ⟨a, rfl⟩ : ∃ a, ids = [a] := by
            match ids, h1 with
            | [a], _ => exact ⟨a, rfl⟩
          have h2 := hio.mem a (by simp)
          exact ⟨a, rfl, h2.1, idKey_inj h2.1 ⟨digL_len _, digL_octs _⟩ (oneD_only h2.2)⟩
        have HGD : Hid (GoodID a) := HA.out.1
        have hown' : w1.ownsRow wr.heap.size 29 32 v (0 + 1) (([a].map fun id => id.map (Value.int .u8)).flatten) := hown
        obtain ⟨g1, cap1, rfl⟩ := own_succ hown'
        have hrw := ownsK_rows (rows := [a.map (Value.int .u8)]) (by decide) (fun r hr => by rw [List.mem_singleton.1 hr, List.length_map, HGD.out.1]) hown' (by simp)
        have HRG1 : Hid (∀ W, Kept [] w1 W → W.rangeAt g1 0 (a.map (Value.int .u8))) := fun W q i u hu => q.cell (by
          obtain ⟨ao', cap', he, _, _, _, hc⟩ := hrw
          obtain ⟨b', off, rfl, hcc⟩ := hc (by simp)
          injection he with he _ _
          injection he with he
          injection he with he1 he2 _
          have := hcc 0 _ rfl i u hu
          rw [← he1, ← he2] at this
          rw [show (0 : Nat) + 0 * 32 = 0 from rfl] at this
          exact this) (by simp)
        have HQ1 : Hid (Kept [] wz w1) := HQ.out.then k1
        have hon1 := HON.out.on k1
        have hlen := Len_st hon1.st
        rw [oneD_size] at hlen
        have hcell1 := HLC.out w1 HQ1.out j s hs
        have HON1 : Hid (∀ W, Kept [] w1 W → OneS W s b g c xs) := fun W q => hon1.on q
        clear hids hown hown' hio k1 hrw hon1
        go_wp2_with fail
        go_at_call 14
        refine hlen.mono ?_
        rintro e wn ⟨rfl, hwn⟩
        subst wn
        clear hlen
        have HPC : Hid (∀ W, Kept [] w1 W → W.cell? ⟨gl, j, none⟩ = some (.pointer (some ⟨s, 0, none⟩))) := fun W q => HLC.out W (HQ1.out.then q) j s hs
        have HRG : Hid (∀ W, Kept [] w1 W → W.rangeAt g1 0 (a.map (Value.int .u8))) := HRG1.out
        have HGT : Hid (∀ W, Kept [] w1 W → Calls Tryz.prog 15 #[.pointer (some ⟨s, 0, none⟩), .agg (idC a)] W fun e w' => ∃ g' c', e = .returned (.tuple #[.slice (some ⟨g', 0, none⟩) 4 c', .int .i64 0]) ∧ BytesAt w' (.slice (some ⟨g', 0, none⟩) 4 c') xs ∧ Kept [] W w') := fun W q => by
          have h1 := HON1.out W q
          rw [HA.out.2]
          have h2 := Get_st h1.st ⟨digL_len _, digL_octs _⟩ (oneD_has xs g c) (oneD_at xs g c) h1.bytes hne (by omega)
          rw [hxl] at h2
          exact h2
        have hui := Tryz.underlying29
        have hsi : (Tryz.prog.info? 29).map (·.size) = some (a.map (Value.int .u8)).length := by rw [List.length_map, HGD.out.1]; exact Tryz.infoID
        have hidc : idC a = (a.map (Value.int .u8)).toArray := rfl
        rw [hidc] at HGT
        clear hidc HRG1
        generalize a.map (Value.int .u8) = us at *
        go_wp2_with fail
        refine wp_region_held_drew (S := Kept [] w1) (by kernel_rfl) (Kept.refl [] w1).drew (fun hHeld => ?_)
        refine takeP 0 (v := .slice (some ⟨gl, 0, none⟩) k cap) (some 70) #[true, false, false, false, false, false, false, false, false, false, false, false, false] rfl rfl rfl (by kernel_rfl) (by kernel_rfl) (by kernel_rfl) (fun _ _ _ h => h) (Or.inl ⟨by rfl, fun W hSW => by go_simp⟩) hHeld ?_
        simp only [Act.put, List.setIfInBounds_toArray, List.set_cons_zero, List.set_cons_succ]
        refine takeP 1 (v := .int .i64 (j : Int)) (some 71) #[true, true, false, false, false, false, false, false, false, false, false, false, false] rfl rfl rfl (by kernel_rfl) (by kernel_rfl) (by kernel_rfl) (fun _ _ _ h => h) (Or.inl ⟨by rfl, fun W hSW => by go_simp⟩) hHeld ?_
        simp only [Act.put, List.setIfInBounds_toArray, List.set_cons_zero, List.set_cons_succ]
        refine takeP 2 (v := .pointer (some ⟨gl, j, none⟩)) (some 72) #[true, true, true, false, false, false, false, false, false, false, false, false, false] rfl rfl rfl (by kernel_rfl) (by kernel_rfl) (by kernel_rfl) (fun _ _ _ h => h) (Or.inl ⟨by rfl, fun W hSW => by go_simp⟩) hHeld ?_
        simp only [Act.put, List.setIfInBounds_toArray, List.set_cons_zero, List.set_cons_succ]
        refine takeP 3 (v := .pointer (some ⟨s, 0, none⟩)) (some 73) #[true, true, true, true, false, false, false, false, false, false, false, false, false] rfl rfl rfl (by kernel_rfl) (by kernel_rfl) (by kernel_rfl) (fun _ _ _ h => h) (Or.inl ⟨by rfl, fun W hSW => by have hcc := HPC.out W hSW; go_simp⟩) hHeld ?_
        simp only [Act.put, List.setIfInBounds_toArray, List.set_cons_zero, List.set_cons_succ]
        refine takeP 4 (v := .slice (some ⟨g1, 0, none⟩) 1 cap1) (some 74) #[true, true, true, true, true, false, false, false, false, false, false, false, false] rfl rfl rfl (by kernel_rfl) (by kernel_rfl) (by kernel_rfl) (fun _ _ _ h => h) (Or.inl ⟨by rfl, fun W hSW => by go_simp⟩) hHeld ?_
        simp only [Act.put, List.setIfInBounds_toArray, List.set_cons_zero, List.set_cons_succ]
        refine takeP 5 (v := .pointer (some ⟨g1, 0, none⟩)) (some 75) #[true, true, true, true, true, true, false, false, false, false, false, false, false] rfl rfl rfl (by kernel_rfl) (by kernel_rfl) (by kernel_rfl) (fun _ _ _ h => h) (Or.inl ⟨by rfl, fun W hSW => by go_simp⟩) hHeld ?_
        simp only [Act.put, List.setIfInBounds_toArray, List.set_cons_zero, List.set_cons_succ]
        refine takeP 6 (v := .agg us.toArray) (some 76) #[true, true, true, true, true, true, true, false, false, false, false, false, false] rfl rfl rfl (by kernel_rfl) (by kernel_rfl) (by kernel_rfl) (fun _ _ _ h => h) (yieldsIf_load_mid (by rfl) 29 (.tmp 75) rfl g1 0 rfl us _ HRG.out hui rfl hsi) hHeld ?_
        simp only [Act.put, List.setIfInBounds_toArray, List.set_cons_zero, List.set_cons_succ]
        refine wpAnyH_ready (rs := [7]) (by kernel_rfl) (by simp) (AllReadyH.cons rfl (fun K hK => ?_) AllReadyH.nil)
        rw [if_pos (by rfl)]
        go_simp
        refine (HGT.out _ hHeld).mono ?_
        rintro e w3 ⟨g3, c3, rfl, b3, k3⟩
        have HB3 : Hid (BytesAt w3 (.slice (some ⟨g3, 0, none⟩) 4 c3) xs) := b3
        refine hK.out _ _ (hHeld.then k3) (fun hHeld => ?_)
        clear hK K k3 b3
        simp only [List.setIfInBounds_toArray, List.set_cons_zero, List.set_cons_succ]
        refine takeP 8 (v := .tuple #[.slice (some ⟨g3, 0, none⟩) 4 c3, .int .i64 0]) (some 69) #[true, true, true, true, true, true, true, true, true, false, false, false, false] rfl rfl rfl (by kernel_rfl) (by kernel_rfl) (by kernel_rfl) (fun _ _ _ h => h) (Or.inl ⟨by rfl, fun W hSW => by go_simp⟩) hHeld ?_
        simp only [Act.put, List.setIfInBounds_toArray, List.set_cons_zero, List.set_cons_succ]
        refine takeP 9 (v := .slice (some ⟨g3, 0, none⟩) 4 c3) (some 78) #[true, true, true, true, true, true, true, true, true, true, false, false, false] rfl rfl rfl (by kernel_rfl) (by kernel_rfl) (by kernel_rfl) (fun _ _ _ h => h) (Or.inl ⟨by rfl, fun W hSW => by go_simp⟩) hHeld ?_
        simp only [Act.put, List.setIfInBounds_toArray, List.set_cons_zero, List.set_cons_succ]
        refine takeP 10 (v := .int .i64 0) (some 79) #[true, true, true, true, true, true, true, true, true, true, true, false, false] rfl rfl rfl (by kernel_rfl) (by kernel_rfl) (by kernel_rfl) (fun _ _ _ h => h) (Or.inl ⟨by rfl, fun W hSW => by go_simp⟩) hHeld ?_
        simp only [Act.put, List.setIfInBounds_toArray, List.set_cons_zero, List.set_cons_succ]
        refine takeP 11 (v := .slice (some ⟨g3, 0, none⟩) 4 c3) (some 12) #[true, true, true, true, true, true, true, true, true, true, true, true, false] rfl rfl rfl (by kernel_rfl) (by kernel_rfl) (by kernel_rfl) (fun _ _ _ h => h) (Or.inl ⟨by rfl, fun W hSW => by go_simp⟩) hHeld ?_
        simp only [Act.put, List.setIfInBounds_toArray, List.set_cons_zero, List.set_cons_succ]
        refine takeP 12 (v := .int .i64 0) (some 13) #[true, true, true, true, true, true, true, true, true, true, true, true, true] rfl rfl rfl (by kernel_rfl) (by kernel_rfl) (by kernel_rfl) (fun _ _ _ h => h) (Or.inl ⟨by rfl, fun W hSW => by go_simp⟩) hHeld ?_
        simp only [Act.put, List.setIfInBounds_toArray, List.set_cons_zero, List.set_cons_succ]
        refine wpAnyH_done (by kernel_rfl) ?_ _
        have HQ3 : Hid (Kept [] wz w3) := HQ1.out.then hHeld
        have hseed := HC.out w3 (HKR.out.then HQ3.out)
        obtain ⟨w4, hw4⟩ : ∃ w4, w4 = w3.alloc (.cells #[.int .u8 1, .int .u8 99, .int .u8 sd, .int .u8 (j : Int)] 5) := ⟨_, rfl⟩
        have HW4 : Hid (w4 = w3.alloc (.cells #[.int .u8 1, .int .u8 99, .int .u8 sd, .int .u8 (j : Int)] 5)) := hw4
        have k34 : Kept [] w3 w4 := by rw [hw4]; exact (Kept.refl _ _).alloc _
        have hb4 : BytesAt w4 (.slice (some ⟨w3.heap.size, 0, none⟩) 4 4) xs := by
          have hmap : (xs.map (Value.int .u8)).toArray = #[.int .u8 1, .int .u8 99, .int .u8 sd, .int .u8 (j : Int)] := by rw [HXS.out]; rfl
          have h := row_bytes' (w := w4) (q := w3.heap.size) (ys := xs) (by rw [hmap, hw4]; exact heap_alloc_new w3 _)
          rwa [hxl] at h
        have heq := Eq_same (HB3.out.kept' k34 (fun _ _ _ => by simp)) hb4 (by omega)
        have HQ4 : Hid (Kept [] wz w4) := HQ3.out.then k34
        have hj64 : j < 64 := by omega
        clear hHeld hw4 k34 hb4 hcell hcell1
        go_wp2_with (first
          | (go_at_call 12; refine (num4_any _ _).mono ?_; rintro e wn ⟨rfl, hwn⟩; subst wn)
          | (go_at_call 16; rw [← HW4.out]; refine heq.mono ?_; rintro e w5 ⟨rfl, n5, hw5⟩
             have HQ5 : Hid (Kept [] wz w5) := by rw [hw5]; exact HQ4.out.drewN n5
             clear hw5))
        go_roundw
        case rel => exact ⟨j + 1, by omega, by go_num, HQ5⟩
        case measure => simp [intOf]; omega
end Go.Proofs.YtmhbadkejhbbmaaGreatDoor
