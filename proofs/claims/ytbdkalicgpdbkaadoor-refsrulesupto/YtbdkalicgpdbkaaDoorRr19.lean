/-
  WALK: satchellaw14.RefsRules.
-/
import Derived.Test.YtbdkalicgpdbkaaDoorRr18
import Derived.Test.YtbdkalicgpdbkaaDoorOpenB
namespace Go.Proofs.YtbdkalicgpdbkaaDoor
open Go.RowKit

theorem RulesAt.cells {w : World} {a : Option Addr} {n c : Nat} {R : List RuleL} (h : RulesAt w (.slice a n c) R) {j : Nat} {r : RuleL} (hr : R[j]? = some r) : ∃ b off, a = some ⟨b, off, none⟩ ∧ ∀ W, Kept [] w W → W.cell? ⟨b, off + j * 4, none⟩ = some (.string (strOfNums r.src)) ∧ W.cell? ⟨b, off + j * 4 + 1, none⟩ = some (.string (strOfNums r.dst)) ∧ W.cell? ⟨b, off + j * 4 + 2, none⟩ = some (.bool r.force) ∧ W.cell? ⟨b, off + j * 4 + 3, none⟩ = some (.bool r.neg) := by
  obtain ⟨ao, cap, he, _, _, _, hc⟩ := h
  injection he with e1 e2 e3
  subst e1
  obtain ⟨b, off, rfl, hh⟩ := hc (by rintro e; rw [List.map_eq_nil_iff] at e; subst e; cases hr)
  have h4 := hh j r.row (by rw [List.getElem?_map, hr]; rfl)
  exact ⟨b, off, rfl, fun W k => ⟨k.cell (h4 0 _ rfl) (by simp), k.cell (h4 1 _ rfl) (by simp), k.cell (h4 2 _ rfl) (by simp), k.cell (h4 3 _ rfl) (by simp)⟩⟩
set_option maxRecDepth 100000 in
set_option maxHeartbeats 8000000 in
theorem rulesLaw_any (v : Value) (L : List (List Int)) (w : World) (hL : LsAt w v L) (hb : ∀ p, p ∈ L → p.length ≤ 1048576) (hT : Tabs w) (hM : MaxW w) : Calls Tryd.prog 4 #[.agg #[v]] w fun e w' => e = .returned (.bool true) ∧ Kept [] w w' := by
  obtain ⟨W0, hW0⟩ : ∃ W0, W0 = w.alloc (.cells #[v] 42) := ⟨_, rfl⟩
  have k0 : Kept [] w W0 := by rw [hW0]; exact (Kept.refl _ _).alloc _
  have HK0 : Hid (Kept [] w W0) := k0
  have HBx : Hid (∀ W, Kept [] W0 W → W.cell? ⟨w.heap.size, 0, none⟩ = some v) := fun W k => by
    have hb := k.heap (show W0.heap[w.heap.size]? = _ by rw [hW0]; exact heap_alloc_new w _) (by simp)
    rw [cell_of_row _ _ _ _ _ _ hb]
    rfl
  have HL : Hid (∀ W, Kept [] W0 W → LsAt W v L) := fun W k => hL.kept (k0.then k)
  have HT : Hid (∀ W, Kept [] W0 W → Tabs W ∧ MaxW W) := fun W k => ⟨hT.kept (k0.then k), hM.kept (k0.then k)⟩
  have HBK : Hid (∀ p, p ∈ L → p.length ≤ 1048576) := hb
  have HW0 : Hid (W0 = w.alloc (.cells #[v] 42)) := hW0
  obtain ⟨ao, cap, rfl, hLl, HLo, _⟩ := hL
  clear hT hM k0 hW0 hb
  go_enter Tryd.func4, Tryd.ntmps4
  go_wp2
  go_loopw [3] (fun s3 wr => ∃ k : Nat, k ≤ L.length ∧ s3 = .int .i64 k ∧ Hid (Kept [] W0 wr)) (fun s3 _ => L.length - (intOf s3).toNat)
  case atStart => exact ⟨0, Nat.zero_le _, rfl, by rw [HW0.out]; exact Kept.refl _ _⟩
  case round =>
    obtain ⟨k, hk, rfl, HK⟩ := hrel
    have g0 := HBx.out wr HK.out
    by_cases hlt : k < L.length
    · have t0 : decide ((k : Int) < (L.length : Int)) = true := by simp; omega
      obtain ⟨xs, hxs⟩ : ∃ xs, L[k]? = some xs := ⟨_, List.getElem?_eq_getElem hlt⟩
      obtain ⟨ao', cap', he, _, _, hc⟩ := HL.out wr HK.out
      injection he with e1 e2 e3
      subst e1 e3
      obtain ⟨b0, off0, rfl, hh⟩ := hc (by rintro rfl; simp at hlt)
      obtain ⟨u, hu1, hu2⟩ := hh k xs hxs
      obtain ⟨hox, _⟩ := HLo xs (List.mem_of_getElem? hxs)
      have hlx := HBK.out xs (List.mem_of_getElem? hxs)
      have HCV : Hid (∀ W, Kept [] wr W → (convert 45 9 u).run Tryd.prog W = .ok (.string (strOfNums xs)) W) := fun W kW => (hu2.kept' kW (fun _ _ _ => by simp)).conv
      have HCL : Hid (∀ W, Kept [] wr W → W.cell? ⟨b0, off0 + k, none⟩ = some u ∧ W.cell? ⟨w.heap.size, 0, none⟩ = some (.slice (some ⟨b0, off0, none⟩) L.length cap)) := fun W kW => ⟨kW.cell hu1 (by simp), HBx.out W (HK.out.then kW)⟩
      have hp1 := ParseR_any xs hox (by omega) wr (HT.out wr HK.out).1 (HT.out wr HK.out).2
      have HP2 : Hid (∀ W, Calls Tryd.prog 15 #[.string (strOfNums xs)] W fun e w' => ∃ v, e = .returned (.tuple #[v, .int .i64 (errN xs)]) ∧ RulesAt w' v (gotL xs) ∧ Kept [] W w') := fun W => ParseD_any xs hox (by omega) W
      have hcv := HCV.out wr (Kept.refl _ _)
      obtain ⟨R, hR⟩ : ∃ R, R = gotL xs := ⟨_, rfl⟩
      have HRR : Hid ((∀ r, r ∈ R → r.Read) ∧ R.length ≤ 64) := by rw [hR]; exact ⟨got_read hox, got_few xs⟩
      obtain ⟨n, hn⟩ : ∃ n : Int, n = errN xs := ⟨_, rfl⟩
      rw [← hn, ← hR] at hp1 HP2
      have i0 : (0 : Int) ≤ (k : Int) := by omega
      have i1 : (k : Int) < (L.length : Int) := by omega
      clear hn hh hc hxs hu2 hox hlx hR
      generalize strOfNums xs = S at *
      go_wp2_with fail
      go_at_call 14
      refine hp1.mono ?_
      rintro e w1 ⟨v1, rfl, hr1, k1⟩
      obtain ⟨a1, c1, rfl, hc1, hl1⟩ := hr1.form
      obtain ⟨g1, g2⟩ := HCL.out w1 k1
      have hcv1 := HCV.out w1 k1
      have HR1 : Hid (RulesAt w1 (.slice a1 R.length c1) R) := hr1
      have HK1 : Hid (Kept [] W0 w1) := HK.out.then k1
      clear hp1 hcv k1 hr1
      go_wp2_with fail
      go_at_call 15
      refine (HP2.out _).mono ?_
      rintro e w2 ⟨v2, rfl, hr2, k2⟩
      have hsr := sameRules_any (.slice a1 R.length c1) v2 R w2 (HR1.out.kept k2) hr2
      obtain ⟨a2, c2, rfl, hc2, hl2⟩ := hr2.form
      have HK2 : Hid (Kept [] w1 w2) := k2
      clear k2 hr2 g1 g2 hcv1
      go_wp2_with (first
        | (go_at_call 10; refine (num14R_any _ _).mono ?_; rintro e w9 ⟨rfl, hw9⟩; subst w9)
        | (go_at_call 16; refine hsr.mono ?_; rintro e w3 ⟨rfl, k3⟩
           have HK3 : Hid (Kept [] w1 w3) := HK2.out.then k3
           clear k3 hsr))
      go_loopw [8, 9] (fun s8 s9 wr => ∃ j : Nat, j ≤ R.length ∧ s8 = .string (strOfNums (32 :: linesL (R.take j))) ∧ s9 = .int .i64 j ∧ Hid (Kept [] w1 wr)) (fun _ s9 _ => R.length - (intOf s9).toNat)
      case atStart => exact ⟨0, Nat.zero_le _, by kernel_rfl, rfl, HK3⟩
      case round =>
        obtain ⟨j, hj, rfl, rfl, HKQ⟩ := hrel
        by_cases hjl : j < R.length
        · have t2 : decide ((j : Int) < (R.length : Int)) = true := by simp; omega
          obtain ⟨r, hr⟩ : ∃ r, R[j]? = some r := ⟨_, List.getElem?_eq_getElem hjl⟩
          obtain ⟨b, off, rfl, hce⟩ := HR1.out.cells hr
          have HCE : Hid (∀ W, Kept [] wr W → W.cell? ⟨b, off + j * 4, none⟩ = some (.string (strOfNums r.src)) ∧ W.cell? ⟨b, off + j * 4 + 1, none⟩ = some (.string (strOfNums r.dst)) ∧ W.cell? ⟨b, off + j * 4 + 2, none⟩ = some (.bool r.force) ∧ W.cell? ⟨b, off + j * 4 + 3, none⟩ = some (.bool r.neg)) := fun W k => hce W (HKQ.out.then k)
          obtain ⟨d0, d1, d2, d3⟩ := HCE.out wr (Kept.refl _ _)
          have j0 : (0 : Int) ≤ (j : Int) := by omega
          have j1 : (j : Int) < (R.length : Int) := by omega
          have HNX : Hid (strOfNums (32 :: linesL (R.take (j + 1))) = strOfNums (32 :: linesL (R.take j)) ++ strOfNums (spellL r) ++ ⟨#[10]⟩) := by
            have h : strOfNums (32 :: linesL (R.take (j + 1))) = strOfNums (32 :: linesL (R.take j)) ++ strOfNums (spellL r) ++ strOfNums [10] := by
              rw [str_cat, str_cat, List.take_add_one, hr]
              show strOfNums (32 :: linesL (R.take j ++ [r])) = _
              rw [lines_snoc]
              congr 1
              simp
            exact h
          have hsp : strOfNums (spellL r) = if r.neg = true then ⟨#[94]⟩ ++ strOfNums r.src else if r.force = true then ⟨#[43]⟩ ++ (strOfNums r.src ++ (⟨#[58]⟩ ++ strOfNums r.dst)) else strOfNums r.src ++ (⟨#[58]⟩ ++ strOfNums r.dst) := by
            have h58 : strOfNums (58 :: r.dst) = ⟨#[58]⟩ ++ strOfNums r.dst := (str_cat [58] r.dst).symm
            have h43 : strOfNums (43 :: (r.src ++ 58 :: r.dst)) = ⟨#[43]⟩ ++ strOfNums (r.src ++ 58 :: r.dst) := (str_cat [43] _).symm
            have h94 : strOfNums (94 :: r.src) = ⟨#[94]⟩ ++ strOfNums r.src := (str_cat [94] _).symm
            unfold spellL
            split
            · exact h94
            · split
              · rw [h43, ← str_cat, h58]
              · rw [← str_cat, h58]
          rw [hsp] at HNX
          have hzr : r.Read := HRR.out.1 r (List.mem_of_getElem? hr)
          have hz1 : (strOfNums r.src).size ≤ 255 := by rw [strOfNums_size]; exact hzr.sl
          have hz2 : (strOfNums r.dst).size ≤ 255 := by rw [strOfNums_size]; exact hzr.dl
          have hz3 : (strOfNums (32 :: linesL (R.take j))).size ≤ 40000 := by
            have h1 := (lines_ok (R := R.take j) fun q hq => HRR.out.1 q (List.mem_of_mem_take hq)).2
            have h2 : (R.take j).length ≤ 64 := by rw [List.length_take]; have := HRR.out.2; omega
            rw [strOfNums_size, List.length_cons]
            omega
          clear hzr
          clear hsp hce hr
          generalize strOfNums (32 :: linesL (R.take j)) = TX at *
          generalize strOfNums r.src = SA at *
          generalize strOfNums r.dst = SB at *
          cases hng : r.neg with
          | true =>
            rw [hng, if_pos rfl] at HNX
            rw [hng] at d3
            have HN2 : Hid (strOfNums (32 :: linesL (R.take (j + 1))) = TX ++ ⟨#[94]⟩ ++ SA ++ ⟨#[10]⟩) := by
              have h := HNX.out
              rw [← ByteArray.append_assoc] at h
              exact h
            clear hng HNX
            go_wp2
            go_roundw
            case rel => exact ⟨j + 1, by omega, by rw [HN2.out], by go_num, HKQ⟩
            case measure => simp [intOf]; omega
          | false =>
            rw [hng, if_neg (by decide)] at HNX
            rw [hng] at d3
            cases hfo : r.force with
            | true =>
              rw [hfo, if_pos rfl] at HNX
              rw [hfo] at d2
              have HN2 : Hid (strOfNums (32 :: linesL (R.take (j + 1))) = TX ++ ⟨#[43]⟩ ++ SA ++ ⟨#[58]⟩ ++ SB ++ ⟨#[10]⟩) := by
                have h := HNX.out
                rw [← ByteArray.append_assoc, ← ByteArray.append_assoc, ← ByteArray.append_assoc] at h
                exact h
              clear hng hfo HNX
              go_wp2_with fail
              go_quiet (fail)
              go_wp2
              go_roundw
              case rel => exact ⟨j + 1, by omega, by rw [HN2.out], by go_num, HKQ.out.drewN _⟩
              case measure => simp [intOf]; omega
            | false =>
              rw [hfo, if_neg (by decide)] at HNX
              rw [hfo] at d2
              have HN2 : Hid (strOfNums (32 :: linesL (R.take (j + 1))) = TX ++ SA ++ ⟨#[58]⟩ ++ SB ++ ⟨#[10]⟩) := by
                have h := HNX.out
                rw [← ByteArray.append_assoc, ← ByteArray.append_assoc] at h
                exact h
              clear hng hfo HNX
              go_wp2_with fail
              go_quiet (fail)
              go_wp2
              go_roundw
              case rel => exact ⟨j + 1, by omega, by rw [HN2.out], by go_num, HKQ.out.drewN _⟩
              case measure => simp [intOf]; omega
        · have t2 : decide ((j : Int) < (R.length : Int)) = false := by simp; omega
          have hjn : j = R.length := by omega
          subst hjn
          rw [List.take_length]
          have hok := lines_ok HRR.out.1
          have hpa := ParseR_any (32 :: linesL R) (fun u hu => by
            rcases List.mem_cons.1 hu with rfl | hu
            · omega
            · exact hok.1 u hu) (by have h1 := hok.2; have h2 := HRR.out.2; simp only [List.length_cons]; omega) wr (HT.out wr (HK1.out.then HKQ.out)).1 (HT.out wr (HK1.out.then HKQ.out)).2
          have e1 : parseL (32 :: linesL R) = some R := got_again HRR.out.1 HRR.out.2
          have e2 : gotL (32 :: linesL R) = R := by unfold gotL; rw [e1]; rfl
          have e3 : errN (32 :: linesL R) = 0 := by unfold errN; rw [e1]; rfl
          rw [e2, e3] at hpa
          clear hok e1 e2 e3
          generalize strOfNums (32 :: linesL R) = TX at *
          go_wp2_with fail
          go_at_call 14
          refine hpa.mono ?_
          rintro e w4 ⟨v4, rfl, hr4, k4⟩
          have hs4 := sameRules_any v4 (.slice a1 R.length c1) R w4 hr4 (HR1.out.kept (HKQ.out.then k4))
          obtain ⟨a4, c4, rfl, hc4, hl4⟩ := hr4.form
          have HK4 : Hid (Kept [] W0 w4) := HK1.out.then (HKQ.out.then k4)
          clear k4 hr4 hpa
          go_wp2_with (first
            | (go_at_call 10; refine (num14R_any _ _).mono ?_; rintro e w9 ⟨rfl, hw9⟩; subst w9)
            | (go_at_call 16; refine hs4.mono ?_; rintro e w5 ⟨rfl, k5⟩
               have HK5 : Hid (Kept [] W0 w5) := HK4.out.then k5
               clear k5 hs4))
          go_roundw
          case rel => exact ⟨k + 1, by omega, by go_num, HK5⟩
          case measure => simp [intOf]; omega
    · have t0 : decide ((k : Int) < (L.length : Int)) = false := by simp; omega
      have hpa := ParseR_any [97, 58, 98, 58, 99] (fun u hu => by simp at hu; omega) (by decide) wr (HT.out wr HK.out).1 (HT.out wr HK.out).2
      rw [show gotL [97, 58, 98, 58, 99] = [] by unfold gotL; rw [bad_abc]; rfl, show errN [97, 58, 98, 58, 99] = 141 by unfold errN; rw [bad_abc]; rfl, show strOfNums [97, 58, 98, 58, 99] = (⟨#[97, 58, 98, 58, 99]⟩ : ByteArray) by kernel_rfl] at hpa
      go_wp2_with fail
      go_at_call 14
      refine hpa.mono ?_
      rintro e w4 ⟨v4, rfl, hr4, k4⟩
      obtain ⟨a4, c4, rfl, hc4, hl4⟩ := hr4.form
      have HK4 : Hid (Kept [] W0 w4) := HK.out.then k4
      clear k4 hr4 hpa
      go_wp2_with (go_at_call 10; refine (num14R_any _ _).mono ?_; rintro e w9 ⟨rfl, hw9⟩; subst w9)
      go_ret
      exact ⟨rfl, HK0.out.then HK4.out⟩
end Go.Proofs.YtbdkalicgpdbkaaDoor
