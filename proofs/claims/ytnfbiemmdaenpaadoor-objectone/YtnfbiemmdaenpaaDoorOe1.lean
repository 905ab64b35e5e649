/-
  WALK: satchelref3.tree: the fault of a tree, for every list of entries.
  WALKS: satchelref3.Wrong of a tree; satchelref3.Encode, of any object.
-/
import Derived.Test.YtnfbiemmdaenpaaDoorRe6
import Derived.Test.YtnfbiemmdaenpaaDoorRe3
import Derived.Test.YtnfbiemmdaenpaaDoorSg2
import Derived.Test.YtnfbiemmdaenpaaDoorHd
import Derived.Deep.RegionHeld
namespace Go.Proofs.YtnfbiemmdaenpaaDoor
open Go.RowKit

def ascK (es : List EntL) (k : Nat) : Bool := (List.range (k - 1)).all fun i => lessB (nameAt es i) (nameAt es (i + 1))
theorem ascK_succ (es : List EntL) (k : Nat) (h : 0 < k) : ascK es (k + 1) = (ascK es k && lessB (nameAt es (k - 1)) (nameAt es k)) := by
  obtain ⟨j, rfl⟩ : ∃ j, k = j + 1 := ⟨k - 1, by omega⟩
  unfold ascK
  rw [Nat.add_sub_cancel, Nat.add_sub_cancel, List.range_succ, List.all_append]
  simp
theorem nameAt_some {es : List EntL} {k : Nat} {e : EntL} (h : es[k]? = some e) : nameAt es k = e.name := by unfold nameAt; rw [h]; rfl

set_option maxRecDepth 100000 in
set_option maxHeartbeats 4000000 in
theorem R3tree_any (v : Value) (es : List EntL) (w : World) (hv : EntsAt w v es) (hg : ∀ e, e ∈ es → e.Good) :
    Calls Tryd.prog 33 #[v] w fun e w' => e = .returned (.int .i64 (faultT es)) ∧ Kept [] w w' := by
  have HV : Hid (∀ W, Kept [] w W → EntsAt W v es) := fun W k => hv.keep k (fun _ _ _ => by simp)
  have HG : Hid (∀ e, e ∈ es → e.Good) := hg
  obtain ⟨ao, cap, rfl, hcap, hlen, _⟩ := hv.form
  have HM : Hid (∀ (k : Nat) (en : EntL), es[k]? = some en → ∃ b off, ao = some ⟨b, off, none⟩ ∧ ∀ W, Kept [] w W → W.cell? ⟨b, off + k * 34, none⟩ = some (.int .i64 en.mode) ∧ W.cell? ⟨b, off + k * 34 + 1, none⟩ = some (.string (strOfNums en.name))) := fun k en hek => by
    have hne : es ≠ [] := by rintro rfl; simp at hek
    obtain ⟨a0, p0, he0, _, _, hc0⟩ := hv.form
    injection he0 with f1 f2 f3
    obtain ⟨b, off, hb, hh⟩ := hc0 hne
    refine ⟨b, off, f1.trans hb, fun W hW => ?_⟩
    have hr := range_kept (hh k en hek) hW (by simp)
    exact ⟨(ent_mid hr).1, (ent_mid hr).2.1⟩
  clear hv hg
  by_cases hm : 1024 < es.length
  · have hd : decide ((1024 : Int) < es.length) = true := decide_eq_true (by omega)
    have HR : Hid (faultT es = 35) := if_pos hm
    go_enter Tryd.func33, Tryd.ntmps33
    go_wp2
    go_ret
    exact ⟨by rw [HR.out]; rfl, Kept.refl _ _⟩
  · have hd : decide ((1024 : Int) < es.length) = false := decide_eq_false (by omega)
    have HR : Hid (faultT es = if es.all (fun e => modeB e.mode) = false then 34 else if es.all (fun e => nameB e.name) = false then 32 else if ascB es = false then 33 else 0) := if_neg hm
    go_enter Tryd.func33, Tryd.ntmps33
    go_wp2
    go_loopw [4] (fun s4 wr => ∃ k : Nat, k ≤ es.length ∧ s4 = .int .i64 k ∧ Hid (∀ (i : Nat) (e : EntL), es[i]? = some e → i < k → modeB e.mode = true) ∧ Hid (Kept [] w wr)) (fun s4 _ => es.length - (intOf s4).toNat)
    case atStart => exact ⟨0, Nat.zero_le _, rfl, fun i e _ h => absurd h (by omega), Kept.refl _ _⟩
    case round =>
      obtain ⟨k, hk, rfl, HN, HK⟩ := hrel
      by_cases hlt : k < es.length
      · have t1 : decide ((k : Int) < es.length) = true := decide_eq_true (by omega)
        obtain ⟨en, hek⟩ : ∃ en, es[k]? = some en := ⟨_, List.getElem?_eq_getElem hlt⟩
        obtain ⟨b, off, rfl, hmm⟩ := HM.out k en hek
        obtain ⟨m0, m1⟩ := hmm wr HK.out
        have HEK : Hid (es[k]? = some en) := hek
        clear hmm hek
        by_cases h1 : 1 ≤ en.mode
        · have t2 : decide (en.mode < 1) = false := decide_eq_false (by omega)
          by_cases h4 : en.mode ≤ 4
          · have t3 : decide (4 < en.mode) = false := decide_eq_false (by omega)
            have HN' : Hid (∀ (i : Nat) (e : EntL), es[i]? = some e → i < k + 1 → modeB e.mode = true) := fun i e he hi => by
              by_cases hik : i = k
              · subst hik
                rw [HEK.out] at he
                injection he with he
                subst he
                unfold modeB
                rw [decide_eq_true h1, decide_eq_true h4]
                rfl
              · exact HN.out i e he (by omega)
            clear HN
            go_wp2
            go_roundw
            case rel => exact ⟨k + 1, by omega, by go_num, HN', HK⟩
            case measure => simp [intOf]; omega
          · have t3 : decide (4 < en.mode) = true := decide_eq_true (by omega)
            have HS : Hid (faultT es = 34) := by
              have h := HR.out
              rw [if_pos (not_all HEK.out (by unfold modeB; rw [decide_eq_false h4, Bool.and_false]))] at h
              exact h
            go_wp2
            go_ret
            exact ⟨by rw [HS.out]; rfl, HK.out⟩
        · have t2 : decide (en.mode < 1) = true := decide_eq_true (by omega)
          have HS : Hid (faultT es = 34) := by
            have h := HR.out
            rw [if_pos (not_all HEK.out (by unfold modeB; rw [decide_eq_false h1, Bool.false_and]))] at h
            exact h
          go_wp2
          go_ret
          exact ⟨by rw [HS.out]; rfl, HK.out⟩
      · have t1 : decide ((k : Int) < es.length) = false := decide_eq_false (by omega)
        have HS : Hid (faultT es = if es.all (fun e => nameB e.name) = false then 32 else if ascB es = false then 33 else 0) := by
          have h := HR.out
          rw [if_neg (by rw [all_of fun i e he hi => HN.out i e he (by omega)]; simp)] at h
          exact h
        clear HN HR
        clear t1 hk
        go_wp2
        go_loopw [3, 5] (fun s3 s5 wr => ∃ (j : Nat) (bad : Int), j ≤ es.length ∧ s5 = .int .i64 j ∧ s3 = .int .i64 bad ∧ Hid (bad = if ascK es j = false then 33 else 0) ∧ Hid (∀ (i : Nat) (e : EntL), es[i]? = some e → i < j → nameB e.name = true) ∧ Hid (Kept [] w wr)) (fun _ s5 _ => es.length - (intOf s5).toNat)
        case atStart => exact ⟨0, 0, Nat.zero_le _, rfl, rfl, rfl, fun i e _ h => absurd h (by omega), HK⟩
        case round =>
          clear HK
          obtain ⟨j, bad, hj, rfl, rfl, HBad, HN, HK⟩ := hrel
          by_cases hjl : j < es.length
          · have t2 : decide ((j : Int) < es.length) = true := decide_eq_true (by omega)
            obtain ⟨en, hek⟩ : ∃ en, es[j]? = some en := ⟨_, List.getElem?_eq_getElem hjl⟩
            have hge := HG.out en (List.mem_of_getElem? hek)
            obtain ⟨b, off, rfl, hmm⟩ := HM.out j en hek
            obtain ⟨m0, m1⟩ := hmm wr HK.out
            have hnm := fun W => RName_any en.name hge.name.1 (Nat.le_trans hge.name.2 (by decide)) W
            by_cases hb : nameB en.name = true
            · rw [hb] at hnm
              have HN' : Hid (∀ (i : Nat) (e : EntL), es[i]? = some e → i < j + 1 → nameB e.name = true) := fun i e he hi => by
                by_cases hik : i = j
                · subst hik
                  rw [hek] at he
                  injection he with he
                  subst he
                  exact hb
                · exact HN.out i e he (by omega)
              clear HN hb
              rcases Nat.eq_zero_or_pos j with hj0 | hj0
              · subst hj0
                have hz : decide ((0 : Int) < ((0 : Nat) : Int)) = false := rfl
                have HB0 : Hid (bad = if ascK es (0 + 1) = false then 33 else 0) := HBad.out
                clear hmm m0 hge HBad
                have HEN : Hid (es[0]? = some en) := hek
                clear hek
                generalize strOfNums en.name = SB at *
                go_wp2_with (go_at_call 35; refine (hnm _).mono ?_; rintro e w1 ⟨rfl, hw1⟩; subst w1)
                go_quiet (fail)
                go_wp2
                go_roundw
                case rel => exact ⟨0 + 1, bad, by omega, by go_num, rfl, HB0, HN', HK.out.drewN _⟩
                case measure => simp [intOf]; omega
              · obtain ⟨m, rfl⟩ : ∃ m, j = m + 1 := ⟨j - 1, by omega⟩
                obtain ⟨e0, he0⟩ : ∃ e, es[m]? = some e := ⟨_, List.getElem?_eq_getElem (by omega)⟩
                obtain ⟨b', off', hbb, hm0⟩ := HM.out m e0 he0
                obtain ⟨rfl, rfl⟩ : b = b' ∧ off = off' := by simpa using hbb
                have hg0 := HG.out e0 (List.mem_of_getElem? he0)
                have hij : IntKind.i64.wrap (((m + 1 : Nat) : Int) - 1) = (m : Int) := by rw [IntKind.wrap_i64]; omega
                have hpos : decide ((0 : Int) < ((m + 1 : Nat) : Int)) = true := decide_eq_true (by omega)
                have HAs : Hid (ascK es (m + 1 + 1) = (ascK es (m + 1) && decide (cmpZ e0.name en.name < 0))) := by
                  show _ = _
                  rw [ascK_succ es (m + 1) (by omega), Nat.add_sub_cancel, nameAt_some he0, nameAt_some hek, lessB_cmpZ _ _ hg0.name.1 hge.name.1]
                have HS : Hid (∀ W, Kept [] wr W → W.cell? ⟨b, off + m * 34 + 1, none⟩ = some (.string (strOfNums e0.name)) ∧ W.cell? ⟨b, off + (m + 1) * 34 + 1, none⟩ = some (.string (strOfNums en.name))) := fun W k => ⟨(hm0 W (HK.out.then k)).2, (hmm W (HK.out.then k)).2⟩
                have kd : Kept [] wr wr.drew := (Kept.refl [] wr).drew
                obtain ⟨ca1, wa1, va1, bA1, ka1, _⟩ := conv_txt wr.drew e0.name hg0.name.1
                obtain ⟨ca2, wa2, va2, bA2, ka2, _⟩ := conv_txt wa1 en.name hge.name.1
                obtain ⟨cb1, wb1, vb1, bB1, kb1, _⟩ := conv_txt wr.drew en.name hge.name.1
                obtain ⟨cb2, wb2, vb2, bB2, kb2, _⟩ := conv_txt wb1 e0.name hg0.name.1
                have hds : wr.drew.heap.size = wr.heap.size := rfl
                rw [hds] at va1 bA1 vb1 bB1
                clear hds
                have hcA := CmpZ_any (BytesAt.keep bA1 ka2 (fun _ _ _ => by simp)) bA2 (Nat.le_trans hg0.name.2 (by decide)) (Nat.le_trans hge.name.2 (by decide))
                have hcB := CmpZ_any bB2 (BytesAt.keep bB1 kb2 (fun _ _ _ => by simp)) (Nat.le_trans hg0.name.2 (by decide)) (Nat.le_trans hge.name.2 (by decide))
                have HKA : Hid (Kept [] wr wa2) := (kd.then ka1).then ka2
                have HKB : Hid (Kept [] wr wb2) := (kd.then kb1).then kb2
                have HS0 : Hid _ := HS.out wr.drew kd
                have HS1 : Hid _ := HS.out wa1 (kd.then ka1)
                have HS2 : Hid _ := HS.out wa2 HKA.out
                have HS3 : Hid _ := HS.out wb1 (kd.then kb1)
                have HS4 : Hid _ := HS.out wb2 HKB.out
                have HS5 : Hid (∀ n, _) := fun n => HS.out (wa2.drewN n) (HKA.out.drewN n)
                have HS6 : Hid (∀ n, _) := fun n => HS.out (wb2.drewN n) (HKB.out.drewN n)
                obtain ⟨cz, hcz⟩ : ∃ cz, cz = cmpZ e0.name en.name := ⟨_, rfl⟩
                rw [← hcz] at hcA hcB HAs
                clear hcz bA1 bA2 bB1 bB2 ka1 ka2 kb1 kb2 kd HS hm0 hmm m0 he0 hek hbb
                generalize e0.name.length = n0 at *
                generalize en.name.length = n1 at *
                generalize strOfNums e0.name = SA at *
                generalize strOfNums en.name = SB at *
                clear hge hg0
                have hij2 : IntKind.i64.wrap (m : Int) = (m : Int) := by rw [IntKind.wrap_i64]; omega
                have hij3 : IntKind.i64.wrap ((m : Int) + 1 - 1) = (m : Int) := by rw [IntKind.wrap_i64]; omega
                have i1 : m < es.length := by omega
                have i2 : (m : Int) < (es.length : Int) := by omega
                have i3 : (0 : Int) ≤ (m : Int) := by omega
                have i4 : m + 1 < es.length := by omega
                have i5 : ((m + 1 : Nat) : Int) < (es.length : Int) := by omega
                have i6 : (0 : Int) ≤ ((m + 1 : Nat) : Int) := by omega
                have i7 : (m : Int) + 1 < (es.length : Int) := by omega
                by_cases hcz : cz < 0
                · have t4 : decide (0 ≤ cz) = false := decide_eq_false (by omega)
                  have t5 : ¬ 0 ≤ cz := by omega
                  have HB' : Hid (bad = if ascK es (m + 1 + 1) = false then 33 else 0) := by
                    show _ = _
                    rw [HAs.out, decide_eq_true hcz, Bool.and_true]
                    exact HBad.out
                  clear HBad HAs
                  go_wp2_with (go_at_call 35; refine (hnm _).mono ?_; rintro e w1 ⟨rfl, hw1⟩; subst w1)
                  go_region_held (fun W => W.cell? ⟨b, off + m * 34 + 1, none⟩ = some (.string SA) ∧ W.cell? ⟨b, off + (m + 1) * 34 + 1, none⟩ = some (.string SB)) (first | exact HS0.out | exact HS1.out | exact HS2.out | exact HS3.out | exact HS4.out | exact HS5.out _ | exact HS6.out _)
                    (first
                      | (go_at_call 28; (with_reducible refine hcA.mono ?_); rintro e w3 ⟨rfl, n3, rfl⟩)
                      | (go_at_call 28; (with_reducible refine hcB.mono ?_); rintro e w3 ⟨rfl, n3, rfl⟩))
                  all_goals go_wp2
                  all_goals go_roundw
                  all_goals first
                    | exact ⟨m + 1 + 1, bad, by omega, by go_num, rfl, HB', HN', HK.out.then (HKA.out.drewN _)⟩
                    | exact ⟨m + 1 + 1, bad, by omega, by go_num, rfl, HB', HN', HK.out.then (HKB.out.drewN _)⟩
                    | (simp [intOf]; omega)
                · have t4 : decide (0 ≤ cz) = true := decide_eq_true (by omega)
                  have t5 : 0 ≤ cz := by omega
                  have HB' : Hid ((33 : Int) = if ascK es (m + 1 + 1) = false then 33 else 0) := by
                    show _ = _
                    rw [HAs.out, decide_eq_false hcz, Bool.and_false, if_pos rfl]
                  clear HBad HAs
                  go_wp2_with (go_at_call 35; refine (hnm _).mono ?_; rintro e w1 ⟨rfl, hw1⟩; subst w1)
                  go_region_held (fun W => W.cell? ⟨b, off + m * 34 + 1, none⟩ = some (.string SA) ∧ W.cell? ⟨b, off + (m + 1) * 34 + 1, none⟩ = some (.string SB)) (first | exact HS0.out | exact HS1.out | exact HS2.out | exact HS3.out | exact HS4.out | exact HS5.out _ | exact HS6.out _)
                    (first
                      | (go_at_call 28; (with_reducible refine hcA.mono ?_); rintro e w3 ⟨rfl, n3, rfl⟩)
                      | (go_at_call 28; (with_reducible refine hcB.mono ?_); rintro e w3 ⟨rfl, n3, rfl⟩))
                  all_goals go_wp2
                  all_goals go_roundw
                  all_goals first
                    | exact ⟨m + 1 + 1, 33, by omega, by go_num, rfl, HB', HN', HK.out.then (HKA.out.drewN _)⟩
                    | exact ⟨m + 1 + 1, 33, by omega, by go_num, rfl, HB', HN', HK.out.then (HKB.out.drewN _)⟩
                    | (simp [intOf]; omega)
            · have hbf : nameB en.name = false := by simpa using hb
              rw [hbf] at hnm
              have HR2 : Hid (faultT es = 32) := by
                have h := HS.out
                rw [if_pos (not_all hek hbf)] at h
                exact h
              clear hmm hge hek HS HBad
              generalize strOfNums en.name = SB at *
              go_wp2_with (go_at_call 35; refine (hnm _).mono ?_; rintro e w1 ⟨rfl, hw1⟩; subst w1)
              go_ret
              exact ⟨by rw [HR2.out]; rfl, HK.out⟩
          · obtain rfl : j = es.length := by omega
            have t2 : decide ((es.length : Int) < es.length) = false := decide_eq_false (by omega)
            have HR2 : Hid (faultT es = bad) := by
              have h := HS.out
              rw [if_neg (by rw [all_of fun i e he hi => HN.out i e he (by omega)]; simp)] at h
              rw [h, HBad.out]
              exact rfl
            clear HN HS HBad
            go_wp2
            go_ret
            exact ⟨by rw [HR2.out]; rfl, HK.out⟩
end Go.Proofs.YtnfbiemmdaenpaaDoor

namespace Go.Proofs.YtnfbiemmdaenpaaDoor
open Go.RowKit

set_option maxRecDepth 100000 in
set_option maxHeartbeats 2000000 in
theorem R3wrongTree_any (o : ObjL) (w : World) (h2 : o.kind = 2) (hc : o.com.tree.length = 32) (hv : EntsAt w o.ev o.es) (hg : ∀ e, e ∈ o.es → e.Good) :
    Calls Tryd.prog 24 #[.agg o.row.toArray] w fun e w' => e = .returned (.int .i64 (faultT o.es)) ∧ Kept [] w w' := by
  have hB := heap_alloc_new w (.cells o.row.toArray 33)
  obtain ⟨c0, _, c2, _, _⟩ := obj_cells hc hB
  rw [h2] at c0
  have hk : Kept [] w (w.alloc (.cells o.row.toArray 33)) := (Kept.refl _ _).alloc _
  have hcall := R3tree_any o.ev o.es _ (hv.keep hk (fun _ _ _ => by simp)) hg
  have HK : Hid (Kept [] w (w.alloc (.cells o.row.toArray 33))) := hk
  clear hv hg hB hk h2
  generalize o.row.toArray = row at *
  generalize o.ev = cr at *
  generalize faultT o.es = fc at *
  go_enter Tryd.func24, Tryd.ntmps24
  go_wp2_with fail
  go_at_call 33
  refine hcall.mono ?_
  rintro e w1 ⟨rfl, k1⟩
  have HK1 : Hid (Kept [] w w1) := HK.out.then k1
  clear hcall k1
  go_wp2
  go_ret
  exact ⟨rfl, HK1.out⟩

theorem R3Wrong_any (o : ObjL) (w : World) (hg : ObjL.Good w o) :
    Calls Tryd.prog 24 #[.agg o.row.toArray] w fun e w' => e = .returned (.int .i64 (faultO o)) ∧ Kept [] w w' := by
  have hc := hg.com.tree.1
  by_cases k2 : o.kind = 2
  · have ef : faultO o = faultT o.es := by unfold faultO; rw [if_neg (by omega), if_pos k2]
    rw [ef]
    exact R3wrongTree_any o w k2 hc hg.ev hg.es
  · by_cases k3 : o.kind = 3
    · have ef : faultO o = faultC o.com := by unfold faultO; rw [if_neg (by omega), if_neg k2, if_pos k3]
      rw [ef]
      exact R3wrongCom_any o w k3 hg.com hg.pv
    · by_cases k4 : o.kind = 4
      · have ef : faultO o = faultG o.tag := by unfold faultO; rw [if_neg (by omega), if_neg k2, if_neg k3, if_pos k4]
        rw [ef]
        exact R3wrongTag_any o w k4 hc hg.tag
      · have ef : faultO o = if o.kind = 1 then 0 else 30 := by unfold faultO; rw [if_neg k2, if_neg k3, if_neg k4]
        rw [ef]
        exact R3wrongRest_any o w hc k2 k3 k4
theorem R3lay_any (o : ObjL) (w : World) (hg : ObjL.Good w o) (hf : faultO o = 0) :
    Calls Tryd.prog 25 #[.agg o.row.toArray] w fun e w' => ∃ v, e = .returned v ∧ OwnB w' w.heap.size v (encO o) ∧ Kept [] w w' := by
  have hc := hg.com.tree.1
  by_cases k1 : o.kind = 1
  · have ee : encO o = fixedB 1 1 ++ o.blob := by unfold encO; rw [if_pos k1]; rfl
    rw [ee]
    exact R3layBlob_any o w k1 hc hg.bv hg.blob.2
  · by_cases k2 : o.kind = 2
    · have ee : encO o = encT o.es := by unfold encO; rw [if_neg k1, if_pos k2]
      have ef : faultO o = faultT o.es := by unfold faultO; rw [if_neg k1, if_pos k2]
      rw [ef] at hf
      obtain ⟨hm, hok⟩ := faultT_zero hf
      rw [ee]
      exact R3layTree_any o w k2 hc hg.ev hg.es hm hok
    · by_cases k3 : o.kind = 3
      · have ee : encO o = encC o.com := by unfold encO; rw [if_neg k1, if_neg k2, if_pos k3]
        have ef : faultO o = faultC o.com := by unfold faultO; rw [if_neg k1, if_neg k2, if_pos k3]
        rw [ef] at hf
        obtain ⟨h8, hw, hx⟩ := faultC_zero hf
        rw [ee]
        exact R3layCom_any o w k3 hg.com hg.pv h8 (by omega)
      · by_cases k4 : o.kind = 4
        · have ee : encO o = encG o.tag := by unfold encO; rw [if_neg k1, if_neg k2, if_neg k3, if_pos k4]
          have ef : faultO o = faultG o.tag := by unfold faultO; rw [if_neg k1, if_neg k2, if_neg k3, if_pos k4]
          rw [ef] at hf
          obtain ⟨g0, g1, hn, hw, hx⟩ := faultG_zero hf
          rw [ee]
          exact R3layTag_any o w k4 hc hg.tag g0 g1 (by omega)
        · unfold faultO at hf
          rw [if_neg k1, if_neg k2, if_neg k3, if_neg k4] at hf
          exact absurd hf (by decide)
theorem R3Enc_any (o : ObjL) (w : World) (hg : ObjL.Good w o) :
    Calls Tryd.prog 8 #[.agg o.row.toArray] w fun e w' => ∃ v, e = .returned (.tuple #[v, .int .i64 (errO o)]) ∧ BytesAt w' v (if errO o = 0 then encO o else []) ∧ Kept [] w w' :=
  R3Encode_any o.row.toArray w (faultO o) (encO o) (by rw [List.size_toArray, objL_len hg.com.tree.1 hg.tag.target.1]; kernel_rfl) (fun W k => R3Wrong_any o W (hg.kept k)) (fun hf W k => R3lay_any o W (hg.kept k) hf)
end Go.Proofs.YtnfbiemmdaenpaaDoor
