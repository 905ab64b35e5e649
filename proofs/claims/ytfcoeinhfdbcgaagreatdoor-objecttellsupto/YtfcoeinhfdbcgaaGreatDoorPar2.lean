/-
  WALK: satchelref3.tree: the fault of a tree, for every list of entries.
  WALKS: satchelref3.Wrong of a tree; satchelref3.Encode, of any object.
  WALKS: object.objectOf of a commit, of a tag.
  WALKS: object.Parse, over what object.read answers.
-/
import Derived.Test.YtfcoeinhfdbcgaaGreatDoorRe6
import Derived.Test.YtfcoeinhfdbcgaaGreatDoorRe3
import Derived.Test.YtfcoeinhfdbcgaaGreatDoorSg2
import Derived.Test.YtfcoeinhfdbcgaaGreatDoorHd
import Derived.Deep.RegionHeld
import Derived.Test.YtfcoeinhfdbcgaaGreatDoorPar0
namespace Go.Proofs.YtfcoeinhfdbcgaaGreatDoor
open Go.RowKit

def ascK (es : List EntL) (k : Nat) : Bool := (List.range (k - 1)).all fun i => lessB (nameAt es i) (nameAt es (i + 1))
theorem ascK_succ (es : List EntL) (k : Nat) (h : 0 < k) : ascK es (k + 1) = (ascK es k && lessB (nameAt es (k - 1)) (nameAt es k)) := by
  obtain ⟨j, rfl⟩ : ∃ j, k = j + 1 := ⟨k - 1, by omega⟩
  unfold ascK
  rw [Nat.add_sub_cancel, Nat.add_sub_cancel, List.range_succ, List.all_append]
  simp
theorem nameAt_some {es : List EntL} {k : Nat} {e : EntL} (h : es[k]? = some e) : nameAt es k = e.name := by unfold nameAt; rw [h]; rfl

set_option maxRecDepth 100000 in
set_option maxHeartbeats 4000000 in
theorem R3tree_any (v : Value) (es : List EntL) (w : World) (hv : EntsAt w v es) (hg : ∀ e, e ∈ es → e.Good) :
    Calls Tryz.prog 53 #[v] w fun e w' => e = .returned (.int .i64 (faultT es)) ∧ Kept [] w w' := by
  have HV : Hid (∀ W, Kept [] w W → EntsAt W v es) := fun W k => hv.keep k (fun _ _ _ => by simp)
  have HG : Hid (∀ e, e ∈ es → e.Good) := hg
  obtain ⟨ao, cap, rfl, hcap, hlen, _⟩ := hv.form
  have HM : Hid (∀ (k : Nat) (en : EntL), es[k]? = some en → ∃ b off, ao = some ⟨b, off, none⟩ ∧ ∀ W, Kept [] w W → W.cell? ⟨b, off + k * 34, none⟩ = some (.int .i64 en.mode) ∧ W.cell? ⟨b, off + k * 34 + 1, none⟩ = some (.string (strOfNums en.name))) := fun k en hek => by
    have hne : es ≠ [] := by rintro rfl; simp at hek
    obtain ⟨a0, p0, he0, _, _, hc0⟩ := hv.form
    injection he0 with f1 f2 f3
    obtain ⟨b, off, hb, hh⟩ := hc0 hne
    refine ⟨b, off, f1.trans hb, fun W hW => ?_⟩
    have hr := range_kept (hh k en hek) hW (by simp)
    exact ⟨(ent_mid hr).1, (ent_mid hr).2.1⟩
  clear hv hg
  by_cases hm : 1024 < es.length
  · have hd : decide ((1024 : Int) < es.length) = true := decide_eq_true (by omega)
    have HR : Hid (faultT es = 35) := if_pos hm
    go_enter Tryz.func53, Tryz.ntmps53
    go_wp2
    go_ret
    exact ⟨by rw [HR.out]; rfl, Kept.refl _ _⟩
  · have hd : decide ((1024 : Int) < es.length) = false := decide_eq_false (by omega)
    have HR : Hid (faultT es = if es.all (fun e => modeB e.mode) = false then 34 else if es.all (fun e => nameB e.name) = false then 32 else if ascB es = false then 33 else 0) := if_neg hm
    go_enter Tryz.func53, Tryz.ntmps53
    go_wp2
    go_loopw [4] (fun s4 wr => ∃ k : Nat, k ≤ es.length ∧ s4 = .int .i64 k ∧ Hid (∀ (i : Nat) (e : EntL), es[i]? = some e → i < k → modeB e.mode = true) ∧ Hid (Kept [] w wr)) (fun s4 _ => es.length - (intOf s4).toNat)
    case atStart => exact ⟨0, Nat.zero_le _, rfl, fun i e _ h => absurd h (by omega), Kept.refl _ _⟩
    case round =>
      obtain ⟨k, hk, rfl, HN, HK⟩ := hrel
      by_cases hlt : k < es.length
      · have t1 : decide ((k : Int) < es.length) = true := decide_eq_true (by omega)
        obtain ⟨en, hek⟩ : ∃ en, es[k]? = some en := ⟨_, List.getElem?_eq_getElem hlt⟩
        obtain ⟨b, off, rfl, hmm⟩ := HM.out k en hek
        obtain ⟨m0, m1⟩ := hmm wr HK.out
        have HEK : Hid (es[k]? = some en) := hek
        clear hmm hek
        by_cases h1 : 1 ≤ en.mode
        · have t2 : decide (en.mode < 1) = false := decide_eq_false (by omega)
          by_cases h4 : en.mode ≤ 4
          · have t3 : decide (4 < en.mode) = false := decide_eq_false (by omega)
            have HN' : Hid (∀ (i : Nat) (e : EntL), es[i]? = some e → i < k + 1 → modeB e.mode = true) := fun i e he hi => by
              by_cases hik : i = k
              · subst hik
                rw [HEK.out] at he
                injection he with he
                subst he
                unfold modeB
                rw [decide_eq_true h1, decide_eq_true h4]
                rfl
              · exact HN.out i e he (by omega)
            clear HN
            go_wp2
            go_roundw
            case rel => exact ⟨k + 1, by omega, by go_num, HN', HK⟩
            case measure => simp [intOf]; omega
          · have t3 : decide (4 < en.mode) = true := decide_eq_true (by omega)
            have HS : Hid (faultT es = 34) := by
              have h := HR.out
              rw [if_pos (not_all HEK.out (by unfold modeB; rw [decide_eq_false h4, Bool.and_false]))] at h
              exact h
            go_wp2
            go_ret
            exact ⟨by rw [HS.out]; rfl, HK.out⟩
        · have t2 : decide (en.mode < 1) = true := decide_eq_true (by omega)
          have HS : Hid (faultT es = 34) := by
            have h := HR.out
            rw [if_pos (not_all HEK.out (by unfold modeB; rw [decide_eq_false h1, Bool.false_and]))] at h
            exact h
          go_wp2
          go_ret
          exact ⟨by rw [HS.out]; rfl, HK.out⟩
      · have t1 : decide ((k : Int) < es.length) = false := decide_eq_false (by omega)
        have HS : Hid (faultT es = if es.all (fun e => nameB e.name) = false then 32 else if ascB es = false then 33 else 0) := by
          have h := HR.out
          rw [if_neg (by rw [all_of fun i e he hi => HN.out i e he (by omega)]; simp)] at h
          exact h
        clear HN HR
        clear t1 hk
        go_wp2
        go_loopw [3, 5] (fun s3 s5 wr => ∃ (j : Nat) (bad : Int), j ≤ es.length ∧ s5 = .int .i64 j ∧ s3 = .int .i64 bad ∧ Hid (bad = if ascK es j = false then 33 else 0) ∧ Hid (∀ (i : Nat) (e : EntL), es[i]? = some e → i < j → nameB e.name = true) ∧ Hid (Kept [] w wr)) (fun _ s5 _ => es.length - (intOf s5).toNat)
        case atStart => exact ⟨0, 0, Nat.zero_le _, rfl, rfl, rfl, fun i e _ h => absurd h (by omega), HK⟩
        case round =>
          clear HK
          obtain ⟨j, bad, hj, rfl, rfl, HBad, HN, HK⟩ := hrel
          by_cases hjl : j < es.length
          · have t2 : decide ((j : Int) < es.length) = true := decide_eq_true (by omega)
            obtain ⟨en, hek⟩ : ∃ en, es[j]? = some en := ⟨_, List.getElem?_eq_getElem hjl⟩
            have hge := HG.out en (List.mem_of_getElem? hek)
            obtain ⟨b, off, rfl, hmm⟩ := HM.out j en hek
            obtain ⟨m0, m1⟩ := hmm wr HK.out
            have hnm := fun W => RName_any en.name hge.name.1 (Nat.le_trans hge.name.2 (by decide)) W
            by_cases hb : nameB en.name = true
            · rw [hb] at hnm
              have HN' : Hid (∀ (i : Nat) (e : EntL), es[i]? = some e → i < j + 1 → nameB e.name = true) := fun i e he hi => by
                by_cases hik : i = j
                · subst hik
                  rw [hek] at he
                  injection he with he
                  subst he
                  exact hb
                · exact HN.out i e he (by omega)
              clear HN hb
              rcases Nat.eq_zero_or_pos j with hj0 | hj0
              · subst hj0
                have hz : decide ((0 : Int) < ((0 : Nat) : Int)) = false := rfl
                have HB0 : Hid (bad = if ascK es (0 + 1) = false then 33 else 0) := HBad.out
                clear hmm m0 hge HBad
                have HEN : Hid (es[0]? = some en) := hek
                clear hek
                generalize strOfNums en.name = SB at *
                go_wp2_with (go_at_call 24; refine (hnm _).mono ?_; rintro e w1 ⟨rfl, hw1⟩; subst w1)
                go_quiet (fail)
                go_wp2
                go_roundw
                case rel => exact ⟨0 + 1, bad, by omega, by go_num, rfl, HB0, HN', HK.out.drewN _⟩
                case measure => simp [intOf]; omega
              · obtain ⟨m, rfl⟩ : ∃ m, j = m + 1 := ⟨j - 1, by omega⟩
                obtain ⟨e0, he0⟩ : ∃ e, es[m]? = some e := ⟨_, List.getElem?_eq_getElem (by omega)⟩
                obtain ⟨b', off', hbb, hm0⟩ := HM.out m e0 he0
                obtain ⟨rfl, rfl⟩ : b = b' ∧ off = off' := by simpa using hbb
                have hg0 := HG.out e0 (List.mem_of_getElem? he0)
                have hij : IntKind.i64.wrap (((m + 1 : Nat) : Int) - 1) = (m : Int) := by rw [IntKind.wrap_i64]; omega
                have hpos : decide ((0 : Int) < ((m + 1 : Nat) : Int)) = true := decide_eq_true (by omega)
                have HAs : Hid (ascK es (m + 1 + 1) = (ascK es (m + 1) && decide (cmpZ e0.name en.name < 0))) := by
                  show _ = _
                  rw [ascK_succ es (m + 1) (by omega), Nat.add_sub_cancel, nameAt_some he0, nameAt_some hek, lessB_cmpZ _ _ hg0.name.1 hge.name.1]
                have HS : Hid (∀ W, Kept [] wr W → W.cell? ⟨b, off + m * 34 + 1, none⟩ = some (.string (strOfNums e0.name)) ∧ W.cell? ⟨b, off + (m + 1) * 34 + 1, none⟩ = some (.string (strOfNums en.name))) := fun W k => ⟨(hm0 W (HK.out.then k)).2, (hmm W (HK.out.then k)).2⟩
                have kd : Kept [] wr wr.drew := (Kept.refl [] wr).drew
                obtain ⟨ca1, wa1, va1, bA1, ka1, _⟩ := conv_txt wr.drew e0.name hg0.name.1
                obtain ⟨ca2, wa2, va2, bA2, ka2, _⟩ := conv_txt wa1 en.name hge.name.1
                obtain ⟨cb1, wb1, vb1, bB1, kb1, _⟩ := conv_txt wr.drew en.name hge.name.1
                obtain ⟨cb2, wb2, vb2, bB2, kb2, _⟩ := conv_txt wb1 e0.name hg0.name.1
                have hds : wr.drew.heap.size = wr.heap.size := rfl
                rw [hds] at va1 bA1 vb1 bB1
                clear hds
                have hcA := CmpZ_any (BytesAt.keep bA1 ka2 (fun _ _ _ => by simp)) bA2 (Nat.le_trans hg0.name.2 (by decide)) (Nat.le_trans hge.name.2 (by decide))
                have hcB := CmpZ_any bB2 (BytesAt.keep bB1 kb2 (fun _ _ _ => by simp)) (Nat.le_trans hg0.name.2 (by decide)) (Nat.le_trans hge.name.2 (by decide))
                have HKA : Hid (Kept [] wr wa2) := (kd.then ka1).then ka2
                have HKB : Hid (Kept [] wr wb2) := (kd.then kb1).then kb2
                have HS0 : Hid _ := HS.out wr.drew kd
                have HS1 : Hid _ := HS.out wa1 (kd.then ka1)
                have HS2 : Hid _ := HS.out wa2 HKA.out
                have HS3 : Hid _ := HS.out wb1 (kd.then kb1)
                have HS4 : Hid _ := HS.out wb2 HKB.out
                have HS5 : Hid (∀ n, _) := fun n => HS.out (wa2.drewN n) (HKA.out.drewN n)
                have HS6 : Hid (∀ n, _) := fun n => HS.out (wb2.drewN n) (HKB.out.drewN n)
                obtain ⟨cz, hcz⟩ : ∃ cz, cz = cmpZ e0.name en.name := ⟨_, rfl⟩
                rw [← hcz] at hcA hcB HAs
                clear hcz bA1 bA2 bB1 bB2 ka1 ka2 kb1 kb2 kd HS hm0 hmm m0 he0 hek hbb
                generalize e0.name.length = n0 at *
                generalize en.name.length = n1 at *
                generalize strOfNums e0.name = SA at *
                generalize strOfNums en.name = SB at *
                clear hge hg0
                have hij2 : IntKind.i64.wrap (m : Int) = (m : Int) := by rw [IntKind.wrap_i64]; omega
                have hij3 : IntKind.i64.wrap ((m : Int) + 1 - 1) = (m : Int) := by rw [IntKind.wrap_i64]; omega
                have i1 : m < es.length := by omega
                have i2 : (m : Int) < (es.length : Int) := by omega
                have i3 : (0 : Int) ≤ (m : Int) := by omega
                have i4 : m + 1 < es.length := by omega
                have i5 : ((m + 1 : Nat) : Int) < (es.length : Int) := by omega
                have i6 : (0 : Int) ≤ ((m + 1 : Nat) : Int) := by omega
                have i7 : (m : Int) + 1 < (es.length : Int) := by omega
                by_cases hcz : cz < 0
                · have t4 : decide (0 ≤ cz) = false := decide_eq_false (by omega)
                  have t5 : ¬ 0 ≤ cz := by omega
                  have HB' : Hid (bad = if ascK es (m + 1 + 1) = false then 33 else 0) := by
                    show _ = _
                    rw [HAs.out, decide_eq_true hcz, Bool.and_true]
                    exact HBad.out
                  clear HBad HAs
                  go_wp2_with (go_at_call 24; refine (hnm _).mono ?_; rintro e w1 ⟨rfl, hw1⟩; subst w1)
                  go_region_held (fun W => W.cell? ⟨b, off + m * 34 + 1, none⟩ = some (.string SA) ∧ W.cell? ⟨b, off + (m + 1) * 34 + 1, none⟩ = some (.string SB)) (first | exact HS0.out | exact HS1.out | exact HS2.out | exact HS3.out | exact HS4.out | exact HS5.out _ | exact HS6.out _)
                    (first
                      | (go_at_call 36; (with_reducible refine hcA.mono ?_); rintro e w3 ⟨rfl, n3, rfl⟩)
                      | (go_at_call 36; (with_reducible refine hcB.mono ?_); rintro e w3 ⟨rfl, n3, rfl⟩))
                  all_goals go_wp2
                  all_goals go_roundw
                  all_goals first
                    | exact ⟨m + 1 + 1, bad, by omega, by go_num, rfl, HB', HN', HK.out.then (HKA.out.drewN _)⟩
                    | exact ⟨m + 1 + 1, bad, by omega, by go_num, rfl, HB', HN', HK.out.then (HKB.out.drewN _)⟩
                    | (simp [intOf]; omega)
                · have t4 : decide (0 ≤ cz) = true := decide_eq_true (by omega)
                  have t5 : 0 ≤ cz := by omega
                  have HB' : Hid ((33 : Int) = if ascK es (m + 1 + 1) = false then 33 else 0) := by
                    show _ = _
                    rw [HAs.out, decide_eq_false hcz, Bool.and_false, if_pos rfl]
                  clear HBad HAs
                  go_wp2_with (go_at_call 24; refine (hnm _).mono ?_; rintro e w1 ⟨rfl, hw1⟩; subst w1)
                  go_region_held (fun W => W.cell? ⟨b, off + m * 34 + 1, none⟩ = some (.string SA) ∧ W.cell? ⟨b, off + (m + 1) * 34 + 1, none⟩ = some (.string SB)) (first | exact HS0.out | exact HS1.out | exact HS2.out | exact HS3.out | exact HS4.out | exact HS5.out _ | exact HS6.out _)
                    (first
                      | (go_at_call 36; (with_reducible refine hcA.mono ?_); rintro e w3 ⟨rfl, n3, rfl⟩)
                      | (go_at_call 36; (with_reducible refine hcB.mono ?_); rintro e w3 ⟨rfl, n3, rfl⟩))
                  all_goals go_wp2
                  all_goals go_roundw
                  all_goals first
                    | exact ⟨m + 1 + 1, 33, by omega, by go_num, rfl, HB', HN', HK.out.then (HKA.out.drewN _)⟩
                    | exact ⟨m + 1 + 1, 33, by omega, by go_num, rfl, HB', HN', HK.out.then (HKB.out.drewN _)⟩
                    | (simp [intOf]; omega)
            · have hbf : nameB en.name = false := by simpa using hb
              rw [hbf] at hnm
              have HR2 : Hid (faultT es = 32) := by
                have h := HS.out
                rw [if_pos (not_all hek hbf)] at h
                exact h
              clear hmm hge hek HS HBad
              generalize strOfNums en.name = SB at *
              go_wp2_with (go_at_call 24; refine (hnm _).mono ?_; rintro e w1 ⟨rfl, hw1⟩; subst w1)
              go_ret
              exact ⟨by rw [HR2.out]; rfl, HK.out⟩
          · obtain rfl : j = es.length := by omega
            have t2 : decide ((es.length : Int) < es.length) = false := decide_eq_false (by omega)
            have HR2 : Hid (faultT es = bad) := by
              have h := HS.out
              rw [if_neg (by rw [all_of fun i e he hi => HN.out i e he (by omega)]; simp)] at h
              rw [h, HBad.out]
              exact rfl
            clear HN HS HBad
            go_wp2
            go_ret
            exact ⟨by rw [HR2.out]; rfl, HK.out⟩
end Go.Proofs.YtfcoeinhfdbcgaaGreatDoor

namespace Go.Proofs.YtfcoeinhfdbcgaaGreatDoor
open Go.RowKit

set_option maxRecDepth 100000 in
set_option maxHeartbeats 2000000 in
theorem R3wrongTree_any (o : ObjL) (w : World) (h2 : o.kind = 2) (hc : o.com.tree.length = 32) (hv : EntsAt w o.ev o.es) (hg : ∀ e, e ∈ o.es → e.Good) :
    Calls Tryz.prog 34 #[.agg o.row.toArray] w fun e w' => e = .returned (.int .i64 (faultT o.es)) ∧ Kept [] w w' := by
  have hB := heap_alloc_new w (.cells o.row.toArray 37)
  obtain ⟨c0, _, c2, _, _⟩ := obj_cells hc hB
  rw [h2] at c0
  have hk : Kept [] w (w.alloc (.cells o.row.toArray 37)) := (Kept.refl _ _).alloc _
  have hcall := R3tree_any o.ev o.es _ (hv.keep hk (fun _ _ _ => by simp)) hg
  have HK : Hid (Kept [] w (w.alloc (.cells o.row.toArray 37))) := hk
  clear hv hg hB hk h2
  generalize o.row.toArray = row at *
  generalize o.ev = cr at *
  generalize faultT o.es = fc at *
  go_enter Tryz.func34, Tryz.ntmps34
  go_wp2_with fail
  go_at_call 53
  refine hcall.mono ?_
  rintro e w1 ⟨rfl, k1⟩
  have HK1 : Hid (Kept [] w w1) := HK.out.then k1
  clear hcall k1
  go_wp2
  go_ret
  exact ⟨rfl, HK1.out⟩

theorem R3Wrong_any (o : ObjL) (w : World) (hg : ObjL.Good w o) :
    Calls Tryz.prog 34 #[.agg o.row.toArray] w fun e w' => e = .returned (.int .i64 (faultO o)) ∧ Kept [] w w' := by
  have hc := hg.com.tree.1
  by_cases k2 : o.kind = 2
  · have ef : faultO o = faultT o.es := by unfold faultO; rw [if_neg (by omega), if_pos k2]
    rw [ef]
    exact R3wrongTree_any o w k2 hc hg.ev hg.es
  · by_cases k3 : o.kind = 3
    · have ef : faultO o = faultC o.com := by unfold faultO; rw [if_neg (by omega), if_neg k2, if_pos k3]
      rw [ef]
      exact R3wrongCom_any o w k3 hg.com hg.pv
    · by_cases k4 : o.kind = 4
      · have ef : faultO o = faultG o.tag := by unfold faultO; rw [if_neg (by omega), if_neg k2, if_neg k3, if_pos k4]
        rw [ef]
        exact R3wrongTag_any o w k4 hc hg.tag
      · have ef : faultO o = if o.kind = 1 then 0 else 30 := by unfold faultO; rw [if_neg k2, if_neg k3, if_neg k4]
        rw [ef]
        exact R3wrongRest_any o w hc k2 k3 k4
theorem R3lay_any (o : ObjL) (w : World) (hg : ObjL.Good w o) (hf : faultO o = 0) :
    Calls Tryz.prog 35 #[.agg o.row.toArray] w fun e w' => ∃ v, e = .returned v ∧ OwnB w' w.heap.size v (encO o) ∧ Kept [] w w' := by
  have hc := hg.com.tree.1
  by_cases k1 : o.kind = 1
  · have ee : encO o = fixedB 1 1 ++ o.blob := by unfold encO; rw [if_pos k1]; rfl
    rw [ee]
    exact R3layBlob_any o w k1 hc hg.bv hg.blob.2
  · by_cases k2 : o.kind = 2
    · have ee : encO o = encT o.es := by unfold encO; rw [if_neg k1, if_pos k2]
      have ef : faultO o = faultT o.es := by unfold faultO; rw [if_neg k1, if_pos k2]
      rw [ef] at hf
      obtain ⟨hm, hok⟩ := faultT_zero hf
      rw [ee]
      exact R3layTree_any o w k2 hc hg.ev hg.es hm hok
    · by_cases k3 : o.kind = 3
      · have ee : encO o = encC o.com := by unfold encO; rw [if_neg k1, if_neg k2, if_pos k3]
        have ef : faultO o = faultC o.com := by unfold faultO; rw [if_neg k1, if_neg k2, if_pos k3]
        rw [ef] at hf
        obtain ⟨h8, hw, hx⟩ := faultC_zero hf
        rw [ee]
        exact R3layCom_any o w k3 hg.com hg.pv h8 (by omega)
      · by_cases k4 : o.kind = 4
        · have ee : encO o = encG o.tag := by unfold encO; rw [if_neg k1, if_neg k2, if_neg k3, if_pos k4]
          have ef : faultO o = faultG o.tag := by unfold faultO; rw [if_neg k1, if_neg k2, if_neg k3, if_pos k4]
          rw [ef] at hf
          obtain ⟨g0, g1, hn, hw, hx⟩ := faultG_zero hf
          rw [ee]
          exact R3layTag_any o w k4 hc hg.tag g0 g1 (by omega)
        · unfold faultO at hf
          rw [if_neg k1, if_neg k2, if_neg k3, if_neg k4] at hf
          exact absurd hf (by decide)
theorem R3Enc_any (o : ObjL) (w : World) (hg : ObjL.Good w o) :
    Calls Tryz.prog 15 #[.agg o.row.toArray] w fun e w' => ∃ v, e = .returned (.tuple #[v, .int .i64 (errO o)]) ∧ BytesAt w' v (if errO o = 0 then encO o else []) ∧ Kept [] w w' :=
  R3Encode_any o.row.toArray w (faultO o) (encO o) (by rw [List.size_toArray, objL_len hg.com.tree.1 hg.tag.target.1]; kernel_rfl) (fun W k => R3Wrong_any o W (hg.kept k)) (fun hf W k => R3lay_any o W (hg.kept k) hf)
end Go.Proofs.YtfcoeinhfdbcgaaGreatDoor

namespace Go.Proofs.YtfcoeinhfdbcgaaGreatDoor
open Go.RowKit

set_option maxRecDepth 100000 in
set_option maxHeartbeats 2000000 in
theorem objectOfCom (c : ComL) (pv : Value) (w : World) (hl : c.tree.length = 32) (hpo : (comO c pv).row.toArray.all (·.oneCell') = true) (hp1 : (c.row pv).toArray.all (·.oneCell') = true) :
    Calls Tryz.prog 30 #[.iface 90 (.agg (c.row pv).toArray)] w fun e w' => e = .returned (.agg (comO c pv).row.toArray) ∧ Kept [] w w' := by
  have hbl := built_comO c pv hl
  have hsz : (c.row pv).toArray.size = 36 := com_len c pv hl
  have hsi : (Tryz.prog.info? 90).map (·.size) = some (c.row pv).toArray.size := by rw [hsz]; kernel_rfl
  have hoz : (comO c pv).row.toArray.size = 76 := obj_len _ hl rfl
  have hos : (Tryz.prog.info? 37).map (·.size) = some (comO c pv).row.toArray.size := by rw [hoz]; kernel_rfl
  have HZ : Hid ((w.alloc (.cells Tryz.zeroCells37 37)).heap[w.heap.size]? = some (.cells Tryz.zeroCells37 37 (0, 0))) := heap_alloc_new w _
  have hzz : Tryz.zeroCells37.size = (comO c pv).row.toArray.size := by rw [hoz]; kernel_rfl
  have HZ2 : Hid (((w.alloc (.cells Tryz.zeroCells37 37)).alloc (.cells (c.row pv).toArray 90)).heap[w.heap.size]? = some (.cells Tryz.zeroCells37 37 (0, 0))) := (Below.heap_alloc _ _ _ (by rw [World.size_alloc]; omega)).trans HZ.out
  have HC2 : Hid (((w.alloc (.cells Tryz.zeroCells37 37)).alloc (.cells (c.row pv).toArray 90)).heap[w.heap.size + 1]? = some (.cells (c.row pv).toArray 90 (0, 0))) := by
    have h := heap_alloc_new (w.alloc (.cells Tryz.zeroCells37 37)) (.cells (c.row pv).toArray 90)
    rw [World.size_alloc] at h
    exact h
  have HKF : Hid (Kept [] w (((w.alloc (.cells Tryz.zeroCells37 37)).alloc (.cells (c.row pv).toArray 90)).setRow w.heap.size (comO c pv).row.toArray)) := kept_setRow (((Kept.refl [] w).alloc _).alloc _) (Nat.le_refl _) _
  have hin : (w.alloc (.cells Tryz.zeroCells37 37)).heap.size = w.heap.size + 1 := World.size_alloc _ _
  have HOR : Hid (∃ x, x = (comO c pv).row.toArray) := ⟨_, rfl⟩
  generalize (c.row pv).toArray = cr at *
  generalize hob : (comO c pv).row.toArray = orr at *
  clear hob HOR
  have ta1 : ∀ W, (Instr.typeAssert (.iface 90 (.agg cr)) 67 88 true).run Tryz.prog W = .ok (.tuple #[.slice none 0 0, .bool false]) W := fun W => by kernel_rfl
  have ta2 : ∀ W, (Instr.typeAssert (.iface 90 (.agg cr)) 67 89 true).run Tryz.prog W = .ok (.tuple #[.slice none 0 0, .bool false]) W := fun W => by kernel_rfl
  have ta3 : ∀ W, (Instr.typeAssert (.iface 90 (.agg cr)) 67 90 true).run Tryz.prog W = .ok (.tuple #[.agg cr, .bool true]) W := fun W => by kernel_rfl
  go_enter Tryz.func30, Tryz.ntmps30
  go_wp2_with (first
    | (refine wpList_store_new (by rfl) 90 (.tmp 5) (.tmp 20) (by rfl) (w.alloc (.cells Tryz.zeroCells37 37)) _ cr (by simp [hin]; rfl) (by rfl) hsi (by rw [hsz]; rfl) hp1 ?_)
    | (refine wpList_load_row (by rfl) 90 (.tmp 5) (by rfl) (w.heap.size + 1) (by rfl) 90 cr (0, 0) _ HC2.out Tryz.underlying90 rfl hsi ?_)
    | (refine wpList_build_some (by rfl) 37 _ (by rfl) orr (by simp; exact hbl) ?_)
    | (refine wpList_store_row (by rfl) 37 (.tmp 2) (.tmp 22) (by rfl) w.heap.size orr (by rfl) (by rfl) 37 _ HZ2.out hos hzz hpo ?_))
  refine bodyPost_ret (v := .agg orr) ?_ rfl ⟨rfl, HKF.out⟩
  rw [results_cell1 rfl]
  have hld := run_loadVar_row (P := Tryz.prog) (((w.alloc (.cells Tryz.zeroCells37 37)).alloc (.cells cr 90)).setRow w.heap.size orr) w.heap.size 37 37 orr (0, 0) _ (setRow_heap _ _ _ _ _ _ HZ2.out) Tryz.underlying37 rfl hos
  exact hld

set_option maxRecDepth 100000 in
set_option maxHeartbeats 2000000 in
theorem objectOfTag (t : TagL) (w : World) (hl : t.target.length = 32) (hpo : (tagO t).row.toArray.all (·.oneCell') = true) (hp1 : t.row.toArray.all (·.oneCell') = true) :
    Calls Tryz.prog 30 #[.iface 91 (.agg t.row.toArray)] w fun e w' => e = .returned (.agg (tagO t).row.toArray) ∧ Kept [] w w' := by
  have hbl := built_tagO t hl
  have hsz : t.row.toArray.size = 37 := tag_len t hl
  have hsi : (Tryz.prog.info? 91).map (·.size) = some t.row.toArray.size := by rw [hsz]; kernel_rfl
  have hoz : (tagO t).row.toArray.size = 76 := obj_len _ rfl hl
  have hos : (Tryz.prog.info? 37).map (·.size) = some (tagO t).row.toArray.size := by rw [hoz]; kernel_rfl
  have HZ : Hid ((w.alloc (.cells Tryz.zeroCells37 37)).heap[w.heap.size]? = some (.cells Tryz.zeroCells37 37 (0, 0))) := heap_alloc_new w _
  have hzz : Tryz.zeroCells37.size = (tagO t).row.toArray.size := by rw [hoz]; kernel_rfl
  have HZ2 : Hid (((w.alloc (.cells Tryz.zeroCells37 37)).alloc (.cells t.row.toArray 91)).heap[w.heap.size]? = some (.cells Tryz.zeroCells37 37 (0, 0))) := (Below.heap_alloc _ _ _ (by rw [World.size_alloc]; omega)).trans HZ.out
  have HC2 : Hid (((w.alloc (.cells Tryz.zeroCells37 37)).alloc (.cells t.row.toArray 91)).heap[w.heap.size + 1]? = some (.cells t.row.toArray 91 (0, 0))) := by
    have h := heap_alloc_new (w.alloc (.cells Tryz.zeroCells37 37)) (.cells t.row.toArray 91)
    rw [World.size_alloc] at h
    exact h
  have HKF : Hid (Kept [] w (((w.alloc (.cells Tryz.zeroCells37 37)).alloc (.cells t.row.toArray 91)).setRow w.heap.size (tagO t).row.toArray)) := kept_setRow (((Kept.refl [] w).alloc _).alloc _) (Nat.le_refl _) _
  have hin : (w.alloc (.cells Tryz.zeroCells37 37)).heap.size = w.heap.size + 1 := World.size_alloc _ _
  have HOR : Hid (∃ x, x = (tagO t).row.toArray) := ⟨_, rfl⟩
  generalize t.row.toArray = cr at *
  generalize hob : (tagO t).row.toArray = orr at *
  clear hob HOR
  have ta1 : ∀ W, (Instr.typeAssert (.iface 91 (.agg cr)) 67 88 true).run Tryz.prog W = .ok (.tuple #[.slice none 0 0, .bool false]) W := fun W => by kernel_rfl
  have ta2 : ∀ W, (Instr.typeAssert (.iface 91 (.agg cr)) 67 89 true).run Tryz.prog W = .ok (.tuple #[.slice none 0 0, .bool false]) W := fun W => by kernel_rfl
  have ta3 : ∀ W, (Instr.typeAssert (.iface 91 (.agg cr)) 67 90 true).run Tryz.prog W = .ok (.tuple #[.agg (zeroC.row (.slice none 0 0)).toArray, .bool false]) W := fun W => by kernel_rfl
  have ta4 : ∀ W, (Instr.typeAssert (.iface 91 (.agg cr)) 67 91 true).run Tryz.prog W = .ok (.tuple #[.agg cr, .bool true]) W := fun W => by kernel_rfl
  generalize (zeroC.row (.slice none 0 0)).toArray = zcr at *
  go_enter Tryz.func30, Tryz.ntmps30
  go_wp2_with (first
    | (refine wpList_store_new (by rfl) 91 (.tmp 6) (.tmp 25) (by rfl) (w.alloc (.cells Tryz.zeroCells37 37)) _ cr (by simp [hin]; rfl) (by rfl) hsi (by rw [hsz]; rfl) hp1 ?_)
    | (refine wpList_load_row (by rfl) 91 (.tmp 6) (by rfl) (w.heap.size + 1) (by rfl) 91 cr (0, 0) _ HC2.out Tryz.underlying91 rfl hsi ?_)
    | (refine wpList_build_some (by rfl) 37 _ (by rfl) orr (by simp; exact hbl) ?_)
    | (refine wpList_store_row (by rfl) 37 (.tmp 2) (.tmp 27) (by rfl) w.heap.size orr (by rfl) (by rfl) 37 _ HZ2.out hos hzz hpo ?_))
  refine bodyPost_ret (v := .agg orr) ?_ rfl ⟨rfl, HKF.out⟩
  rw [results_cell1 rfl]
  have hld := run_loadVar_row (P := Tryz.prog) (((w.alloc (.cells Tryz.zeroCells37 37)).alloc (.cells cr 91)).setRow w.heap.size orr) w.heap.size 37 37 orr (0, 0) _ (setRow_heap _ _ _ _ _ _ HZ2.out) Tryz.underlying37 rfl hos
  exact hld
end Go.Proofs.YtfcoeinhfdbcgaaGreatDoor

namespace Go.Proofs.YtfcoeinhfdbcgaaGreatDoor
open Go.RowKit

theorem comO_one (c : ComL) (pv : Value) (hp : pv.oneCell' = true) : (comO c pv).row.toArray.all (·.oneCell') = true := all_oneCell_toArray fun v hv => by
  unfold ObjL.row at hv
  rcases List.mem_append.1 hv with h | h
  · simp [comO, zeroO] at h
    rcases h with rfl | rfl <;> rfl
  · rcases List.mem_append.1 h with h | h
    · exact Array.all_eq_true_iff_forall_mem.1 (com_one c pv hp) v (by rw [List.mem_toArray]; exact h)
    · exact Array.all_eq_true_iff_forall_mem.1 (tag_one zeroG) v (by rw [List.mem_toArray]; exact h)
theorem tagO_one (t : TagL) : (tagO t).row.toArray.all (·.oneCell') = true := all_oneCell_toArray fun v hv => by
  unfold ObjL.row at hv
  rcases List.mem_append.1 hv with h | h
  · simp [tagO, zeroO] at h
    rcases h with rfl | rfl <;> rfl
  · rcases List.mem_append.1 h with h | h
    · exact Array.all_eq_true_iff_forall_mem.1 (com_one zeroC (.slice none 0 0) rfl) v (by rw [List.mem_toArray]; exact h)
    · exact Array.all_eq_true_iff_forall_mem.1 (tag_one t) v (by rw [List.mem_toArray]; exact h)

set_option maxRecDepth 100000 in
set_option maxHeartbeats 2000000 in
theorem parseCom (v : Value) (w : World) (c : ComL) (n : Nat) (hf : ∃ ao n c, v = .slice ao n c) (hl : c.tree.length = 32)
    (hrd : ∀ W, Kept [] w W → Calls Tryz.prog 29 #[v] W fun e w' => Kept [] W w' ∧ ∃ b, e = .returned (.tuple #[.iface 90 (.agg (c.row (.slice (some ⟨b, 0, none⟩) n n)).toArray), .int .i64 0]) ∧ RowsIn w' b 29 (c.parents.map idRow) ∧ W.heap.size ≤ b) :
    Calls Tryz.prog 9 #[v] w fun e w' => Kept [] w w' ∧ ∃ b, e = .returned (.tuple #[.agg (comO c (.slice (some ⟨b, 0, none⟩) n n)).row.toArray, .int .i64 0]) ∧ RowsIn w' b 29 (c.parents.map idRow) ∧ w.heap.size < b := by
  have HK0 : Hid (Kept [] w (w.alloc (.cells Tryz.zeroCells37 37))) := (Kept.refl _ _).alloc _
  have HZ : Hid ((w.alloc (.cells Tryz.zeroCells37 37)).heap[w.heap.size]? = some (.cells Tryz.zeroCells37 37 (0, 0))) := heap_alloc_new w _
  have hsw : (w.alloc (.cells Tryz.zeroCells37 37)).heap.size = w.heap.size + 1 := World.size_alloc _ _
  have hrd0 := hrd _ HK0.out
  have HOB : Hid (∀ W b, Calls Tryz.prog 30 #[.iface 90 (.agg (c.row (.slice (some ⟨b, 0, none⟩) n n)).toArray)] W fun e w' => e = .returned (.agg (comO c (.slice (some ⟨b, 0, none⟩) n n)).row.toArray) ∧ Kept [] W w') := fun W b => objectOfCom c _ W hl (comO_one c _ rfl) (com_one c _ rfl)
  have HOZ : Hid (∀ b, (comO c (.slice (some ⟨b, 0, none⟩) n n)).row.toArray.size = 76) := fun b => obj_len _ hl rfl
  have HO1 : Hid (∀ b, (comO c (.slice (some ⟨b, 0, none⟩) n n)).row.toArray.all (·.oneCell') = true) := fun b => comO_one c _ rfl
  obtain ⟨ao, m, cc, rfl⟩ := hf
  clear hrd
  go_enter Tryz.func9, Tryz.ntmps9
  go_wp2_with (first
    | (go_at_call 29; refine hrd0.mono ?_; rintro e w1 ⟨hk1, b1, rfl, hr1, hb1⟩
       have HK1 : Hid (Kept [] w w1) := HK0.out.then hk1
       have HZ1 : Hid (w1.heap[w.heap.size]? = some (.cells Tryz.zeroCells37 37 (0, 0))) := hk1.heap HZ.out (by simp)
       have HR1 : Hid (RowsIn w1 b1 29 (c.parents.map idRow)) := hr1
       have hoz := HOZ.out b1
       have ho1 := HO1.out b1
       have hos : (Tryz.prog.info? 37).map (·.size) = some (comO c (.slice (some ⟨b1, 0, none⟩) n n)).row.toArray.size := by rw [hoz]; kernel_rfl
       have hzz : Tryz.zeroCells37.size = (comO c (.slice (some ⟨b1, 0, none⟩) n n)).row.toArray.size := by rw [hoz]; kernel_rfl
       have hcall := fun W => HOB.out W b1
       clear hr1 hk1 hoz
       generalize hob : (comO c (.slice (some ⟨b1, 0, none⟩) n n)).row.toArray = orr at *
       generalize (c.row (.slice (some ⟨b1, 0, none⟩) n n)).toArray = cr at *)
    | (go_at_call 30; refine (hcall _).mono ?_; rintro e w2 ⟨rfl, hk2⟩
       have HK2 : Hid (Kept [] w w2) := HK1.out.then hk2
       have HZ2 : Hid (w2.heap[w.heap.size]? = some (.cells Tryz.zeroCells37 37 (0, 0))) := hk2.heap HZ1.out (by simp)
       have HR2 : Hid (RowsIn w2 b1 29 (c.parents.map idRow)) := HR1.out.kept hk2 (by simp)
       clear hk2)
    | (refine wpList_store_row (by rfl) 37 (.tmp 2) (.tmp 16) (by rfl) w.heap.size orr (by rfl) (by rfl) 37 _ HZ2.out hos hzz ho1 ?_))
  rw [hsw] at hb1
  refine bodyPost_ret (v := .tuple #[.agg orr, .int .i64 0]) ?_ rfl ⟨kept_setRow HK2.out (Nat.le_refl _) _, b1, by rw [hob], (setRow_other _ _ _ _ (by omega)).trans HR2.out, by omega⟩
  rw [results_cell_tmp rfl]
  have hld := run_loadVar_row (P := Tryz.prog) (w2.setRow w.heap.size orr) w.heap.size 37 37 orr (0, 0) _ (setRow_heap _ _ _ _ _ _ HZ2.out) Tryz.underlying37 rfl hos
  simp [asAddr, Result.andThen, hld]

set_option maxRecDepth 100000 in
set_option maxHeartbeats 2000000 in
theorem parseTag (v : Value) (w : World) (t : TagL) (hf : ∃ ao n c, v = .slice ao n c) (hl : t.target.length = 32)
    (hrd : ∀ W, Kept [] w W → Calls Tryz.prog 29 #[v] W fun e w' => Kept [] W w' ∧ e = .returned (.tuple #[.iface 91 (.agg t.row.toArray), .int .i64 0])) :
    Calls Tryz.prog 9 #[v] w fun e w' => Kept [] w w' ∧ e = .returned (.tuple #[.agg (tagO t).row.toArray, .int .i64 0]) := by
  have HK0 : Hid (Kept [] w (w.alloc (.cells Tryz.zeroCells37 37))) := (Kept.refl _ _).alloc _
  have HZ : Hid ((w.alloc (.cells Tryz.zeroCells37 37)).heap[w.heap.size]? = some (.cells Tryz.zeroCells37 37 (0, 0))) := heap_alloc_new w _
  have hrd0 := hrd _ HK0.out
  have hoz : (tagO t).row.toArray.size = 76 := obj_len _ rfl hl
  have ho1 := tagO_one t
  have hos : (Tryz.prog.info? 37).map (·.size) = some (tagO t).row.toArray.size := by rw [hoz]; kernel_rfl
  have hzz : Tryz.zeroCells37.size = (tagO t).row.toArray.size := by rw [hoz]; kernel_rfl
  have hcall := fun W => objectOfTag t W hl (tagO_one t) (tag_one t)
  obtain ⟨ao, m, cc, rfl⟩ := hf
  clear hrd hoz
  generalize (tagO t).row.toArray = orr at *
  generalize t.row.toArray = cr at *
  go_enter Tryz.func9, Tryz.ntmps9
  go_wp2_with (first
    | (go_at_call 29; refine hrd0.mono ?_; rintro e w1 ⟨hk1, rfl⟩
       have HK1 : Hid (Kept [] w w1) := HK0.out.then hk1
       have HZ1 : Hid (w1.heap[w.heap.size]? = some (.cells Tryz.zeroCells37 37 (0, 0))) := hk1.heap HZ.out (by simp)
       clear hk1)
    | (go_at_call 30; refine (hcall _).mono ?_; rintro e w2 ⟨rfl, hk2⟩
       have HK2 : Hid (Kept [] w w2) := HK1.out.then hk2
       have HZ2 : Hid (w2.heap[w.heap.size]? = some (.cells Tryz.zeroCells37 37 (0, 0))) := hk2.heap HZ1.out (by simp)
       clear hk2)
    | (refine wpList_store_row (by rfl) 37 (.tmp 2) (.tmp 16) (by rfl) w.heap.size orr (by rfl) (by rfl) 37 _ HZ2.out hos hzz ho1 ?_))
  refine bodyPost_ret (v := .tuple #[.agg orr, .int .i64 0]) ?_ rfl ⟨kept_setRow HK2.out (Nat.le_refl _) _, rfl⟩
  rw [results_cell_tmp rfl]
  have hld := run_loadVar_row (P := Tryz.prog) (w2.setRow w.heap.size orr) w.heap.size 37 37 orr (0, 0) _ (setRow_heap _ _ _ _ _ _ HZ2.out) Tryz.underlying37 rfl hos
  simp [asAddr, Result.andThen, hld]
end Go.Proofs.YtfcoeinhfdbcgaaGreatDoor
