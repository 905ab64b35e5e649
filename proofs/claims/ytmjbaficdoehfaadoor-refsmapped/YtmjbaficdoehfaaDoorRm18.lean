/-
  WALK: satchellaw14.RefsMapped.
-/
import Derived.Test.YtmjbaficdoehfaaDoorRm17
import Derived.Test.YtmjbaficdoehfaaDoorRm8
import Derived.Test.YtmjbaficdoehfaaDoorRm13
import Derived.Test.YtmjbaficdoehfaaDoorRn7
namespace Go.Proofs.YtmjbaficdoehfaaDoor
open Go.RowKit

theorem MaxW.on {w w' : World} (h : MaxW w) (k : Kept [] w w') : MaxW w' := h.kept k
set_option maxRecDepth 100000 in
set_option maxHeartbeats 8000000 in
theorem mapped_any (rv nv : Value) (rs : List RuleL) (L : List (List Int)) (w : World) (hr : RulesAt w rv rs) (hn : StrsAt w nv L) (hg : ∀ r, r ∈ rs → r.Good) (ho : ∀ p, p ∈ L → Octs p ∧ p.length ≤ 140737488351232) (hT : Tabs w) (hM : MaxW w) :
    Calls Tryd.prog 5 #[.agg #[rv, nv]] w fun e w' => e = .returned (.bool true) ∧ Kept [] w w' := by
  obtain ⟨W0, hW0⟩ : ∃ W0, W0 = w.alloc (.cells #[rv, nv] 25) := ⟨_, rfl⟩
  have k0 : Kept [] w W0 := by rw [hW0]; exact (Kept.refl _ _).alloc _
  have hfew := few_any rv nv rs L W0 (hr.kept k0) (hn.kept k0)
  have HB0 : Hid (W0.heap[w.heap.size]? = some (.cells #[rv, nv] 25 (0, 0))) := by
    have h : W0.heap[w.heap.size]? = some (.cells #[rv, nv] 25 (0, 0)) := by rw [hW0]; exact heap_alloc_new w _
    exact h
  have HW0 : Hid (W0 = w.alloc (.cells #[rv, nv] 25)) := hW0
  have HK0 : Hid (Kept [] w W0) := k0
  have HR : Hid (∀ W, Kept [] w W → RulesAt W rv rs) := fun W k => hr.kept k
  have HN : Hid (∀ W, Kept [] w W → StrsAt W nv L) := fun W k => hn.kept k
  have HG : Hid (∀ r, r ∈ rs.take 64 → r.Good) := fun r h => hg r (List.mem_of_mem_take h)
  have HO : Hid (∀ p, p ∈ L.take 200 → Octs p ∧ p.length ≤ 140737488351232) := fun p h => ho p (List.mem_of_mem_take h)
  have HT : Hid (Tabs w) := hT
  have HM : Hid (MaxW w) := hM
  have hun := Tryd.underlying25
  have hzs : (Tryd.prog.info? 25).map (·.size) = some 2 := by kernel_rfl
  have HLR : Hid ((rs.take 64).length ≤ 64) := by
    have h : (rs.take 64).length ≤ 64 := by rw [List.length_take]; omega
    exact h
  have HLL : Hid ((L.take 200).length ≤ 200) := by
    have h : (L.take 200).length ≤ 200 := by rw [List.length_take]; omega
    exact h
  obtain ⟨RS, hRS⟩ : ∃ RS, RS = rs.take 64 := ⟨_, rfl⟩
  obtain ⟨NS, hNS⟩ : ∃ NS, NS = L.take 200 := ⟨_, rfl⟩
  rw [← hRS] at HG HLR hfew
  rw [← hNS] at HO HLL hfew
  clear hr hn hg ho hT hM k0 hW0 hRS hNS
  go_enter Tryd.func5, Tryd.ntmps5
  go_wp2_with fail
  simp only [← HW0.out]
  go_wp2_with (first
    | (refine wpList_load_row (by rfl) 25 (.tmp 1) (by rfl) w.heap.size (by rfl) 25 _ (0, 0) _ HB0.out hun rfl hzs ?_))
  go_at_call 6
  refine hfew.mono ?_
  rintro e w1 ⟨rv', nv', rfl, hfr, hfn, k1⟩
  obtain ⟨ra, rc, rfl, _, _⟩ := (hfr w (HR.out w (Kept.refl _ _))).form
  obtain ⟨na, nc, rfl, _, _⟩ := hfn w (HN.out w (Kept.refl _ _))
  have hb1 : w1.heap[w.heap.size]? = some (.cells #[rv, nv] 25 (0, 0)) := k1.heap HB0.out (by simp)
  obtain ⟨w2, hw2⟩ : ∃ w2, w2 = w1.setRow w.heap.size #[(.slice ra RS.length rc), (.slice na NS.length nc)] := ⟨_, rfl⟩
  have hk2 : Kept [] w w2 := by rw [hw2]; exact kept_setRow (HK0.out.then k1) (Nat.le_refl _) _
  have hb2 : w2.heap[w.heap.size]? = some (.cells #[(.slice ra RS.length rc), (.slice na NS.length nc)] 25 (0, 0)) := by rw [hw2]; exact setRow_heap _ _ _ _ _ _ hb1
  have HB1 : Hid (w1.heap[w.heap.size]? = some (.cells #[rv, nv] 25 (0, 0))) := hb1
  have HW2 : Hid (w2 = w1.setRow w.heap.size #[(.slice ra RS.length rc), (.slice na NS.length nc)]) := hw2
  have HBX : Hid (∀ W, Kept [] w2 W → BxM W w.heap.size (.slice ra RS.length rc) (.slice na NS.length nc)) := fun W k => k.heap hb2 (by simp)
  have HRR : Hid (∀ W, Kept [] w2 W → RulesAt W (.slice ra RS.length rc) RS) := fun W k => (hfr w2 (HR.out w2 hk2)).kept k
  have HNN : Hid (∀ W, Kept [] w2 W → StrsAt W (.slice na NS.length nc) NS) := fun W k => (hfn w2 (HN.out w2 hk2)).kept k
  have HTT : Hid (∀ W, Kept [] w2 W → Tabs W) := fun W k => HT.out.kept (hk2.then k)
  have HMM : Hid (∀ W, Kept [] w2 W → MaxW W) := fun W k => HM.out.kept (hk2.then k)
  have HK2 : Hid (Kept [] w w2) := hk2
  have hrules := rules_any (.slice ra RS.length rc) RS w2 (HRR.out w2 (Kept.refl _ _)) (by have := HLR.out; omega)
  clear hfew hfr hfn hb1 hb2 hw2 hk2 k1 HR HN HT HM HB0 HW0 HK0
  go_wp2_with (first
    | (refine wpList_store_row (by rfl) 25 (.tmp 1) (.tmp 22) (by rfl) w.heap.size #[(.slice ra RS.length rc), (.slice na NS.length nc)] (by rfl) (by rfl) 25 _ HB1.out hzs (by rfl) (by kernel_rfl) ?_; rw [← HW2.out]; have cb0 := (HBX.out w2 (Kept.refl _ _)).c0; have cb1 := (HBX.out w2 (Kept.refl _ _)).c1))
  go_at_call 12
  refine hrules.mono ?_
  rintro e w3 ⟨ao, cap, rfl, hcap, hrl, k3⟩
  have HK3 : Hid (Kept [] w2 w3) := k3
  have HRL : Hid (∀ W, Kept [] w3 W → RulesAt W (.slice ao (RS.length + 1) cap) (RS ++ [markR])) := fun W k => hrl.kept k
  have HLV : Hid (∀ W, Kept [] w3 W → RulesAt W (.slice ao RS.length cap) RS) := fun W k => by
    have h := (hrl.kept k).take (m := RS.length) (by simp)
    rwa [List.take_left' rfl] at h
  clear hrules hrl k3 hcap
  go_wp2
  go_loopw [4] (fun s4 wr => ∃ i : Nat, i ≤ NS.length ∧ s4 = .int .i64 i ∧ Hid (Kept [] w3 wr)) (fun s4 _ => NS.length - (intOf s4).toNat)
  case atStart => exact ⟨0, Nat.zero_le _, rfl, Kept.refl _ _⟩
  case round =>
    obtain ⟨i, hi, rfl, HK⟩ := hrel
    have hNl : NS.length ≤ 200 := HLL.out
    have hRl : RS.length ≤ 64 := HLR.out
    have kk : Kept [] w2 wr := HK3.out.then HK.out
    have cb0 := (HBX.out wr kk).c0
    have cb1 := (HBX.out wr kk).c1
    by_cases hlt : i < NS.length
    · have t0 : decide ((i : Int) < (NS.length : Int)) = true := by simp; omega
      obtain ⟨p, hp⟩ : ∃ p, NS[i]? = some p := ⟨_, List.getElem?_eq_getElem hlt⟩
      obtain ⟨b, off, rfl, hcell⟩ := (HNN.out wr kk).at hp
      have hop := HO.out p (List.mem_of_getElem? hp)
      have hmap := Map_any _ RS p wr (HLV.out wr HK.out) HG.out hop.1 (by omega) (HTT.out wr kk) (HMM.out wr kk)
      have HRM : Hid (∀ W, Kept [] wr W → Calls Tryd.prog 17 #[.slice ra RS.length rc, .string (strOfNums p)] W fun e w' => e = .returned (mapV (mapL RS p)) ∧ Kept [] W w') := fun W k => RMap_any _ RS p W (HRR.out W (kk.then k)) HG.out hop.1 (by omega)
      have HUN : Hid (∀ W, Kept [] wr W → Calls Tryd.prog 9 #[.slice ao RS.length cap, .string (strOfNums p)] W fun e w' => e = .returned (optV (unmapL RS p)) ∧ Kept [] W w') := fun W k => Unmap_any _ RS p W (HLV.out W (HK.out.then k)) HG.out hop.1 (by omega) (HTT.out W (kk.then k)) (HMM.out W (kk.then k))
      have HRU : Hid (∀ W, Kept [] wr W → Calls Tryd.prog 18 #[.slice ra RS.length rc, .string (strOfNums p)] W fun e w' => e = .returned (optV (unmapL RS p)) ∧ Kept [] W w') := fun W k => RUnmap_any _ RS p W (HRR.out W (kk.then k)) HG.out hop.1 (Nat.le_trans hop.2 (by decide))
      have HCB : Hid (∀ W, Kept [] wr W → W.cell? ⟨w.heap.size, 0, none⟩ = some (.slice ra RS.length rc)) := fun W k => (HBX.out W (kk.then k)).c0
      have i0 : (0 : Int) ≤ (i : Int) := by omega
      have i1 : (i : Int) < (NS.length : Int) := by omega
      obtain ⟨S, F, OK, hmv⟩ : ∃ S F OK, mapV (mapL RS p) = .tuple #[.string S, .bool F, .bool OK] := ⟨_, _, _, rfl⟩
      obtain ⟨U, B, huv⟩ : ∃ U B, optV (unmapL RS p) = .tuple #[.string U, .bool B] := ⟨_, _, rfl⟩
      rw [hmv] at hmap HRM
      rw [huv] at HUN HRU
      clear hmv huv hop hp kk
      generalize strOfNums p = NM at *
      go_wp2_with (first
        | (go_at_call 8; (with_reducible refine hmap.mono ?_); rintro e w4 ⟨rfl, k4⟩; have hrm := HRM.out w4 k4; have cc4 := HCB.out w4 k4; have HK4 : Hid (Kept [] wr w4) := k4; clear k4 hmap)
        | (go_at_call 17; (with_reducible refine hrm.mono ?_); rintro e w5 ⟨rfl, k5⟩; have HK5 : Hid (Kept [] wr w5) := HK4.out.then k5; have hun5 := HUN.out w5 HK5.out; clear k5 hrm)
        | (go_at_call 9; (with_reducible refine hun5.mono ?_); rintro e w6 ⟨rfl, k6⟩; have HK6 : Hid (Kept [] wr w6) := HK5.out.then k6; have hru6 := HRU.out w6 HK6.out; have cc6 := HCB.out w6 HK6.out; clear k6 hun5)
        | (go_at_call 18; (with_reducible refine hru6.mono ?_); rintro e w7 ⟨rfl, k7⟩; have HK7 : Hid (Kept [] wr w7) := HK6.out.then k7; clear k7 hru6))
      go_roundw
      case rel => exact ⟨i + 1, by omega, by go_num, HK.out.then HK7.out⟩
      case measure => simp [intOf]; omega
    · have t0 : decide ((i : Int) < (NS.length : Int)) = false := by simp; omega
      have htexts := texts_any _ NS wr (HNN.out wr kk) (by omega)
      have HCL : Hid (∀ W, Kept [] wr W → ∀ (ta : Option Addr) (tc : Nat), StrsAt W (.slice ta NS.length tc) NS → Calls Tryd.prog 13 #[.slice ao RS.length cap, .slice ta NS.length tc] W fun e w' => ∃ r, e = .returned (strV r) ∧ ClashTo (mapU RS) (NS.map bytesU) r ∧ Kept [] W w') := fun W k ta tc ht => Clash_any _ _ RS NS W (HLV.out W (HK.out.then k)) HG.out ht (fun p hp => by have := (HO.out p hp).2; omega) (by omega) (HTT.out W (kk.then k)) (HMM.out W (kk.then k))
      have HRC : Hid (∀ W, Kept [] wr W → Calls Tryd.prog 20 #[.slice ra RS.length rc, .slice na NS.length nc] W fun e w' => ∃ r, e = .returned (strV r) ∧ ClashTo (mapU RS) (NS.map bytesU) r ∧ Kept [] W w') := fun W k => RClash_any _ _ RS NS W (HRR.out W (kk.then k)) HG.out (HNN.out W (kk.then k)) (fun p hp => ⟨(HO.out p hp).1, by have := (HO.out p hp).2; omega⟩) (by omega)
      have HIN : Hid (∀ W, Kept [] wr W → Calls Tryd.prog 21 #[.slice ao RS.length cap, .slice ra RS.length rc] W fun e w' => e = .returned (.bool true) ∧ Kept [] W w') := fun W k => intact_any ao cap _ RS W (HRL.out W (HK.out.then k)) (HRR.out W (kk.then k)) (by omega)
      have HUT : Hid (∀ W, Kept [] wr W → ∀ (ta : Option Addr) (tc : Nat), StrsAt W (.slice ta (NS.length + 2) tc) (NS ++ [markN, markN]) → Calls Tryd.prog 22 #[.slice ta NS.length tc, .slice na NS.length nc] W fun e w' => e = .returned (.bool true) ∧ Kept [] W w') := fun W k ta tc ht => untold_any ta tc _ NS W ht (HNN.out W (kk.then k)) (by omega)
      have HRI : Hid (∀ W, Kept [] wr W → Calls Tryd.prog 7 #[] W fun e w' => e = .returned (.bool true) ∧ Kept [] W w') := fun W k => right14_any W (HTT.out W (kk.then k))
      have HC : Hid (∀ W, Kept [] wr W → BxM W w.heap.size (.slice ra RS.length rc) (.slice na NS.length nc)) := fun W k => HBX.out W (kk.then k)
      have HWW : Hid (Kept [] w wr) := HK2.out.then kk
      clear kk
      go_wp2_with (first
        | (go_at_call 19; refine htexts.mono ?_; rintro e w4 ⟨ta, tc, rfl, htc, hst, k4⟩
           have HK4 : Hid (Kept [] wr w4) := k4
           have HST : Hid (∀ W, Kept [] w4 W → StrsAt W (.slice ta (NS.length + 2) tc) (NS ++ [markN, markN])) := fun W k => hst.kept k
           have hcl := HCL.out w4 k4 ta tc (by have h := hst.take (m := NS.length) (by simp); rwa [List.take_left' rfl] at h)
           clear hst htc k4 htexts)
        | (go_at_call 13; refine hcl.mono ?_; rintro e w5 ⟨r, rfl, hto, k5⟩
           have HK5 : Hid (Kept [] w4 w5) := k5
           have hrc := HRC.out w5 (HK4.out.then k5)
           have cd0 := (HC.out w5 (HK4.out.then k5)).c0
           have cd1 := (HC.out w5 (HK4.out.then k5)).c1
           have HTO : Hid (ClashTo (mapU RS) (NS.map bytesU) r) := hto
           obtain ⟨S, B, hsv⟩ : ∃ S B, strV r = .tuple #[.string S, .bool B] := ⟨_, _, rfl⟩
           have HSV : Hid (strV r = .tuple #[.string S, .bool B]) := hsv
           rw [hsv]
           clear hto k5 hcl hsv)
        | (go_at_call 20; refine hrc.mono ?_; rintro e w6 ⟨r', rfl, hto, k6⟩
           have hrr := hto.uniq HTO.out
           subst hrr
           rw [HSV.out]
           have HK6 : Hid (Kept [] wr w6) := (HK4.out.then HK5.out).then k6
           have HK46 : Hid (Kept [] w4 w6) := HK5.out.then k6
           have ce0 := (HC.out w6 HK6.out).c0
           have hin := HIN.out w6 HK6.out
           clear hto k6 hrc)
        | (go_at_call 21; refine hin.mono ?_; rintro e w7 ⟨rfl, k7⟩
           have HK7 : Hid (Kept [] wr w7) := HK6.out.then k7
           have cf1 := (HC.out w7 HK7.out).c1
           have hut := HUT.out w7 HK7.out ta tc (HST.out w7 (HK46.out.then k7))
           clear hin k7)
        | (go_at_call 22; refine hut.mono ?_; rintro e w8 ⟨rfl, k8⟩
           have HK8 : Hid (Kept [] wr w8) := HK7.out.then k8
           have hri := HRI.out w8 HK8.out
           clear hut k8)
        | (go_at_call 7; refine hri.mono ?_; rintro e w9 ⟨rfl, k9⟩
           have HK9 : Hid (Kept [] wr w9) := HK8.out.then k9
           clear hri k9))
      go_ret
      exact ⟨rfl, HWW.out.then HK9.out⟩
end Go.Proofs.YtmjbaficdoehfaaDoor
