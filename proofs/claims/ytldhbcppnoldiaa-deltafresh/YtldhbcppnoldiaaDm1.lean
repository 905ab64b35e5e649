/-
  WALK: satchellaw7.DeltaMade, for every list of pairs.
-/
import Derived.Test.YtldhbcppnoldiaaDm0
import Derived.Test.YtldhbcppnoldiaaDl4
import Derived.Deep.CutRange
namespace Go.Proofs.Ytldhbcppnoldiaa
open Go.RowKit

theorem Make_long {w : World} {ab ad : Option Addr} {cb ct : Nat} {bs ts : List Int} (hb : BytesAt w (.slice ab bs.length cb) bs) (hob : Octs bs) (hsb : bs.length ≤ 140737488355328) (ht : BytesAt w (.slice ad ts.length ct) ts) (hot : Octs ts) (hst : ts.length ≤ 140737488355328) (hl : 65536 < bs.length ∨ 65536 < ts.length) :
    Calls Try.prog 22 #[.slice ab bs.length cb, .slice ad ts.length ct] w fun e w' => e = .returned (.tuple #[.slice none 0 0, .int .i64 73]) ∧ Kept [] w w' := by
  refine (Make_any hb hob hsb ht hot hst).mono ?_
  rintro e w1 ⟨k, h, _⟩
  exact ⟨h hl, k⟩

set_option maxRecDepth 100000 in
set_option maxHeartbeats 4000000 in
theorem made7_any {w : World} {v : Value} {ps : List DPr} (hv : PairsAt w v ps) (hg : ∀ p, p ∈ ps → p.Good w) :
    Calls Try.prog 4 #[v] w fun e w' => e = .returned (.bool true) ∧ Kept [] w w' := by
  have hliv := lives_any w
  obtain ⟨ao, cap, rfl, hpl, hcc⟩ := hv
  have HC : Hid (ps ≠ [] → ∃ b off, ao = some ⟨b, off, none⟩ ∧ ∀ (i : Nat) (p : DPr), ps[i]? = some p →
      w.cell? ⟨b, off + i * 2, none⟩ = some (.slice p.ab p.bs.length p.cb) ∧ w.cell? ⟨b, off + i * 2 + 1, none⟩ = some (.slice p.ad p.ds.length p.cd)) := hcc
  have HG : Hid (∀ p, p ∈ ps → p.Good w) := hg
  clear hcc hg
  go_enter Try.func4, Try.ntmps4
  go_wp2_with fail
  go_at_call 20
  refine hliv.mono ?_
  rintro e w1 ⟨rfl, k1⟩
  have HK1 : Hid (Kept [] w w1) := k1
  clear hliv k1
  go_wp2
  go_loopw [3, 4, 5, 6, 7, 8, 9, 10, 11, 12, 13, 14] (fun s3 _ _ _ _ _ _ _ _ _ _ _ wr => ∃ k : Nat, k ≤ ps.length ∧ s3 = .int .i64 k ∧ Hid (Kept [] w wr)) (fun s3 _ _ _ _ _ _ _ _ _ _ _ _ => ps.length - (intOf s3).toNat)
  case atStart => exact ⟨0, Nat.zero_le _, rfl, HK1⟩
  case round =>
    clear HK1
    obtain ⟨k, hk, rfl, HK⟩ := hrel
    by_cases hlt : k < ps.length ∧ k < 60
    · obtain ⟨hl1, hl2⟩ := hlt
      have t1 : decide ((k : Int) < ps.length) = true := by simp; omega
      have t2 : decide ((k : Int) < 60) = true := by simp; omega
      obtain ⟨p, hp⟩ : ∃ p, ps[k]? = some p := ⟨ps[k], List.getElem?_eq_getElem hl1⟩
      obtain ⟨b, off, rfl, hcell⟩ := HC.out (by rintro rfl; simp at hl1)
      have HCell : Hid (∀ W, Kept [] w W → W.cell? ⟨b, off + k * 2, none⟩ = some (.slice p.ab p.bs.length p.cb) ∧ W.cell? ⟨b, off + k * 2 + 1, none⟩ = some (.slice p.ad p.ds.length p.cd)) := fun W h => ⟨h.cell (hcell k p hp).1 (by simp), h.cell (hcell k p hp).2 (by simp)⟩
      have hgp := (HG.out p (List.mem_of_getElem? hp)).kept HK.out
      obtain ⟨ab, cb, bs, ad, cd, ts⟩ := p
      obtain ⟨hb, hob, hsb, hd, hot, hst⟩ := hgp
      dsimp only at hb hob hsb hd hot hst HCell
      clear hcell hp
      have HB : Hid (∀ W, Kept [] wr W → BytesAt W (.slice ab bs.length cb) bs) := fun W h => hb.kept h (fun _ _ => by simp)
      have HD : Hid (∀ W, Kept [] wr W → BytesAt W (.slice ad ts.length cd) ts) := fun W h => hd.kept h (fun _ _ => by simp)
      have HBl : Hid (bs ≠ [] → ∀ x, blkOf (.slice ab bs.length cb) = some x → x < wr.heap.size) := fun hne => hb.lt hne
      have HDl : Hid (ts ≠ [] → ∀ x, blkOf (.slice ad ts.length cd) = some x → x < wr.heap.size) := fun hne => hd.lt hne
      have hlend := Lend_any _ bs wr hb hsb
      obtain ⟨g0, g1⟩ := HCell.out wr HK.out
      clear hb hd
      go_wp2_with fail
      go_at_call 21
      refine hlend.mono ?_
      rintro e w2 ⟨gb, cb2, rfl, lb2, k2⟩
      have hlend2 := Lend_any _ ts w2 (HD.out _ k2) hst
      have HLb2 : Hid (Lent w2 wr.heap.size gb cb2 bs) := lb2
      have HK2 : Hid (Kept [] wr w2) := k2
      clear hlend g0 g1
      obtain ⟨g0, g1⟩ := HCell.out w2 (HK.out.then k2)
      clear k2 lb2
      go_wp2_with fail
      go_at_call 21
      refine hlend2.mono ?_
      rintro e w3 ⟨gd, cd2, rfl, ld3, k3⟩
      obtain ⟨_, _, rb1, rb2⟩ := HLb2.out.room
      obtain ⟨_, _, rd1, rd2⟩ := ld3.room
      have hs2 := HK2.out.size
      have HLb3 : Hid (Lent w3 wr.heap.size gb cb2 bs) := Lent.kept HLb2.out k3 (by simp)
      have HLd3 : Hid (Lent w3 wr.heap.size gd cd2 ts) := Lent.mono ld3 hs2
      have HK3 : Hid (Kept [] wr w3) := HK2.out.then k3
      clear hlend2 ld3 k3 HLb2 HK2 g0 g1
      by_cases hlong : bs.length ≤ 65536 ∧ ts.length ≤ 65536
      · obtain ⟨hsb2, hst2⟩ := hlong
        have d1 : decide (65536 < (bs.length : Int)) = false := by simp; omega
        have d2 : decide (65536 < (ts.length : Int)) = false := by simp; omega
        have hmk := Make_ok HLb3.out.bytes hob hsb2 HLd3.out.bytes hot hst2
        go_wp2_with fail
        go_at_call 22
        refine hmk.mono ?_
        rintro e w4 ⟨k4, ⟨q, rfl, hq, hqn⟩, hap, hhd, hod, hsh⟩
        obtain ⟨p, hpE⟩ : ∃ p, p = lcpN bs ts := ⟨_, rfl⟩
        obtain ⟨s, hsE⟩ : ∃ s, s = lcsN (bs.drop p) (ts.drop p) := ⟨_, rfl⟩
        have hpL : LcpIs bs ts p := hpE ▸ lcpN_is _ _
        have hsL : LcsIs (bs.drop p) (ts.drop p) s := hsE ▸ lcsN_is _ _
        have hsh1 := hsh p s hpL hsL
        have HMk : Hid (∀ W, Kept [] wr W → Lent W wr.heap.size gb cb2 bs → Lent W wr.heap.size gd cd2 ts → Calls Try.prog 22 #[.slice (some ⟨gb, 0, none⟩) bs.length cb2, .slice (some ⟨gd, 0, none⟩) ts.length cd2] W fun e w' => MadeTo W w' bs ts e) := fun W _ l1 l2 => Make_ok l1.bytes hob hsb2 l2.bytes hot hst2
        have HLb4 : Hid (Lent w4 wr.heap.size gb cb2 bs) := Lent.kept HLb3.out k4 (by simp)
        have HLd4 : Hid (Lent w4 wr.heap.size gd cd2 ts) := Lent.kept HLd3.out k4 (by simp)
        have HK4 : Hid (Kept [] wr w4) := HK3.out.then k4
        obtain ⟨ds, hdsE⟩ : ∃ ds, ds = dlL bs ts := ⟨_, rfl⟩
        have HDE : Hid (dlL bs ts = ds) := hdsE.symm
        rw [← hdsE] at hq hap hhd hod hsh1 ⊢
        have HDs : Hid (∀ W, Kept [] w4 W → BytesAt W (.slice (some ⟨q, 0, none⟩) ds.length ds.length) ds) := fun W k => (raw_row hq).kept k (fun _ _ => by simp)
        have hdl : ds.length ≤ 70000 := by omega
        have HAP : Hid ((0, ts) = applyL bs ds) := hap.symm
        have HHD : Hid (⟨0, bs.length, ts.length, wd bs.length + wd ts.length⟩ = headL ds (fun _ => true)) := hhd.symm
        obtain ⟨Z, hZ⟩ : ∃ Z : Int, Z = (ts.length : Int) - p - s + 32 := ⟨_, rfl⟩
        have hgt : decide (Z < (ds.length : Int)) = false := by simp; omega
        have hbd := fun n => RBound_any (HB.out _ (HK4.out.drewN n)) (HD.out _ (HK4.out.drewN n)) (by omega) (by omega) p s hpL hsL
        rw [← hZ] at hbd
        have hnum := fun W => num7_any 0 W
        obtain ⟨g0, g1⟩ := HCell.out w4 (HK.out.then HK4.out)
        clear hmk k4 hq hqn hap hhd hsh hsh1 hpE hsE hpL hsL hZ hdsE HLb3 HLd3
        go_wp2_with fail
        go_quiet (first
          | (go_at_call 23; with_reducible exact Calls.quiet_of_same (hnum _))
          | (go_at_call 24; with_reducible exact Calls.quiet_of (hbd _)))
        have HK45 : Hid (Kept [] w4 (w4.drewN nq)) := (Kept.refl [] w4).drewN _
        generalize w4.drewN nq = wc at *
        have HK5 : Hid (Kept [] wr wc) := HK4.out.then HK45.out
        have HLb5 : Hid (Lent wc wr.heap.size gb cb2 bs) := Lent.kept HLb4.out HK45.out (by simp)
        have HLd5 : Hid (Lent wc wr.heap.size gd cd2 ts) := Lent.kept HLd4.out HK45.out (by simp)
        have happ := Apply_any HLb5.out.bytes (HDs.out _ HK45.out) hod (by omega) (0, ts) HAP
        clear hbd g0 g1 HLb4 HLd4
        go_wp2_with fail
        go_at_call 25
        refine happ.mono ?_
        rintro e w6 ⟨v1, rfl, s1, s2, s3⟩
        have HT6 : Hid (BytesAt w6 v1 ts) := s1
        have HK46 : Hid (Kept [] w4 w6) := HK45.out.then s2
        have HK6 : Hid (Kept [] wr w6) := HK5.out.then s2
        have HLb6 : Hid (Lent w6 wr.heap.size gb cb2 bs) := Lent.kept HLb5.out s2 (by simp)
        have HLd6 : Hid (Lent w6 wr.heap.size gd cd2 ts) := Lent.kept HLd5.out s2 (by simp)
        have hsz := Size_any (HDs.out _ HK46.out) hod (by omega) _ HHD
        dsimp only at hsz
        obtain ⟨a1, c1, rfl, _⟩ := s1
        clear happ s2 s3 HLb5 HLd5 HK5 HK45
        go_wp2_with fail
        go_at_call 26
        refine hsz.mono ?_
        rintro e w7 ⟨rfl, k7⟩
        have HT7 : Hid (BytesAt w7 (.slice a1 ts.length c1) ts) := HT6.out.kept k7 (fun _ _ => by simp)
        have HK47 : Hid (Kept [] w4 w7) := HK46.out.then k7
        have HK7 : Hid (Kept [] wr w7) := HK6.out.then k7
        have HLb7 : Hid (Lent w7 wr.heap.size gb cb2 bs) := Lent.kept HLb6.out k7 (by simp)
        have HLd7 : Hid (Lent w7 wr.heap.size gd cd2 ts) := Lent.kept HLd6.out k7 (by simp)
        have hmk := HMk.out w7 HK7.out HLb7.out HLd7.out
        clear hsz k7 HT6 HK46 HK6 HLb6 HLd6
        go_wp2_with fail
        go_at_call 22
        refine hmk.mono ?_
        rintro e w8 ⟨k8, ⟨q8, rfl, hq8, hqn8⟩, _, _, _, _⟩
        have HT8 : Hid (BytesAt w8 (.slice a1 ts.length c1) ts) := HT7.out.kept k8 (fun _ _ => by simp)
        have HK48 : Hid (Kept [] w4 w8) := HK47.out.then k8
        have HK8 : Hid (Kept [] wr w8) := HK7.out.then k8
        have HLb8 : Hid (Lent w8 wr.heap.size gb cb2 bs) := Lent.kept HLb7.out k8 (by simp)
        have HLd8 : Hid (Lent w8 wr.heap.size gd cd2 ts) := Lent.kept HLd7.out k8 (by simp)
        have HA8 : Hid (BytesAt w8 (.slice (some ⟨q8, 0, none⟩) ds.length ds.length) ds) := by rw [← HDE.out]; exact raw_row hq8
        rw [HDE.out]
        obtain ⟨g0, g1⟩ := HCell.out w8 (HK.out.then HK8.out)
        clear hmk k8 hq8 hqn8 HT7 HK47 HK7 HLb7 HLd7
        go_wp2_with fail
        go_at_call 23
        refine (hnum _).mono ?_
        rintro e w9 ⟨rfl, hw9⟩
        subst w9
        go_wp2_with fail
        go_at_call 23
        refine (hnum _).mono ?_
        rintro e w9 ⟨rfl, hw9⟩
        subst w9
        go_wp2_with fail
        go_at_call 23
        refine (hnum _).mono ?_
        rintro e w9 ⟨rfl, hw9⟩
        subst w9
        have heq := Eq_same HT8.out (HD.out _ HK8.out) (by omega)
        go_wp2_with fail
        go_at_call 19
        refine heq.mono ?_
        rintro e w9 ⟨rfl, n9, rfl⟩
        have heq2 := Eq_same (HA8.out.drewN n9) (HDs.out _ (HK48.out.drewN n9)) (by omega)
        clear heq
        go_wp2_with fail
        go_at_call 19
        refine heq2.mono ?_
        rintro e w10 ⟨rfl, n10, rfl⟩
        have k10 : Kept [] w8 ((w8.drewN n9).drewN n10) := ((Kept.refl [] w8).drewN n9).drewN n10
        have HK10 : Hid (Kept [] wr ((w8.drewN n9).drewN n10)) := HK8.out.then k10
        have HLb10 : Hid (Lent ((w8.drewN n9).drewN n10) wr.heap.size gb cb2 bs) := Lent.kept HLb8.out k10 (by simp)
        have HLd10 : Hid (Lent ((w8.drewN n9).drewN n10) wr.heap.size gd cd2 ts) := Lent.kept HLd8.out k10 (by simp)
        clear heq2 HT8 HK48 HK8 HLb8 HLd8 HA8 k10 g0 g1
        generalize (w8.drewN n9).drewN n10 = w10 at *
        obtain ⟨g0, g1⟩ := HCell.out w10 (HK.out.then HK10.out)
        have hint1 := Intact_any HLb10.out (HB.out _ HK10.out) hsb
        have hint2 := Intact_any HLd10.out (HD.out _ HK10.out) hst
        have hrm := remade_any HLb10.out HLd10.out (by omega) (HB.out _ HK10.out) (HD.out _ HK10.out) HBl.out HDl.out hob hot hsb2 hst2
        go_wp2_with fail
        go_at_call 27
        refine hint1.mono ?_
        rintro e w9 ⟨rfl, hw9⟩
        subst w9
        clear hint1
        go_wp2_with fail
        go_at_call 27
        refine hint2.mono ?_
        rintro e w9 ⟨rfl, hw9⟩
        subst w9
        clear hint2
        go_wp2_with fail
        go_at_call 28
        refine hrm.mono ?_
        rintro e w11 ⟨rfl, k11⟩
        have HK11 : Hid (Kept [] w w11) := (HK.out.then HK10.out).trans k11 (by have := HK.out.size; simp; omega)
        clear hrm k11 HLb10 HLd10 g0 g1
        go_wp2
        go_roundw
        case rel => exact ⟨k + 1, by omega, by go_num, HK11.out⟩
        case measure => simp [intOf]; omega
      · have hmk := Make_long HLb3.out.bytes hob (by omega) HLd3.out.bytes hot (by omega) (by omega)
        have hnum := fun W => num7_any 73 W
        go_wp2_with fail
        go_at_call 22
        refine hmk.mono ?_
        rintro e w4 ⟨rfl, k4⟩
        have HK4 : Hid (Kept [] w w4) := (HK.out.then HK3.out).then k4
        clear hmk k4 HLb3 HLd3
        by_cases hbl : 65536 < bs.length
        · have d1 : decide (65536 < (bs.length : Int)) = true := by simp; omega
          go_wp2_with fail
          go_at_call 23
          refine (hnum _).mono ?_
          rintro e w5 ⟨rfl, hw5⟩
          subst w5
          go_wp2
          go_roundw
          case rel => exact ⟨k + 1, by omega, by go_num, HK4.out⟩
          case measure => simp [intOf]; omega
        · have d1 : decide (65536 < (bs.length : Int)) = false := by simp; omega
          have d2 : decide (65536 < (ts.length : Int)) = true := by simp; omega
          go_wp2_with fail
          go_at_call 23
          refine (hnum _).mono ?_
          rintro e w5 ⟨rfl, hw5⟩
          subst w5
          go_wp2
          go_roundw
          case rel => exact ⟨k + 1, by omega, by go_num, HK4.out⟩
          case measure => simp [intOf]; omega
    · by_cases hl1 : k < ps.length
      · have t1 : decide ((k : Int) < ps.length) = true := by simp; omega
        have t2 : decide ((k : Int) < 60) = false := by simp; omega
        go_wp2
        go_ret
        exact ⟨rfl, HK.out⟩
      · have t1 : decide ((k : Int) < ps.length) = false := by simp; omega
        go_wp2
        go_ret
        exact ⟨rfl, HK.out⟩
end Go.Proofs.Ytldhbcppnoldiaa
