/-
  WALK: satchellaw7.DeltaExact, for every list of pairs.
-/
import Derived.Test.YtoohomfnbkdhfaaDl10
import Derived.Deep.CutRange
namespace Go.Proofs.Ytoohomfnbkdhfaa
open Go.RowKit

/-- A pair as it is handed in. -/
structure DPr where
  ab : Option Addr
  cb : Nat
  bs : List Int
  ad : Option Addr
  cd : Nat
  ds : List Int
structure DPr.Good (p : DPr) (w : World) : Prop where
  b : BytesAt w (.slice p.ab p.bs.length p.cb) p.bs
  ob : Octs p.bs
  sb : p.bs.length ≤ 140737488351232
  d : BytesAt w (.slice p.ad p.ds.length p.cd) p.ds
  od : Octs p.ds
  sd : p.ds.length ≤ 140737488351232
theorem DPr.Good.kept {p : DPr} {w w' : World} (h : p.Good w) (k : Kept [] w w') : p.Good w' := ⟨h.b.kept k (fun _ _ => by simp), h.ob, h.sb, h.d.kept k (fun _ _ => by simp), h.od, h.sd⟩
/-- The slice of the pairs lies so. -/
def PairsAt (w : World) (v : Value) (ps : List DPr) : Prop :=
  ∃ ao cap, v = .slice ao ps.length cap ∧ ps.length ≤ 140737488351232 ∧
    (ps ≠ [] → ∃ b off, ao = some ⟨b, off, none⟩ ∧ ∀ (i : Nat) (p : DPr), ps[i]? = some p →
      w.cell? ⟨b, off + i * 2, none⟩ = some (.slice p.ab p.bs.length p.cb) ∧ w.cell? ⟨b, off + i * 2 + 1, none⟩ = some (.slice p.ad p.ds.length p.cd))
theorem Lent.mono {w : World} {B B' g cap : Nat} {ys : List Int} (h : Lent w B g cap ys) (hb : B' ≤ B) : Lent w B' g cap ys := OwnB.mono h hb

set_option maxRecDepth 100000 in
set_option maxHeartbeats 4000000 in
theorem exact7_any {w : World} {v : Value} {ps : List DPr} (hv : PairsAt w v ps) (hg : ∀ p, p ∈ ps → p.Good w) :
    Calls Try.prog 5 #[v] w fun e w' => e = .returned (.bool true) ∧ Kept [] w w' := by
  have hliv := lives_any w
  obtain ⟨ao, cap, rfl, hpl, hcc⟩ := hv
  have HC : Hid (ps ≠ [] → ∃ b off, ao = some ⟨b, off, none⟩ ∧ ∀ (i : Nat) (p : DPr), ps[i]? = some p →
      w.cell? ⟨b, off + i * 2, none⟩ = some (.slice p.ab p.bs.length p.cb) ∧ w.cell? ⟨b, off + i * 2 + 1, none⟩ = some (.slice p.ad p.ds.length p.cd)) := hcc
  have HG : Hid (∀ p, p ∈ ps → p.Good w) := hg
  clear hcc hg
  go_enter Try.func5, Try.ntmps5
  go_wp2_with fail
  go_at_call 8
  refine hliv.mono ?_
  rintro e w1 ⟨rfl, k1⟩
  have HK1 : Hid (Kept [] w w1) := k1
  clear hliv k1
  go_wp2
  go_loopw [3, 4, 5, 6, 7, 8, 9, 10, 11, 12, 13, 14, 15] (fun s3 _ _ _ _ _ _ _ _ _ _ _ _ wr => ∃ k : Nat, k ≤ ps.length ∧ s3 = .int .i64 k ∧ Hid (Kept [] w wr)) (fun s3 _ _ _ _ _ _ _ _ _ _ _ _ _ => ps.length - (intOf s3).toNat)
  case atStart => exact ⟨0, Nat.zero_le _, rfl, HK1⟩
  case round =>
    clear HK1
    obtain ⟨k, hk, rfl, HK⟩ := hrel
    by_cases hlt : k < ps.length ∧ k < 60
    · obtain ⟨hl1, hl2⟩ := hlt
      have t1 : decide ((k : Int) < ps.length) = true := by simp; omega
      have t2 : decide ((k : Int) < 60) = true := by simp; omega
      obtain ⟨p, hp⟩ : ∃ p, ps[k]? = some p := ⟨ps[k], List.getElem?_eq_getElem hl1⟩
      obtain ⟨b, off, rfl, hcell⟩ := HC.out (by rintro rfl; simp at hl1)
      have HCell : Hid (∀ W, Kept [] w W → W.cell? ⟨b, off + k * 2, none⟩ = some (.slice p.ab p.bs.length p.cb) ∧ W.cell? ⟨b, off + k * 2 + 1, none⟩ = some (.slice p.ad p.ds.length p.cd)) := fun W h => ⟨h.cell (hcell k p hp).1 (by simp), h.cell (hcell k p hp).2 (by simp)⟩
      have hgp := (HG.out p (List.mem_of_getElem? hp)).kept HK.out
      obtain ⟨ab, cb, bs, ad, cd, ds⟩ := p
      obtain ⟨hb, hob, hsb, hd, hod, hsd⟩ := hgp
      dsimp only at hb hob hsb hd hod hsd HCell
      clear hcell hp
      have HB : Hid (∀ W, Kept [] wr W → BytesAt W (.slice ab bs.length cb) bs) := fun W h => hb.kept h (fun _ _ => by simp)
      have HD : Hid (∀ W, Kept [] wr W → BytesAt W (.slice ad ds.length cd) ds) := fun W h => hd.kept h (fun _ _ => by simp)
      have HBl : Hid (bs ≠ [] → ∀ x, blkOf (.slice ab bs.length cb) = some x → x < wr.heap.size) := fun hne => hb.lt hne
      have HDl : Hid (ds ≠ [] → ∀ x, blkOf (.slice ad ds.length cd) = some x → x < wr.heap.size) := fun hne => hd.lt hne
      have hlend := Lend_any _ bs wr hb hsb
      obtain ⟨g0, g1⟩ := HCell.out wr HK.out
      clear hb hd
      go_wp2_with fail
      go_at_call 19
      refine hlend.mono ?_
      rintro e w2 ⟨gb, cb2, rfl, lb2, k2⟩
      have hlend2 := Lend_any _ ds w2 (HD.out _ k2) hsd
      have HLb2 : Hid (Lent w2 wr.heap.size gb cb2 bs) := lb2
      have HK2 : Hid (Kept [] wr w2) := k2
      clear hlend g0 g1
      obtain ⟨g0, g1⟩ := HCell.out w2 (HK.out.then k2)
      clear k2 lb2
      go_wp2_with fail
      go_at_call 19
      refine hlend2.mono ?_
      rintro e w3 ⟨gd, cd2, rfl, ld3, k3⟩
      obtain ⟨_, _, rb1, rb2⟩ := HLb2.out.room
      obtain ⟨_, _, rd1, rd2⟩ := ld3.room
      have hs2 := HK2.out.size
      have HLb3 : Hid (Lent w3 wr.heap.size gb cb2 bs) := Lent.kept HLb2.out k3 (by simp)
      have HLd3 : Hid (Lent w3 wr.heap.size gd cd2 ds) := Lent.mono ld3 hs2
      have HK3 : Hid (Kept [] wr w3) := HK2.out.then k3
      obtain ⟨R, hR⟩ : ∃ R, Hid (R = applyL bs ds) := ⟨_, rfl⟩
      have hRl : R.2.length ≤ 140737488355328 := by have h := applyL_len bs ds hod; rw [← hR.out] at h; omega
      have happ := Apply_any HLb3.out.bytes HLd3.out.bytes hod (by omega) R hR
      clear hlend2 ld3 k3 HLb2 HK2 g0 g1
      go_wp2_with fail
      go_at_call 14
      refine happ.mono ?_
      rintro e w4 ⟨v1, rfl, s1, s2, s3⟩
      have HT4 : Hid (BytesAt w4 v1 R.2) := s1
      have HTn : Hid (∀ x, blkOf v1 = some x → w3.heap.size ≤ x) := fun x hx => s3 x (by rw [own_blk]; exact hx)
      have HLb4 : Hid (Lent w4 wr.heap.size gb cb2 bs) := Lent.kept HLb3.out s2 (by simp)
      have HLd4 : Hid (Lent w4 wr.heap.size gd cd2 ds) := Lent.kept HLd3.out s2 (by simp)
      have HK4 : Hid (Kept [] wr w4) := HK3.out.then s2
      have hrap := fun n => RApply_any (HB.out _ (HK4.out.drewN n)) hob (by omega) (HD.out _ (HK4.out.drewN n)) hod (by omega) R hR
      obtain ⟨a1, c1, rfl, _⟩ := s1
      obtain ⟨g0, g1⟩ := HCell.out w4 (HK.out.then HK4.out)
      have HS4 : Hid (w3.heap.size ≤ w4.heap.size) := s2.size
      clear happ s2 s3 HLb3 HLd3
      go_wp2_with fail
      go_cut [8, 9] from 46 to 60 (fun s8 s9 wx => ∃ a2 c2, s8 = .slice a2 R.2.length c2 ∧ s9 = .int .i64 R.1 ∧ Hid (BytesAt wx s8 R.2 ∧ Kept [] w4 wx ∧ (∀ x, blkOf s8 = some x → w4.heap.size ≤ x)))
      case first =>
        go_region_with (go_at_call 20; refine (hrap _).mono ?_; rintro e w5 ⟨v2, rfl, s1, s2, s3⟩; have HV5 : Hid (BytesAt w5 v2 R.2 ∧ Kept [] w4 w5 ∧ (∀ x, blkOf v2 = some x → w4.heap.size ≤ x)) := ⟨s1, s2.undrewN, fun x hx => s3 x (by rw [own_blk]; exact hx)⟩; obtain ⟨a2, c2, rfl, _⟩ := s1; clear s2 s3)
        all_goals (go_wp2_with fail; go_meet; exact ⟨_, _, rfl, rfl, HV5.out⟩)
      case rest =>
      obtain ⟨a2, c2, rfl, rfl, HV⟩ := hcut
      obtain ⟨v5, k5, n5⟩ := HV.out
      have HVn : Hid (∀ x, blkOf (.slice a2 R.2.length c2) = some x → w4.heap.size ≤ x) := n5
      have HV5 : Hid (BytesAt wc (.slice a2 R.2.length c2) R.2) := v5
      have HT5 : Hid (BytesAt wc (.slice a1 R.2.length c1) R.2) := HT4.out.kept k5 (fun _ _ => by simp)
      have HLb5 : Hid (Lent wc wr.heap.size gb cb2 bs) := Lent.kept HLb4.out k5 (by simp)
      have HLd5 : Hid (Lent wc wr.heap.size gd cd2 ds) := Lent.kept HLd4.out k5 (by simp)
      have HK5 : Hid (Kept [] wr wc) := HK4.out.then k5
      have hs3 := HK3.out.size
      have hs4 := HS4.out
      obtain ⟨h, hh⟩ : ∃ h, Hid (h = headL ds (fun _ => true)) := ⟨_, rfl⟩
      have hsz := Size_any HLd5.out.bytes hod (by omega) h hh
      clear hrap HV v5 k5 n5 HT4 HLb4 HLd4 HK4 g0 g1 hR
      go_wp2_with fail
      go_at_call 21
      refine hsz.mono ?_
      rintro e w6 ⟨rfl, k6⟩
      have HK6 : Hid (Kept [] wr w6) := HK5.out.then k6
      have hrsz := RSize_any (HD.out _ HK6.out) hod (by omega) h hh
      have HV6 : Hid (BytesAt w6 (.slice a2 R.2.length c2) R.2) := HV5.out.kept k6 (fun _ _ => by simp)
      have HT6 : Hid (BytesAt w6 (.slice a1 R.2.length c1) R.2) := HT5.out.kept k6 (fun _ _ => by simp)
      have HLb6 : Hid (Lent w6 wr.heap.size gb cb2 bs) := Lent.kept HLb5.out k6 (by simp)
      have HLd6 : Hid (Lent w6 wr.heap.size gd cd2 ds) := Lent.kept HLd5.out k6 (by simp)
      obtain ⟨g0, g1⟩ := HCell.out w6 (HK.out.then HK6.out)
      clear hsz k6 HV5 HT5 HLb5 HLd5 HK5 hh
      go_wp2_with fail
      go_at_call 22
      refine hrsz.mono ?_
      rintro e w7 ⟨rfl, k7⟩
      have HK7 : Hid (Kept [] wr w7) := HK6.out.then k7
      have HV7 : Hid (BytesAt w7 (.slice a2 R.2.length c2) R.2) := HV6.out.kept k7 (fun _ _ => by simp)
      have HT7 : Hid (BytesAt w7 (.slice a1 R.2.length c1) R.2) := HT6.out.kept k7 (fun _ _ => by simp)
      have HLb7 : Hid (Lent w7 wr.heap.size gb cb2 bs) := Lent.kept HLb6.out k7 (by simp)
      have HLd7 : Hid (Lent w7 wr.heap.size gd cd2 ds) := Lent.kept HLd6.out k7 (by simp)
      have hnum := num7_any R.1 w7
      have heq := Eq_same HT7.out HV7.out hRl
      clear hrsz k7 HV6 HT6 HLb6 HLd6 HK6 g0 g1
      go_wp2_with fail
      go_at_call 15
      refine hnum.mono ?_
      rintro e w8 ⟨rfl, hw8⟩
      subst w8
      clear hnum
      go_wp2_with fail
      go_at_call 16
      refine heq.mono ?_
      rintro e w8 ⟨rfl, n8, rfl⟩
      have hnum3 := num7_any h.err (w7.drewN n8)
      clear heq
      go_wp2_with fail
      go_at_call 15
      refine hnum3.mono ?_
      rintro e w9 ⟨rfl, hw9⟩
      subst w9
      clear hnum3
      have k8 : Kept [] w7 (w7.drewN n8) := (Kept.refl _ _).drewN n8
      have HK8 : Hid (Kept [] wr (w7.drewN n8)) := HK7.out.then k8
      have HV8 : Hid (BytesAt (w7.drewN n8) (.slice a2 R.2.length c2) R.2) := HV7.out.drewN n8
      have HT8 : Hid (BytesAt (w7.drewN n8) (.slice a1 R.2.length c1) R.2) := HT7.out.drewN n8
      have HLb8 : Hid (Lent (w7.drewN n8) wr.heap.size gb cb2 bs) := Lent.kept HLb7.out k8 (by simp)
      have HLd8 : Hid (Lent (w7.drewN n8) wr.heap.size gd cd2 ds) := Lent.kept HLd7.out k8 (by simp)
      clear HK7 HV7 HT7 HLb7 HLd7 k8
      generalize w7.drewN n8 = w8 at *
      obtain ⟨g0, g1⟩ := HCell.out w8 (HK.out.then HK8.out)
      have hint1 := Intact_any HLb8.out (HB.out _ HK8.out) hsb
      have hint2 := Intact_any HLd8.out (HD.out _ HK8.out) hsd
      have hpd := placed_any HLb8.out HLd8.out (by omega) (HB.out _ HK8.out) (HD.out _ HK8.out) HBl.out HDl.out hob hod hsb hsd
      go_wp2_with fail
      go_at_call 23
      refine hint1.mono ?_
      rintro e w9 ⟨rfl, hw9⟩
      subst w9
      clear hint1
      go_wp2_with fail
      go_at_call 23
      refine hint2.mono ?_
      rintro e w9 ⟨rfl, hw9⟩
      subst w9
      clear hint2
      go_wp2_with fail
      go_at_call 24
      refine hpd.mono ?_
      rintro e w9 ⟨rfl, k9⟩
      have heq9 := Eq_same (HT8.out.kept k9 (fun x hx => by have := HTn.out x hx; simp; omega)) (HV8.out.kept k9 (fun x hx => by have := HVn.out x hx; simp; omega)) hRl
      have HK9 : Hid (Kept [] w w9) := (HK.out.then HK8.out).trans k9 (by have := HK.out.size; simp; omega)
      clear hpd k9 HT8 HV8 HLb8 HLd8
      go_wp2_with fail
      go_at_call 16
      refine heq9.mono ?_
      rintro e w10 ⟨rfl, n10, rfl⟩
      clear heq9 g0 g1
      go_wp2
      go_roundw
      case rel => exact ⟨k + 1, by omega, by go_num, HK9.out.drewN n10⟩
      case measure => simp [intOf]; omega
    · by_cases hl1 : k < ps.length
      · have t1 : decide ((k : Int) < ps.length) = true := by simp; omega
        have t2 : decide ((k : Int) < 60) = false := by simp; omega
        go_wp2
        go_ret
        exact ⟨rfl, HK.out⟩
      · have t1 : decide ((k : Int) < ps.length) = false := by simp; omega
        go_wp2
        go_ret
        exact ⟨rfl, HK.out⟩
end Go.Proofs.Ytoohomfnbkdhfaa
