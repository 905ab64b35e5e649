/-
  WALK: satchellaw4.StoreCopies.
-/
import Derived.Test.YtbphibolgckmnaaGreatDoorFl1
import Derived.Test.YtbphibolgckmnaaGreatDoorSc0
import Derived.Test.YtbphibolgckmnaaGreatDoorHdS
namespace Go.Proofs.YtbphibolgckmnaaGreatDoor
open Go.RowKit Go.WideMaps

theorem parErr_blob [TabC] {ys : List Int} (h : ys.length < 65536) : parErr (1 :: ys) = 0 := by
  have e : xAt (1 :: ys) 0 = 1 := rfl
  have g : gOk (1 :: ys) = true := by
    unfold gOk guessO
    rw [e, if_pos rfl]
    simp [faultO, encO, kindO, encB]
    rfl
  unfold parErr
  rw [if_neg (by simp; omega), e, if_neg (by decide), if_pos g]
def moreX (z : Int) : List Int := [1, 109, 111, 114, 101, z]
theorem moreX_octs {z : Int} (h0 : 0 ≤ z) (h1 : z ≤ 255) : Octs (moreX z) := by
  intro u hu
  simp only [moreX, List.mem_cons, List.not_mem_nil, or_false] at hu
  omega
/-- What Put of an object leaves of a store and a copy. -/
theorem Duo.puts [TabC] {w w' : World} {s b n : Nat} {D : DataW Unit} {s2 b2 n2 : Nat} {D2 : DataW Unit} (h : Duo w s b n D s2 b2 n2 D2) (hn : n ≤ 1000) {xs : List Int} (hp : parErr xs = 0) (ho : Octs xs) {e : Ending} (hpa : PutB w s b n D xs e w') :
    (∃ a b c, e = .returned (.tuple #[.agg a, b, c])) ∧ Kept [b] w w' ∧ ∃ n' D', n' ≤ n + 1 ∧ Duo w' s b n' D' s2 b2 n2 D2 ∧ Maps.has D' (idKey (digL xs)) = true := by
  by_cases hh : Maps.has D (idKey (digL xs)) = true
  · obtain ⟨z, er, h1, _, _, _, h5⟩ := hpa.there hh
    exact ⟨⟨_, _, _, h1⟩, h5.more (by simp), n, D, by omega, h.on h5, hh⟩
  · have hh2 : Maps.has D (idKey (digL xs)) = false := by simpa using hh
    have hsz := h.one.st.size
    obtain ⟨g, c, h1, h2, h3, h4⟩ := hpa.new hh2 (by omega)
    exact ⟨⟨_, _, _, h1⟩, h4, n + 1, _, Nat.le_refl _, h.put h4 hh2 (h.one.put h4 h2 hp ho h3), Maps.has_put_same h.one.st.own.isMap (idKey_lit _) _⟩
set_option maxRecDepth 100000 in
set_option maxHeartbeats 8000000 in
theorem copies4_any [TabC] (ev gv : Value) (nn : Int) (L : List (List Int)) (G : List Int) (w : World) (hV : Vars w) (hT : Tabs w) (hL : LsAt w ev L) (hG : NsAt w gv G) :
    Calls Tryz.prog 5 #[.agg #[ev, gv, .int .i64 nn]] w fun e w' => e = .returned (.bool true) ∧ Kept [] w w' := by
  obtain ⟨W0, hW0⟩ : ∃ W0, W0 = w.alloc (.cells #[ev, gv, .int .i64 nn] 45) := ⟨_, rfl⟩
  have HW0 : Hid (W0 = w.alloc (.cells #[ev, gv, .int .i64 nn] 45)) := hW0
  have k0 : Kept [] w W0 := by rw [hW0]; exact (Kept.refl _ _).alloc _
  have HK0 : Hid (Kept [] w W0) := k0
  have HC : Hid (∀ W, Kept [] W0 W → W.cell? ⟨w.heap.size, 2, none⟩ = some (.int .i64 nn)) := fun W k => by
    have h := k.heap (show W0.heap[w.heap.size]? = _ by rw [hW0]; exact heap_alloc_new w _) (by simp)
    rw [cell_of_row _ _ _ _ _ _ h]; rfl
  have hV0 := hV.kept k0 (by simp) (by simp)
  have HV : Hid (∀ W, Kept [] W0 W → Vars W ∧ Tabs W) := fun W k => ⟨hV0.kept k (by simp) (by simp), hT.kept (k0.then k)⟩
  have hfill := filled_any ev gv nn L G W0 hV0 (hT.kept k0) (hL.kept k0) (hG.kept k0)
  obtain ⟨eo, ec, rfl, _⟩ := hL
  obtain ⟨go, gc, rfl, _⟩ := hG
  clear hV k0 hV0 hT
  go_enter Tryz.func5, Tryz.ntmps5
  go_wp2_with fail
  go_at_call 17
  rw [← HW0.out]
  refine hfill.mono ?_
  rintro e w1 ⟨s, b, n, D, rfl, hfl, hn80, hs, hb, k1⟩
  have HB : Hid (W0.heap.size ≤ s ∧ W0.heap.size ≤ b) := ⟨hs, hb⟩
  have HN : Hid (n ≤ 80) := hn80
  have HK1 : Hid (Kept [] W0 w1) := k1
  have HF1 : Hid (∀ W, Kept [] w1 W → Fl W s b n D) := fun W q => hfl.on q
  have hids := Ids_any hfl.st (by omega) hfl.non
  have hbl := hfl.st.lt.2
  clear hfill hs hb k1 hfl hW0
  go_wp2_with fail
  go_at_call 13
  refine hids.mono ?_
  rintro e w2 ⟨v, ids, rfl, hown, hof, k2⟩
  have HOF : Hid (IdsOf D ids) := hof
  have hlen : ids.length ≤ 140737488351232 := by
    have := (HF1.out w1 (Kept.refl _ _)).st.size
    rw [hof.len]
    omega
  have hat : IdsAt w2 v ids := hown.at (fun id hid => (hof.mem id hid).1) hlen
  have HVB : Hid (∀ g, blkOf v = some g → w1.heap.size ≤ g) := fun g hg => by
    obtain ⟨_, ⟨hv, _⟩ | ⟨g', _, _, hv, hB, _⟩⟩ := hown
    · rw [hv] at hg
      cases hg
    · rw [hv] at hg
      cases hg
      exact hB
  have HI : Hid (∀ W, Kept [b] w2 W → IdsAt W v ids) := fun W q => hat.keep q (fun _ g hg hm => by
    have := HVB.out g hg
    rw [List.mem_singleton.1 hm] at this
    omega)
  have HK2 : Hid (Kept [] W0 w2) := HK1.out.then k2
  have HF2 : Hid (Fl w2 s b n D) := HF1.out w2 k2
  have hcp := Copy_st HF2.out.st (by omega) HF2.out.non
  obtain ⟨vo, vc, rfl, _⟩ := hat
  clear hids hown hof k2 HF1
  go_wp2_with fail
  go_at_call 21
  refine hcp.mono ?_
  rintro e w3 ⟨s2, b2, n2, D2, rfl, hst3, hn2, hhas, htw, hs2, hb2, k3⟩
  have hduo : Duo w3 s b n D s2 b2 n2 D2 := Duo.start (HF2.out.on k3) hst3 (by have := HF2.out.st.lt.2; omega) hhas htw
  have HD3 : Hid (∀ W, Kept [] w3 W → Duo W s b n D s2 b2 n2 D2) := fun W q => hduo.on q
  have HK3 : Hid (Kept [] W0 w3) := HK2.out.then k3
  have HK23 : Hid (Kept [] w2 w3) := k3
  have HHS : Hid (∀ kl, Maps.has D2 kl = Maps.has D kl) := hhas
  have HBB : Hid (W0.heap.size ≤ s2 ∧ W0.heap.size ≤ b2) := ⟨Nat.le_trans HK2.out.size hs2, Nat.le_trans HK2.out.size hb2⟩
  have hids := Ids_any hduo.two.st (by omega) hduo.two.non
  have HGL : Hid (∀ id, id ∈ ids → id.length = 32) := fun id hid => (HOF.out.mem id hid).1.1
  clear hcp hst3 hhas htw hs2 hb2 k3 hduo HF2
  go_wp2_with fail
  go_at_call 13
  refine hids.mono ?_
  rintro e w4 ⟨v2, ids2, rfl, hown, hof, k4⟩
  obtain rfl : ids = ids2 := HOF.out.uniq hof HHS.out
  have hat : IdsAt w4 v2 ids := hown.at (fun id hid => (hof.mem id hid).1) hlen
  have HE1 : Hid (IdsAt w4 (.slice vo ids.length vc) ids) := HI.out w4 ((HK23.out.then k4).more (by simp))
  have HE2 : Hid (IdsAt w4 v2 ids) := hat
  have HK4 : Hid (Kept [] w3 w4) := k4
  obtain ⟨v2o, v2c, rfl, _⟩ := hat
  clear hids hown hof k4
  go_wp2_with fail
  go_at_call 20
  refine (EqIDs_same _ _ ids w4 HE2.out HE1.out HGL.out).mono ?_
  rintro e w5 ⟨rfl, k5⟩
  have HK5 : Hid (Kept [] w3 w5) := HK4.out.then k5
  have c5 := HC.out w5 (HK3.out.then HK5.out)
  obtain ⟨z, hz⟩ : ∃ z, z = nn % 256 := ⟨_, rfl⟩
  obtain ⟨xs, hxs⟩ : ∃ xs, xs = moreX z := ⟨_, rfl⟩
  have hxl : xs.length = 6 := by rw [hxs]; rfl
  have hox : Octs xs := by rw [hxs]; exact moreX_octs (by omega) (by omega)
  have hmap : (xs.map (Value.int .u8)).toArray = #[.int .u8 1, .int .u8 109, .int .u8 111, .int .u8 114, .int .u8 101, .int .u8 z] := by rw [hxs]; rfl
  obtain ⟨w6, hw6⟩ : ∃ w6, w6 = w5.alloc (.cells #[.int .u8 1, .int .u8 109, .int .u8 111, .int .u8 114, .int .u8 101, .int .u8 z] 5) := ⟨_, rfl⟩
  have HW6 : Hid (w6 = w5.alloc (.cells #[.int .u8 1, .int .u8 109, .int .u8 111, .int .u8 114, .int .u8 101, .int .u8 z] 5)) := hw6
  have k56 : Kept [] w5 w6 := by rw [hw6]; exact (Kept.refl _ _).alloc _
  have hb6 : BytesAt w6 (.slice (some ⟨w5.heap.size, 0, none⟩) 6 6) xs := by
    have h := row_bytes' (w := w6) (q := w5.heap.size) (ys := xs) (by rw [hmap, hw6]; exact heap_alloc_new w5 _)
    rwa [hxl] at h
  have HK6 : Hid (Kept [] w3 w6) := HK5.out.then k56
  have hsz5 : w3.heap.size ≤ w5.heap.size := HK5.out.size
  have hbb := HD3.out w3 (Kept.refl _ _)
  have HNB : Hid (w5.heap.size ≠ b ∧ w5.heap.size ≠ b2) := by
    have h1 := hbb.one.st.lt.2
    have h2 := hbb.two.st.lt.2
    exact ⟨by omega, by omega⟩
  have HMB : Hid (∀ S W, Kept S w6 W → w5.heap.size ∉ S → BytesAt W (.slice (some ⟨w5.heap.size, 0, none⟩) 6 6) xs) := fun S W q hq => hb6.kept' q (fun _ x hx => by
    obtain rfl : w5.heap.size = x := by simpa [blkOf] using hx
    exact hq)
  have HP : Hid (parErr xs = 0 ∧ Octs xs) := by
    refine ⟨?_, hox⟩
    rw [hxs]
    exact parErr_blob (by simp)
  have hgd : GoodID (digL xs) := ⟨digL_len xs, digL_octs xs⟩
  obtain ⟨ic, hic⟩ : ∃ ic, ic = idC (digL xs) := ⟨_, rfl⟩
  obtain ⟨kx, hkx⟩ : ∃ kx, kx = idKey (digL xs) := ⟨_, rfl⟩
  have HID : Hid (∀ W, Vars W → BytesAt W (.slice (some ⟨w5.heap.size, 0, none⟩) 6 6) xs → Calls Tryz.prog 19 #[.slice (some ⟨w5.heap.size, 0, none⟩) 6 6] W fun e w' => e = .returned (.agg ic) ∧ Kept [] W w') := fun W hv hb => by
    rw [hic]
    exact Id_any _ xs W hv hb hox (by omega)
  have HHA : Hid (∀ W s b n D, St W s b n D → Calls Tryz.prog 22 #[.pointer (some ⟨s, 0, none⟩), .agg ic] W fun e w' => e = .returned (.bool (Maps.has D kx)) ∧ Kept [] W w') := fun W s b n D q => by
    rw [hic, hkx]
    exact Has_st q hgd
  have HPUT : Hid (∀ W n D, Duo W s b n D s2 b2 n2 D2 → n ≤ 1000 → Vars W → Tabs W → BytesAt W (.slice (some ⟨w5.heap.size, 0, none⟩) 6 6) xs → Calls Tryz.prog 11 #[.pointer (some ⟨s, 0, none⟩), .slice (some ⟨w5.heap.size, 0, none⟩) 6 6] W fun e w' => (∃ a b c, e = .returned (.tuple #[.agg a, b, c])) ∧ Kept [b] W w' ∧ ∃ n' D', n' ≤ n + 1 ∧ Duo w' s b n' D' s2 b2 n2 D2 ∧ Maps.has D' kx = true) := fun W n D hd hn hv ht hb => by
    have h1 := Put_of (cap := 6) hd.one.st (by omega) w5.heap.size 0 xs (fun e => by rw [e] at hxl; cases hxl) (fun W' q => by
      have h2 := Parse_put (.slice (some ⟨w5.heap.size, 0, none⟩) 6 6) xs W' (hb.kept' q (fun _ _ _ => by simp)) hox (ht.kept q)
      rw [HP.out.1] at h2
      rw [hxl]
      exact h2) (by rw [hxl]; exact hb) HNB.out.1 hox (by omega) hv
    rw [hxl] at h1
    refine h1.mono fun e w' hpa => ?_
    rw [hkx]
    exact hd.puts hn HP.out.1 hox hpa
  have HVV : Hid (∀ W, Kept [] W0 W → Vars W ∧ Tabs W) := HV.out
  have e256 : IntKind.u8.wrap nn = z := by rw [hz]; simp [IntKind.wrap, IntKind.bits, IntKind.signed]
  have HIDD : Hid (∀ W, Kept [] w6 W → BytesAt W (.slice (some ⟨w5.heap.size, 0, none⟩) 6 6) xs) := fun W q => HMB.out [] W q (by simp)
  clear k5 hw6 k56 hb6 hxs hmap hox hgd hic hbb HE1 HE2 hkx
  have hid := HID.out w6 (HVV.out w6 (HK3.out.then HK6.out)).1 (HIDD.out w6 (Kept.refl _ _))
  go_wp2_with fail
  go_at_call 19
  rw [← hz, ← HW6.out]
  refine hid.mono ?_
  rintro e w7 ⟨rfl, k7⟩
  have HK7 : Hid (Kept [] w6 w7) := k7
  have hha := HHA.out w7 s2 b2 n2 D2 (HD3.out w7 (HK6.out.then k7)).two.st
  clear hid k7
  go_wp2_with fail
  go_at_call 22
  refine hha.mono ?_
  rintro e w8 ⟨rfl, k8⟩
  have HK8 : Hid (Kept [] w6 w8) := HK7.out.then k8
  have hput := HPUT.out w8 n D (HD3.out w8 (HK6.out.then HK8.out)) (by have := HN.out; omega) (HVV.out w8 ((HK3.out.then HK6.out).then HK8.out)).1 (HVV.out w8 ((HK3.out.then HK6.out).then HK8.out)).2 (HIDD.out w8 HK8.out)
  obtain ⟨was, hwas⟩ : ∃ was, was = Maps.has D2 kx := ⟨_, rfl⟩
  rw [← hwas]
  clear hha k8
  go_wp2_with fail
  go_at_call 11
  refine hput.mono ?_
  rintro e w9 ⟨⟨pa, pb, pc, rfl⟩, k9, n', D', hn', hduo, hhD⟩
  have HDD : Hid (∀ W, Kept [] w9 W → Duo W s b n' D' s2 b2 n2 D2) := fun W q => hduo.on q
  have HHD : Hid (Maps.has D' kx = true) := hhD
  have HN' : Hid (n' ≤ 81) := by have := HN.out; show n' ≤ 81; omega
  have HKb9 : Hid (Kept [b] w6 w9) := (HK8.out.more (by simp)).then'' k9
  have HK9 : Hid (Kept [] W0 w9) := kept_newP ((HK3.out.then HK6.out).then HK8.out) k9 HB.out.2
  have HI9 : Hid (∀ W, Kept [] w9 W → IdsAt W (.slice vo ids.length vc) ids) := fun W q => HI.out W ((((HK23.out.then HK6.out).more (by simp)).then'' HKb9.out).then' q)
  have HM9 : Hid (∀ S W, Kept S w9 W → w5.heap.size ∉ S → BytesAt W (.slice (some ⟨w5.heap.size, 0, none⟩) 6 6) xs) := fun S W q hq => (HMB.out [b] w9 HKb9.out (by simpa using HNB.out.1)).kept' q (fun _ x hx => by
    obtain rfl : w5.heap.size = x := by simpa [blkOf] using hx
    exact hq)
  have hid := HID.out w9 (HVV.out w9 HK9.out).1 (HM9.out [] w9 (Kept.refl _ _) (by simp))
  clear hput hduo hhD hn' k9 HI HMB HD3
  go_wp2_with fail
  go_at_call 19
  refine hid.mono ?_
  rintro e w10 ⟨rfl, k10⟩
  have HK10 : Hid (Kept [] w9 w10) := k10
  have hha := HHA.out w10 s2 b2 n2 D2 (HDD.out w10 k10).two.st
  rw [← hwas] at hha
  clear hid k10
  go_wp2_with fail
  go_at_call 22
  refine hha.mono ?_
  rintro e w11 ⟨rfl, k11⟩
  have HK11 : Hid (Kept [] w9 w11) := HK10.out.then k11
  have hids := Ids_any (HDD.out w11 HK11.out).two.st (by have := HN.out; omega) (HDD.out w11 HK11.out).two.non
  have twas : (was != was) = false := by cases was <;> rfl
  clear hha k11
  go_wp2_with fail
  go_at_call 13
  refine hids.mono ?_
  rintro e w12 ⟨v3, ids3, rfl, hown, hof, k12⟩
  obtain rfl : ids = ids3 := HOF.out.uniq hof HHS.out
  have hat : IdsAt w12 v3 ids := hown.at (fun id hid => (hof.mem id hid).1) hlen
  have HK12 : Hid (Kept [] w9 w12) := HK11.out.then k12
  have heq := EqIDs_same v3 (.slice vo ids.length vc) ids w12 hat (HI9.out w12 HK12.out) HGL.out
  obtain ⟨v3o, v3c, rfl, _⟩ := hat
  clear hids hown hof k12
  go_wp2_with fail
  go_at_call 20
  refine heq.mono ?_
  rintro e w13 ⟨rfl, k13⟩
  have HK13 : Hid (Kept [] w9 w13) := HK12.out.then k13
  have hlid : ids.length ≤ 140737488351232 := hlen
  clear heq k13 twas hwas
  have hui := Tryz.underlying29
  go_wp2
  go_loopw [9, 10, 11, 12, 13] (fun s9 _ _ _ _ wr => ∃ k : Nat, k ≤ ids.length ∧ s9 = .int .i64 k ∧ Hid (Kept [] w9 wr)) (fun s9 _ _ _ _ _ => ids.length - (intOf s9).toNat)
  case atStart => exact ⟨0, Nat.zero_le _, rfl, HK13.out⟩
  case round =>
    obtain ⟨k, hk, rfl, HR⟩ := hrel
    by_cases hlt : k < ids.length
    · have t1 : decide ((k : Int) < (ids.length : Int)) = true := decide_eq_true (by omega)
      obtain ⟨id, hidk⟩ : ∃ id, ids[k]? = some id := ⟨_, List.getElem?_eq_getElem hlt⟩
      have hidm := List.mem_of_getElem? hidk
      obtain ⟨hgi, hyi⟩ := HOF.out.mem id hidm
      have hy2 : Maps.has D2 (idKey id) = true := by rw [HHS.out]; exact hyi
      obtain ⟨hy1, g, c, g2, c2, ys, htw, hpe⟩ := (HDD.out wr HR.out).tw _ hy2
      obtain ⟨ao', cap', he, _, _, _, hc⟩ := HI9.out wr HR.out
      injection he with e1 _ e3
      subst e1 e3
      obtain ⟨ib, io, rfl, hir⟩ := hc (by intro e; rw [e] at hlt; simp at hlt)
      have HRG : Hid (∀ W, Kept [] wr W → W.rangeAt ib (io + k * 32) (id.map (Value.int .u8))) := fun W q => range_kept (hir k id hidk) q (by simp)
      have hsi : (Tryz.prog.info? 29).map (·.size) = some (id.map (Value.int .u8)).length := by rw [List.length_map, hgi.1]; exact Tryz.infoID
      have hyne : ys ≠ [] := par_ne hpe
      have hyl : ys.length ≤ 65536 := (parErr_zero hpe).1
      have HG1 : Hid (∀ W, Kept [] wr W → Calls Tryz.prog 15 #[.pointer (some ⟨s2, 0, none⟩), .agg (id.map (Value.int .u8)).toArray] W fun e w' => ∃ g' c', e = .returned (.tuple #[.slice (some ⟨g', 0, none⟩) ys.length c', .int .i64 0]) ∧ BytesAt w' (.slice (some ⟨g', 0, none⟩) ys.length c') ys ∧ Kept [] W w') := fun W q => Get_st (HDD.out W (HR.out.then q)).two.st hgi hy2 htw.at2 (htw.b2.kept' q (fun _ _ _ => by simp)) hyne (by omega)
      have HG2 : Hid (∀ W, Kept [] wr W → Calls Tryz.prog 15 #[.pointer (some ⟨s, 0, none⟩), .agg (id.map (Value.int .u8)).toArray] W fun e w' => ∃ g' c', e = .returned (.tuple #[.slice (some ⟨g', 0, none⟩) ys.length c', .int .i64 0]) ∧ BytesAt w' (.slice (some ⟨g', 0, none⟩) ys.length c') ys ∧ Kept [] W w') := fun W q => Get_st (HDD.out W (HR.out.then q)).one.st hgi hy1 htw.at1 (htw.b1.kept' q (fun _ _ _ => by simp)) hyne (by omega)
      have hr1 := HRG.out wr (Kept.refl _ _)
      have hg1 := HG1.out wr (Kept.refl _ _)
      clear hc hir hidk hidm hgi hyi hy2 hy1 htw hpe hyne HG1
      generalize id.map (Value.int .u8) = us at *
      go_wp2_with (first
        | (refine wpList_load_mid (by rfl) 29 (.tmp 69) (by rfl) ib (io + k * 32) (by rfl) us _ hr1 hui rfl hsi ?_))
      go_at_call 15
      refine hg1.mono ?_
      rintro e w14 ⟨g5, c5, rfl, hb5, k14⟩
      have HK14 : Hid (Kept [] wr w14) := k14
      have HB5 : Hid (∀ W, Kept [] w14 W → BytesAt W (.slice (some ⟨g5, 0, none⟩) ys.length c5) ys) := fun W q => hb5.kept' q (fun _ _ _ => by simp)
      have hr2 := HRG.out w14 k14
      have hg2 := HG2.out w14 k14
      clear hg1 hr1 hb5 k14 HG2
      go_wp2_with (first
        | (refine wpList_load_mid (by rfl) 29 (.tmp 78) (by rfl) ib (io + k * 32) (by rfl) us _ hr2 hui rfl hsi ?_))
      go_at_call 15
      refine hg2.mono ?_
      rintro e w15 ⟨g6, c6, rfl, hb6, k15⟩
      have heq := Eq_same (HB5.out w15 k15) hb6 (by omega)
      have HK15 : Hid (Kept [] w9 w15) := HR.out.then (HK14.out.then k15)
      clear hg2 hr2 hb6 k15
      go_wp2_with (first
        | (go_at_call 12; refine (num4_any _ _).mono ?_; rintro e wn ⟨rfl, hwn⟩; subst wn))
      go_at_call 16
      refine heq.mono ?_
      rintro e w16 ⟨rfl, q16, hw16⟩
      have HE : Hid (Kept [] w9 w16) := by rw [hw16]; exact HK15.out.drewN q16
      clear heq hw16
      go_wp2
      go_roundw
      case rel => exact ⟨k + 1, by omega, by go_num, HE⟩
      case measure => simp [intOf]; omega
    · have t1 : decide ((k : Int) < (ids.length : Int)) = false := decide_eq_false (by omega)
      have hduo := HDD.out wr HR.out
      have HFa : Hid (∀ W, Kept [b2] wr W → Fl W s b n' D') := fun W q => Fl.away hduo q
      have HMa : Hid (∀ W, Kept [b2] wr W → BytesAt W (.slice (some ⟨w5.heap.size, 0, none⟩) 6 6) xs) := fun W q => HM9.out [b2] W ((HR.out.more (by simp)).then'' q) (by simpa using HNB.out.2)
      have hln := Len_st hduo.one.st
      have hcl := Clear_st hduo.two.st
      have HKR : Hid (Kept [] W0 wr) := HK9.out.then HR.out
      obtain ⟨m, hm⟩ : ∃ m, m = Maps.size D' := ⟨_, rfl⟩
      rw [← hm] at hln
      have HM : Hid (m = Maps.size D') := hm
      clear hduo hm
      go_wp2_with fail
      go_at_call 14
      refine hln.mono ?_
      rintro e wn ⟨rfl, hwn⟩
      subst wn
      clear hln
      go_wp2_with fail
      go_at_call 23
      refine hcl.mono ?_
      rintro e w17 ⟨⟨cv, rfl⟩, hst, k17⟩
      have HS17 : Hid (∀ W, Kept [] w17 W → St W s2 b2 0 (.map [])) := fun W q => hst.on q
      have HK17 : Hid (Kept [b2] wr w17) := k17
      have hln := Len_st hst
      have hids := Ids_any hst (by omega) (fun _ _ _ _ hk => by cases hk)
      clear hcl hst k17
      have e0 : ((Maps.size (DataW.map [] : DataW Unit) : Nat) : Int) = 0 := rfl
      rw [e0] at hln
      go_wp2_with fail
      go_at_call 14
      refine hln.mono ?_
      rintro e wn ⟨rfl, hwn⟩
      subst wn
      clear hln
      go_wp2_with fail
      go_at_call 13
      refine hids.mono ?_
      rintro e w18 ⟨v4, ids4, rfl, hown, hof, k18⟩
      obtain rfl : ids4 = [] := List.eq_nil_of_length_eq_zero hof.len
      obtain ⟨v4o, v4c, rfl, _⟩ : IdsAt w18 v4 [] := hown.at (fun id hid => by cases hid) (by decide)
      have HK18 : Hid (Kept [b2] wr w18) := HK17.out.then' k18
      have hln := Len_st (HFa.out w18 HK18.out).st
      rw [← HM.out] at hln
      clear hids hown hof k18
      go_wp2_with fail
      go_at_call 14
      refine hln.mono ?_
      rintro e wn ⟨rfl, hwn⟩
      subst wn
      have HK0w : Hid (Kept [] W0 w18) := kept_newP HKR.out HK18.out HBB.out.2
      have hid := HID.out w18 (HVV.out w18 HK0w.out).1 (HMa.out w18 HK18.out)
      clear hln
      go_wp2_with fail
      go_at_call 19
      refine hid.mono ?_
      rintro e w19 ⟨rfl, k19⟩
      have hha := HHA.out w19 s b n' D' (HFa.out w19 (HK18.out.then' k19)).st
      rw [HHD.out] at hha
      have HK19 : Hid (Kept [] W0 w19) := HK0w.out.then k19
      clear hid k19
      go_wp2_with fail
      go_at_call 22
      refine hha.mono ?_
      rintro e w20 ⟨rfl, k20⟩
      have HK20 : Hid (Kept [] w w20) := HK0.out.then (HK19.out.then k20)
      clear hha k20
      go_wp2
      go_ret
      exact ⟨rfl, HK20.out⟩
end Go.Proofs.YtbphibolgckmnaaGreatDoor
