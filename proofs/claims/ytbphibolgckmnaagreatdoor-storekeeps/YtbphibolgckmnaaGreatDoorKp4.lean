/-
  WALK: satchellaw4.StoreKeeps.
-/
import Derived.Test.YtbphibolgckmnaaGreatDoorFl1
import Derived.Test.YtbphibolgckmnaaGreatDoorLk4
import Derived.Test.YtbphibolgckmnaaGreatDoorOt1
namespace Go.Proofs.YtbphibolgckmnaaGreatDoor
open Go.RowKit Go.WideMaps

/-- An id of a full store: its entry. -/
theorem Fl.entry [TabC] {w : World} {s b n : Nat} {D : DataW Unit} (h : Fl w s b n D) {id : List Int} (hg : GoodID id) (hy : Maps.has D (idKey id) = true) : ∃ g c xs, D.atKey (idKey id) .nil = slD g xs.length c ∧ id = digL xs ∧ parErr xs = 0 ∧ Octs xs ∧ BytesAt w (.slice (some ⟨g, 0, none⟩) xs.length c) xs := by
  obtain ⟨g, c, xs, h1, h2, h3, h4, h5⟩ := h.good _ hy
  exact ⟨g, c, xs, h1, idKey_inj hg ⟨digL_len xs, digL_octs xs⟩ h2, h3, h4, h5⟩
set_option maxRecDepth 100000 in
set_option maxHeartbeats 16000000 in
theorem keeps4_any [TabC] (ev gv : Value) (nn : Int) (L : List (List Int)) (G : List Int) (w : World) (hV : Vars w) (hT : Tabs w) (hL : LsAt w ev L) (hG : NsAt w gv G) :
    Calls Tryz.prog 7 #[.agg #[ev, gv, .int .i64 nn]] w fun e w' => e = .returned (.bool true) ∧ Kept [] w w' := by
  obtain ⟨W0, hW0⟩ : ∃ W0, W0 = w.alloc (.cells #[ev, gv, .int .i64 nn] 45) := ⟨_, rfl⟩
  have HW0 : Hid (W0 = w.alloc (.cells #[ev, gv, .int .i64 nn] 45)) := hW0
  have k0 : Kept [] w W0 := by rw [hW0]; exact (Kept.refl _ _).alloc _
  have HK0 : Hid (Kept [] w W0) := k0
  have HC : Hid (∀ W, Kept [] W0 W → W.cell? ⟨w.heap.size, 0, none⟩ = some ev) := fun W k => by
    have h := k.heap (show W0.heap[w.heap.size]? = _ by rw [hW0]; exact heap_alloc_new w _) (by simp)
    rw [cell_of_row _ _ _ _ _ _ h]; rfl
  have hV0 := hV.kept k0 (by simp) (by simp)
  have HV : Hid (∀ W, Kept [] W0 W → Vars W ∧ Tabs W) := fun W k => ⟨hV0.kept k (by simp) (by simp), hT.kept (k0.then k)⟩
  have hfill := filled_any ev gv nn L G W0 hV0 (hT.kept k0) (hL.kept k0) (hG.kept k0)
  have HL : Hid (∀ W, Kept [] W0 W → LsAt W ev L) := fun W k => hL.kept (k0.then k)
  obtain ⟨eo, ec, rfl, hLl, _⟩ := hL
  obtain ⟨go, gc, rfl, _⟩ := hG
  clear hV k0 hV0 hT
  go_enter Tryz.func7, Tryz.ntmps7
  go_wp2_with fail
  go_at_call 17
  rw [← HW0.out]
  refine hfill.mono ?_
  rintro e w1 ⟨s, b, n, D, rfl, hfl, hn80, hs, hb, k1⟩
  have HB : Hid (W0.heap.size ≤ s ∧ W0.heap.size ≤ b) := ⟨hs, hb⟩
  have HN : Hid (n ≤ 80) := hn80
  have HK1 : Hid (Kept [] W0 w1) := k1
  have HF1 : Hid (∀ W, Kept [] w1 W → Fl W s b n D) := fun W q => hfl.on q
  have hids := Ids_any hfl.st (by omega) hfl.non
  clear hfill hs hb k1 hfl hW0
  go_wp2_with fail
  go_at_call 13
  refine hids.mono ?_
  rintro e w2 ⟨v, ids, rfl, hown, hof, k2⟩
  have HOF : Hid (IdsOf D ids) := hof
  have hlen : ids.length ≤ 140737488351232 := by
    have := (HF1.out w1 (Kept.refl _ _)).st.size
    rw [hof.len]
    omega
  have hat : IdsAt w2 v ids := hown.at (fun id hid => (hof.mem id hid).1) hlen
  have HI : Hid (∀ W, Kept [] w2 W → IdsAt W v ids) := fun W q => hat.onK q
  have HK2 : Hid (Kept [] W0 w2) := HK1.out.then k2
  have HF2 : Hid (∀ W, Kept [] w2 W → Fl W s b n D) := fun W q => HF1.out W (k2.then q)
  have hln := Len_st (HF2.out w2 (Kept.refl _ _)).st
  rw [← hof.len] at hln
  obtain ⟨vo, vc, rfl, _⟩ := hat
  clear hids hown hof k2 HF1
  go_wp2_with fail
  go_at_call 14
  refine hln.mono ?_
  rintro e wn ⟨rfl, hwn⟩
  subst wn
  clear hln
  have hui := Tryz.underlying29
  have tne : ((ids.length : Int) != (ids.length : Int)) = false := by simp
  go_wp2
  go_loopw [6, 7, 8, 9, 10, 11, 12, 13, 14] (fun s6 _ _ _ _ _ _ _ _ wr => ∃ k : Nat, k ≤ ids.length ∧ s6 = .int .i64 k ∧ Hid (Kept [] w2 wr)) (fun s6 _ _ _ _ _ _ _ _ _ => ids.length - (intOf s6).toNat)
  case atStart => exact ⟨0, Nat.zero_le _, rfl, Kept.refl _ _⟩
  case round =>
    obtain ⟨k, hk, rfl, HR⟩ := hrel
    by_cases hlt : k < ids.length
    · have t1 : decide ((k : Int) < (ids.length : Int)) = true := decide_eq_true (by omega)
      obtain ⟨id, hidk⟩ : ∃ id, ids[k]? = some id := ⟨_, List.getElem?_eq_getElem hlt⟩
      have hidm := List.mem_of_getElem? hidk
      obtain ⟨hgi, hyi⟩ := HOF.out.mem id hidm
      obtain ⟨ge, ce, xs, hat, hde, hpe, hox, hbx⟩ := (HF2.out wr HR.out).entry hgi hyi
      obtain ⟨ao', cap', he, _, _, _, hc⟩ := HI.out wr HR.out
      injection he with e1 _ e3
      subst e1 e3
      obtain ⟨ib, io, rfl, hir⟩ := hc (by intro e; rw [e] at hlt; simp at hlt)
      have HRG : Hid (∀ W, Kept [] wr W → W.rangeAt ib (io + k * 32) (id.map (Value.int .u8))) := fun W q => range_kept (hir k id hidk) q (by simp)
      have HRP : Hid (∀ (j : Nat) (jd : List Int), ids[j]? = some jd → ∀ W, Kept [] wr W → W.rangeAt ib (io + j * 32) (jd.map (Value.int .u8))) := fun j jd hj W q => range_kept (hir j jd hj) q (by simp)
      have hsi : (Tryz.prog.info? 29).map (·.size) = some (id.map (Value.int .u8)).length := by rw [List.length_map, hgi.1]; exact Tryz.infoID
      have hxne : xs ≠ [] := par_ne hpe
      have hxl : xs.length ≤ 65536 := (parErr_zero hpe).1
      obtain ⟨kx, hkx⟩ : ∃ kx, kx = kindX xs := ⟨_, rfl⟩
      have hk0 : (kx == 0) = false := by
        rw [hkx]
        unfold kindX
        rw [if_pos hpe]
        have := (parErr_zero hpe).2.1
        simp
        omega
      obtain ⟨lk, hlk⟩ : ∃ lk, lk = chX xs := ⟨_, rfl⟩
      have HVT : Hid (∀ W, Kept [] wr W → Vars W ∧ Tabs W ∧ Fl W s b n D) := fun W q => ⟨(HV.out W (HK2.out.then (HR.out.then q))).1, (HV.out W (HK2.out.then (HR.out.then q))).2, HF2.out W (HR.out.then q)⟩
      have HBX : Hid (∀ W, Kept [] wr W → BytesAt W (.slice (some ⟨ge, 0, none⟩) xs.length ce) xs) := fun W q => hbx.kept' q (fun _ _ _ => by simp)
      obtain ⟨us, hus⟩ : ∃ us, us = id.map (Value.int .u8) := ⟨_, rfl⟩
      have hidc : idC id = us.toArray := by rw [hus]; rfl
      rw [← hus] at HRG hsi
      have HG1 : Hid (∀ W, Kept [] wr W → Calls Tryz.prog 15 #[.pointer (some ⟨s, 0, none⟩), .agg us.toArray] W fun e w' => ∃ g' c', e = .returned (.tuple #[.slice (some ⟨g', 0, none⟩) xs.length c', .int .i64 0]) ∧ BytesAt w' (.slice (some ⟨g', 0, none⟩) xs.length c') xs ∧ Kept [] W w') := fun W q => by
        rw [← hidc]
        exact Get_st (HVT.out W q).2.2.st hgi hyi hat (HBX.out W q) hxne (by omega)
      have HG2 : Hid (∀ W, Kept [] wr W → Calls Tryz.prog 25 #[.pointer (some ⟨s, 0, none⟩), .agg us.toArray] W fun e w' => e = .returned (.tuple #[.int .i64 kx, .int .i64 0]) ∧ Kept [] W w') := fun W q => by
        rw [← hidc, hkx]
        exact Kind_st (HVT.out W q).2.2.st hgi hyi hat (HBX.out W q) hox (HVT.out W q).2.1
      have HG3 : Hid (∀ W, Kept [] wr W → Calls Tryz.prog 26 #[.pointer (some ⟨s, 0, none⟩), .agg us.toArray] W fun e w' => ∃ lv, e = .returned (.tuple #[lv, .int .i64 0]) ∧ LinksAt w' lv lk ∧ Kept [] W w') := fun W q => by
        rw [← hidc, hlk, ← hpe]
        exact Children_st (HVT.out W q).2.2.st hgi hyi hat (HBX.out W q) hox (HVT.out W q).2.1
      have HG4 : Hid (∀ W v, Kept [] wr W → BytesAt W v xs → Calls Tryz.prog 27 #[v] W fun e w' => ∃ lv, e = .returned (.tuple #[lv, .int .i64 0]) ∧ LinksAt w' lv lk ∧ Kept [] W w') := fun W v q hb => by
        rw [hlk, ← hpe]
        exact Children_any v xs W hb hox (HVT.out W q).2.1
      have HKX : Hid (∀ W v, Kept [] wr W → BytesAt W v xs → Calls Tryz.prog 29 #[v] W fun e w' => e = .returned (.int .i64 kx) ∧ Kept [] W w') := fun W v q hb => by
        rw [hkx]
        exact Kind_any v xs W hb hox (HVT.out W q).2.1
      have HSX : Hid (∀ W v, Kept [] wr W → BytesAt W v xs → Calls Tryz.prog 28 #[v] W fun e w' => e = .returned (.agg us.toArray) ∧ Kept [] W w') := fun W v q hb => by
        have h := Sum_any W v xs (HVT.out W q).1 hb hox (by omega)
        rw [← hde, hidc] at h
        exact h
      have HHX : Hid (∀ W, Kept [] wr W → Calls Tryz.prog 22 #[.pointer (some ⟨s, 0, none⟩), .agg us.toArray] W fun e w' => e = .returned (.bool true) ∧ Kept [] W w') := fun W q => by
        have h := Has_st (HVT.out W q).2.2.st hgi
        rw [hyi, hidc] at h
        exact h
      have HLI : Hid (∀ k, k ∈ lk → k.id.length = 32) := by
        rw [hlk]
        exact chX_id hox
      have HEQ : Hid (∀ W, (Op.equalIn 10000 29 (.agg us.toArray) (.agg us.toArray)).run Tryz.prog W = .ok true W) := fun W => by
        rw [← hidc]
        have h1 := idEq id id W hgi.1 hgi.1
        simpa using h1
      have HIDK : Hid (ids[k]? = some id ∧ us = id.map (Value.int .u8) ∧ GoodID id) := ⟨hidk, hus, hgi⟩
      have hr1 := HRG.out wr (Kept.refl _ _)
      have hg1 := HG1.out wr (Kept.refl _ _)
      clear hc hir hidk hidm hgi hyi hat hde hpe hox hbx hxne hkx hlk hus hidc HG1
      go_wp2_with (first
        | (refine wpList_load_mid (by rfl) 29 (.tmp 43) (by rfl) ib (io + k * 32) (by rfl) us _ hr1 hui rfl hsi ?_))
      go_at_call 15
      refine hg1.mono ?_
      rintro e w3 ⟨g3, c3, rfl, hb3, k3⟩
      have HK3 : Hid (Kept [] wr w3) := k3
      have HB3 : Hid (∀ W, Kept [] w3 W → BytesAt W (.slice (some ⟨g3, 0, none⟩) xs.length c3) xs) := fun W q => hb3.kept' q (fun _ _ _ => by simp)
      have hr2 := HRG.out w3 k3
      have hg2 := HG2.out w3 k3
      clear hg1 hr1 hb3 k3 HG2
      go_wp2_with (first
        | (refine wpList_load_mid (by rfl) 29 (.tmp 52) (by rfl) ib (io + k * 32) (by rfl) us _ hr2 hui rfl hsi ?_))
      go_at_call 25
      refine hg2.mono ?_
      rintro e w4 ⟨rfl, k4⟩
      have HK4 : Hid (Kept [] w3 w4) := k4
      have hr3 := HRG.out w4 (HK3.out.then k4)
      have hg3 := HG3.out w4 (HK3.out.then k4)
      clear hg2 hr2 k4 HG3
      go_wp2_with (first
        | (refine wpList_load_mid (by rfl) 29 (.tmp 61) (by rfl) ib (io + k * 32) (by rfl) us _ hr3 hui rfl hsi ?_))
      go_at_call 26
      refine hg3.mono ?_
      rintro e w5 ⟨lv, rfl, hl5, k5⟩
      have HK5 : Hid (Kept [] w3 w5) := HK4.out.then k5
      have HL5 : Hid (∀ W, Kept [] w5 W → LinksAt W lv lk) := fun W q => hl5.kept q
      obtain ⟨lo, lc, rfl, _⟩ := hl5.form
      have hg4 := HG4.out w5 (.slice (some ⟨g3, 0, none⟩) xs.length c3) (HK3.out.then HK5.out) (HB3.out w5 HK5.out)
      clear hg3 hr3 hl5 k5 HG4
      go_wp2_with fail
      go_at_call 27
      refine hg4.mono ?_
      rintro e w6 ⟨lv2, rfl, hl6, k6⟩
      have HL6 : Hid (∀ W, Kept [] w6 W → LinksAt W lv2 lk) := fun W q => hl6.kept q
      obtain ⟨lo2, lc2, rfl, _⟩ := hl6.form
      have HK6 : Hid (Kept [] wr w6) := (HK3.out.then HK5.out).then k6
      have HK36 : Hid (Kept [] w3 w6) := HK5.out.then k6
      have HNUM : Hid (∀ W, Kept [] w6 W → Calls Tryz.prog 12 #[.int .i64 0] W fun e w' => e = .returned (.int .i64 0) ∧ Kept [] w6 w') := fun W q => (num4_any 0 W).mono fun _ _ ⟨h1, h2⟩ => ⟨h1, by rw [h2]; exact q⟩
      have HSUM : Hid (∀ W, Kept [] w6 W → Calls Tryz.prog 28 #[.slice (some ⟨g3, 0, none⟩) xs.length c3] W fun e w' => e = .returned (.agg us.toArray) ∧ Kept [] w6 w') := fun W q => (HSX.out W _ (HK6.out.then q) (HB3.out W (HK36.out.then q))).mono fun _ _ ⟨h1, h2⟩ => ⟨h1, q.then h2⟩
      have HKND : Hid (∀ W, Kept [] w6 W → Calls Tryz.prog 29 #[.slice (some ⟨g3, 0, none⟩) xs.length c3] W fun e w' => e = .returned (.int .i64 kx) ∧ Kept [] w6 w') := fun W q => (HKX.out W _ (HK6.out.then q) (HB3.out W (HK36.out.then q))).mono fun _ _ ⟨h1, h2⟩ => ⟨h1, q.then h2⟩
      have HSAME : Hid (∀ W, Kept [] w6 W → Calls Tryz.prog 30 #[.slice lo lk.length lc, .slice lo2 lk.length lc2] W fun e w' => e = .returned (.bool true) ∧ Kept [] w6 w') := fun W q => (sameLinks4_eq _ _ lk W (HL5.out W (k6.then q)) (HL6.out W q) HLI.out).mono fun _ _ ⟨h1, h2⟩ => ⟨h1, q.then h2⟩
      have HHAS : Hid (∀ W, Kept [] w6 W → Calls Tryz.prog 22 #[.pointer (some ⟨s, 0, none⟩), .agg us.toArray] W fun e w' => e = .returned (.bool true) ∧ Kept [] w6 w') := fun W q => (HHX.out W (HK6.out.then q)).mono fun _ _ ⟨h1, h2⟩ => ⟨h1, q.then h2⟩
      replace HRG : Hid (∀ W, Kept [] w6 W → W.rangeAt ib (io + k * 32) us) := fun W q => HRG.out W (HK6.out.then q)
      have tk : (kx != kx) = false := by simp
      have tl : ((0 : Int) != 0) = false := rfl
      clear hg4 hl6 k6 HSX HKX HHX
      go_wp2_with fail
      refine region_quiet (Kept [] w6) (by kernel_rfl) (by kernel_rfl) (Kept.refl [] w6).drew ?_
      with_reducible refine wpQuiet_step ?_
      intro K hK
      rw [if_pos (by go_simp)]
      refine move_at (.tmp 8) rfl (.int .i64 0) rfl (hK _ ?_)
      clear hK K
      simp only [Act.put, List.setIfInBounds_toArray, List.set_cons_zero, List.set_cons_succ]
      with_reducible refine wpQuiet_step ?_
      intro K hK
      rw [if_pos (by go_simp)]
      refine call_at 12 #[.int .i64 0] (.int .i64 0) (fun W => by go_simp) HNUM.out (hK _ ?_)
      clear hK K
      simp only [Act.put, List.setIfInBounds_toArray, List.set_cons_zero, List.set_cons_succ]
      with_reducible refine wpQuiet_step ?_
      intro K hK
      rw [if_pos (by go_simp)]
      refine val_at (.bool false) (fun W => by go_simp) (hK _ ?_)
      clear hK K
      simp only [Act.put, List.setIfInBounds_toArray, List.set_cons_zero, List.set_cons_succ]
      with_reducible refine wpQuiet_step ?_
      intro K hK
      rw [if_pos (by go_simp)]
      refine move_at (.tmp 73) rfl (.bool false) rfl (hK _ ?_)
      clear hK K
      simp only [Act.put, List.setIfInBounds_toArray, List.set_cons_zero, List.set_cons_succ]
      with_reducible refine wpQuiet_step ?_
      intro K hK
      rw [if_pos (by go_simp)]
      refine move_at (.tmp 10) rfl (.int .i64 0) rfl (hK _ ?_)
      clear hK K
      simp only [Act.put, List.setIfInBounds_toArray, List.set_cons_zero, List.set_cons_succ]
      with_reducible refine wpQuiet_step ?_
      intro K hK
      rw [if_pos (by go_simp)]
      refine call_at 12 #[.int .i64 0] (.int .i64 0) (fun W => by go_simp) HNUM.out (hK _ ?_)
      clear hK K
      simp only [Act.put, List.setIfInBounds_toArray, List.set_cons_zero, List.set_cons_succ]
      with_reducible refine wpQuiet_step ?_
      intro K hK
      rw [if_pos (by go_simp)]
      refine val_at (.bool false) (fun W => by go_simp) (hK _ ?_)
      clear hK K
      simp only [Act.put, List.setIfInBounds_toArray, List.set_cons_zero, List.set_cons_succ]
      with_reducible refine wpQuiet_step ?_
      intro K hK
      rw [if_pos (by go_simp)]
      refine val_at (.bool false) (fun W => by go_simp) (hK _ ?_)
      clear hK K
      simp only [Act.put, List.setIfInBounds_toArray, List.set_cons_zero, List.set_cons_succ]
      with_reducible refine wpQuiet_step ?_
      intro K hK
      rw [if_pos (by go_simp)]
      refine move_at (.tmp 78) rfl (.bool false) rfl (hK _ ?_)
      clear hK K
      simp only [Act.put, List.setIfInBounds_toArray, List.set_cons_zero, List.set_cons_succ]
      with_reducible refine wpQuiet_step ?_
      intro K hK
      rw [if_pos (by go_simp)]
      refine move_at (.tmp 12) rfl (.int .i64 0) rfl (hK _ ?_)
      clear hK K
      simp only [Act.put, List.setIfInBounds_toArray, List.set_cons_zero, List.set_cons_succ]
      with_reducible refine wpQuiet_step ?_
      intro K hK
      rw [if_pos (by go_simp)]
      refine call_at 12 #[.int .i64 0] (.int .i64 0) (fun W => by go_simp) HNUM.out (hK _ ?_)
      clear hK K
      simp only [Act.put, List.setIfInBounds_toArray, List.set_cons_zero, List.set_cons_succ]
      with_reducible refine wpQuiet_step ?_
      intro K hK
      rw [if_pos (by go_simp)]
      refine val_at (.bool false) (fun W => by go_simp) (hK _ ?_)
      clear hK K
      simp only [Act.put, List.setIfInBounds_toArray, List.set_cons_zero, List.set_cons_succ]
      with_reducible refine wpQuiet_step ?_
      intro K hK
      rw [if_pos (by go_simp)]
      refine val_at (.bool false) (fun W => by go_simp) (hK _ ?_)
      clear hK K
      simp only [Act.put, List.setIfInBounds_toArray, List.set_cons_zero, List.set_cons_succ]
      with_reducible refine wpQuiet_step ?_
      intro K hK
      rw [if_pos (by go_simp)]
      refine move_at (.tmp 83) rfl (.bool false) rfl (hK _ ?_)
      clear hK K
      simp only [Act.put, List.setIfInBounds_toArray, List.set_cons_zero, List.set_cons_succ]
      with_reducible refine wpQuiet_step ?_
      intro K hK
      rw [if_pos (by go_simp)]
      refine move_at (.tmp 14) rfl (.int .i64 0) rfl (hK _ ?_)
      clear hK K
      simp only [Act.put, List.setIfInBounds_toArray, List.set_cons_zero, List.set_cons_succ]
      with_reducible refine wpQuiet_step ?_
      intro K hK
      rw [if_pos (by go_simp)]
      refine call_at 12 #[.int .i64 0] (.int .i64 0) (fun W => by go_simp) HNUM.out (hK _ ?_)
      clear hK K
      simp only [Act.put, List.setIfInBounds_toArray, List.set_cons_zero, List.set_cons_succ]
      with_reducible refine wpQuiet_step ?_
      intro K hK
      rw [if_pos (by go_simp)]
      refine val_at (.bool false) (fun W => by go_simp) (hK _ ?_)
      clear hK K
      simp only [Act.put, List.setIfInBounds_toArray, List.set_cons_zero, List.set_cons_succ]
      with_reducible refine wpQuiet_step ?_
      intro K hK
      rw [if_pos (by go_simp)]
      refine val_at (.bool false) (fun W => by go_simp) (hK _ ?_)
      clear hK K
      simp only [Act.put, List.setIfInBounds_toArray, List.set_cons_zero, List.set_cons_succ]
      with_reducible refine wpQuiet_step ?_
      intro K hK
      rw [if_pos (by go_simp)]
      refine move_at (.tmp 88) rfl (.bool false) rfl (hK _ ?_)
      clear hK K
      simp only [Act.put, List.setIfInBounds_toArray, List.set_cons_zero, List.set_cons_succ]
      with_reducible refine wpQuiet_step ?_
      intro K hK
      rw [if_pos (by go_simp)]
      refine move_at (.tmp 7) rfl (.slice (some ⟨g3, 0, none⟩) xs.length c3) rfl (hK _ ?_)
      clear hK K
      simp only [Act.put, List.setIfInBounds_toArray, List.set_cons_zero, List.set_cons_succ]
      with_reducible refine wpQuiet_step ?_
      intro K hK
      rw [if_pos (by go_simp)]
      refine call_at 28 #[.slice (some ⟨g3, 0, none⟩) xs.length c3] (.agg us.toArray) (fun W => by go_simp) HSUM.out (hK _ ?_)
      clear hK K
      simp only [Act.put, List.setIfInBounds_toArray, List.set_cons_zero, List.set_cons_succ]
      with_reducible refine wpQuiet_step ?_
      intro K hK
      rw [if_pos (by go_simp)]
      refine move_at (.tmp 5) rfl (.slice (some ⟨ib, io, none⟩) ids.length vc) rfl (hK _ ?_)
      clear hK K
      simp only [Act.put, List.setIfInBounds_toArray, List.set_cons_zero, List.set_cons_succ]
      with_reducible refine wpQuiet_step ?_
      intro K hK
      rw [if_pos (by go_simp)]
      refine move_at (.tmp 6) rfl (.int .i64 k) rfl (hK _ ?_)
      clear hK K
      simp only [Act.put, List.setIfInBounds_toArray, List.set_cons_zero, List.set_cons_succ]
      with_reducible refine wpQuiet_step ?_
      intro K hK
      rw [if_pos (by go_simp)]
      refine val_at (.pointer (some ⟨ib, io + k * 32, none⟩)) (fun W => by go_simp) (hK _ ?_)
      clear hK K
      simp only [Act.put, List.setIfInBounds_toArray, List.set_cons_zero, List.set_cons_succ]
      with_reducible refine wpQuiet_step ?_
      intro K hK
      rw [if_pos (by go_simp)]
      refine row_at 29 (.tmp 94) rfl ib (io + k * 32) rfl us _ HRG.out hui rfl hsi (hK _ ?_)
      clear hK K
      simp only [Act.put, List.setIfInBounds_toArray, List.set_cons_zero, List.set_cons_succ]
      with_reducible refine wpQuiet_step ?_
      intro K hK
      rw [if_pos (by go_simp)]
      refine neq_at (.tmp 91) (.tmp 95) _ rfl us.toArray us.toArray rfl rfl true HEQ.out (hK _ ?_)
      clear hK K
      simp only [Act.put, List.setIfInBounds_toArray, List.set_cons_zero, List.set_cons_succ]
      with_reducible refine wpQuiet_step ?_
      intro K hK
      rw [if_pos (by go_simp)]
      refine val_at (.bool false) (fun W => by go_simp) (hK _ ?_)
      clear hK K
      simp only [Act.put, List.setIfInBounds_toArray, List.set_cons_zero, List.set_cons_succ]
      with_reducible refine wpQuiet_step ?_
      intro K hK
      rw [if_pos (by go_simp)]
      refine move_at (.tmp 97) rfl (.bool false) rfl (hK _ ?_)
      clear hK K
      simp only [Act.put, List.setIfInBounds_toArray, List.set_cons_zero, List.set_cons_succ]
      with_reducible refine wpQuiet_step ?_
      intro K hK
      rw [if_pos (by go_simp)]
      refine move_at (.tmp 9) rfl (.int .i64 kx) rfl (hK _ ?_)
      clear hK K
      simp only [Act.put, List.setIfInBounds_toArray, List.set_cons_zero, List.set_cons_succ]
      with_reducible refine wpQuiet_step ?_
      intro K hK
      rw [if_pos (by go_simp)]
      refine move_at (.tmp 7) rfl (.slice (some ⟨g3, 0, none⟩) xs.length c3) rfl (hK _ ?_)
      clear hK K
      simp only [Act.put, List.setIfInBounds_toArray, List.set_cons_zero, List.set_cons_succ]
      with_reducible refine wpQuiet_step ?_
      intro K hK
      rw [if_pos (by go_simp)]
      refine call_at 29 #[.slice (some ⟨g3, 0, none⟩) xs.length c3] (.int .i64 kx) (fun W => by go_simp) HKND.out (hK _ ?_)
      clear hK K
      simp only [Act.put, List.setIfInBounds_toArray, List.set_cons_zero, List.set_cons_succ]
      with_reducible refine wpQuiet_step ?_
      intro K hK
      rw [if_pos (by go_simp)]
      refine val_at (.bool false) (fun W => by go_simp) (hK _ ?_)
      clear hK K
      simp only [Act.put, List.setIfInBounds_toArray, List.set_cons_zero, List.set_cons_succ]
      with_reducible refine wpQuiet_step ?_
      intro K hK
      rw [if_pos (by go_simp)]
      refine val_at (.bool false) (fun W => by go_simp) (hK _ ?_)
      clear hK K
      simp only [Act.put, List.setIfInBounds_toArray, List.set_cons_zero, List.set_cons_succ]
      with_reducible refine wpQuiet_step ?_
      intro K hK
      rw [if_pos (by go_simp)]
      refine move_at (.tmp 103) rfl (.bool false) rfl (hK _ ?_)
      clear hK K
      simp only [Act.put, List.setIfInBounds_toArray, List.set_cons_zero, List.set_cons_succ]
      with_reducible refine wpQuiet_step ?_
      intro K hK
      rw [if_pos (by go_simp)]
      refine move_at (.tmp 9) rfl (.int .i64 kx) rfl (hK _ ?_)
      clear hK K
      simp only [Act.put, List.setIfInBounds_toArray, List.set_cons_zero, List.set_cons_succ]
      with_reducible refine wpQuiet_step ?_
      intro K hK
      rw [if_pos (by go_simp)]
      refine val_at (.bool false) (fun W => by go_simp) (hK _ ?_)
      clear hK K
      simp only [Act.put, List.setIfInBounds_toArray, List.set_cons_zero, List.set_cons_succ]
      with_reducible refine wpQuiet_step ?_
      intro K hK
      rw [if_pos (by go_simp)]
      refine val_at (.bool false) (fun W => by go_simp) (hK _ ?_)
      clear hK K
      simp only [Act.put, List.setIfInBounds_toArray, List.set_cons_zero, List.set_cons_succ]
      with_reducible refine wpQuiet_step ?_
      intro K hK
      rw [if_pos (by go_simp)]
      refine move_at (.tmp 107) rfl (.bool false) rfl (hK _ ?_)
      clear hK K
      simp only [Act.put, List.setIfInBounds_toArray, List.set_cons_zero, List.set_cons_succ]
      with_reducible refine wpQuiet_step ?_
      intro K hK
      rw [if_pos (by go_simp)]
      refine move_at (.tmp 11) rfl (.slice lo lk.length lc) rfl (hK _ ?_)
      clear hK K
      simp only [Act.put, List.setIfInBounds_toArray, List.set_cons_zero, List.set_cons_succ]
      with_reducible refine wpQuiet_step ?_
      intro K hK
      rw [if_pos (by go_simp)]
      refine move_at (.tmp 13) rfl (.slice lo2 lk.length lc2) rfl (hK _ ?_)
      clear hK K
      simp only [Act.put, List.setIfInBounds_toArray, List.set_cons_zero, List.set_cons_succ]
      with_reducible refine wpQuiet_step ?_
      intro K hK
      rw [if_pos (by go_simp)]
      refine call_at 30 #[.slice lo lk.length lc, .slice lo2 lk.length lc2] (.bool true) (fun W => by go_simp) HSAME.out (hK _ ?_)
      clear hK K
      simp only [Act.put, List.setIfInBounds_toArray, List.set_cons_zero, List.set_cons_succ]
      with_reducible refine wpQuiet_step ?_
      intro K hK
      rw [if_pos (by go_simp)]
      refine val_at (.bool false) (fun W => by go_simp) (hK _ ?_)
      clear hK K
      simp only [Act.put, List.setIfInBounds_toArray, List.set_cons_zero, List.set_cons_succ]
      with_reducible refine wpQuiet_step ?_
      intro K hK
      rw [if_pos (by go_simp)]
      refine val_at (.bool false) (fun W => by go_simp) (hK _ ?_)
      clear hK K
      simp only [Act.put, List.setIfInBounds_toArray, List.set_cons_zero, List.set_cons_succ]
      with_reducible refine wpQuiet_step ?_
      intro K hK
      rw [if_pos (by go_simp)]
      refine move_at (.tmp 113) rfl (.bool false) rfl (hK _ ?_)
      clear hK K
      simp only [Act.put, List.setIfInBounds_toArray, List.set_cons_zero, List.set_cons_succ]
      with_reducible refine wpQuiet_step ?_
      intro K hK
      rw [if_pos (by go_simp)]
      refine move_at (.tmp 3) rfl (.pointer (some ⟨s, 0, none⟩)) rfl (hK _ ?_)
      clear hK K
      simp only [Act.put, List.setIfInBounds_toArray, List.set_cons_zero, List.set_cons_succ]
      with_reducible refine wpQuiet_step ?_
      intro K hK
      rw [if_pos (by go_simp)]
      refine move_at (.tmp 5) rfl (.slice (some ⟨ib, io, none⟩) ids.length vc) rfl (hK _ ?_)
      clear hK K
      simp only [Act.put, List.setIfInBounds_toArray, List.set_cons_zero, List.set_cons_succ]
      with_reducible refine wpQuiet_step ?_
      intro K hK
      rw [if_pos (by go_simp)]
      refine move_at (.tmp 6) rfl (.int .i64 k) rfl (hK _ ?_)
      clear hK K
      simp only [Act.put, List.setIfInBounds_toArray, List.set_cons_zero, List.set_cons_succ]
      with_reducible refine wpQuiet_step ?_
      intro K hK
      rw [if_pos (by go_simp)]
      refine val_at (.pointer (some ⟨ib, io + k * 32, none⟩)) (fun W => by go_simp) (hK _ ?_)
      clear hK K
      simp only [Act.put, List.setIfInBounds_toArray, List.set_cons_zero, List.set_cons_succ]
      with_reducible refine wpQuiet_step ?_
      intro K hK
      rw [if_pos (by go_simp)]
      refine row_at 29 (.tmp 118) rfl ib (io + k * 32) rfl us _ HRG.out hui rfl hsi (hK _ ?_)
      clear hK K
      simp only [Act.put, List.setIfInBounds_toArray, List.set_cons_zero, List.set_cons_succ]
      with_reducible refine wpQuiet_step ?_
      intro K hK
      rw [if_pos (by go_simp)]
      refine call_at 22 #[.pointer (some ⟨s, 0, none⟩), .agg us.toArray] (.bool true) (fun W => by go_simp) HHAS.out (hK _ ?_)
      clear hK K
      simp only [Act.put, List.setIfInBounds_toArray, List.set_cons_zero, List.set_cons_succ]
      with_reducible refine wpQuiet_step ?_
      intro K hK
      rw [if_pos (by go_simp)]
      refine val_at (.bool false) (fun W => by go_simp) (hK _ ?_)
      clear hK K
      simp only [Act.put, List.setIfInBounds_toArray, List.set_cons_zero, List.set_cons_succ]
      with_reducible refine wpQuiet_step ?_
      intro K hK
      rw [if_pos (by go_simp)]
      refine val_at (.bool false) (fun W => by go_simp) (hK _ ?_)
      clear hK K
      simp only [Act.put, List.setIfInBounds_toArray, List.set_cons_zero, List.set_cons_succ]
      refine wpQuiet_nil fun w7 k7 => ?_
      have HK7 : Hid (Kept [] wr w7) := HK6.out.then k7
      clear k7 HNUM HSUM HKND HSAME HHAS HRG tk HK6 HK36 HL5 HL6
      by_cases hk1 : 0 < k
      · obtain ⟨jd, hjd⟩ : ∃ jd, ids[k - 1]? = some jd := ⟨_, List.getElem?_eq_getElem (by omega)⟩
        have hgj := (HOF.out.mem jd (List.mem_of_getElem? hjd)).1
        have hlt2 : cmpB jd id < 0 := by
          have h1 := List.pairwise_iff_getElem.1 HOF.out.sorted (k - 1) k (by omega) hlt (by omega)
          have e1 : ids[k - 1]'(by omega) = jd := by simpa using (List.getElem?_eq_some_iff.1 hjd).2
          have e2 : ids[k]'hlt = id := by simpa using (List.getElem?_eq_some_iff.1 HIDK.out.1).2
          rw [e1, e2] at h1
          exact h1
        obtain ⟨r, hr⟩ : ∃ r, r = cmpZ jd id := ⟨_, rfl⟩
        have hr0 : r < 0 := by rw [hr, cmpZ_cmpB]; exact hlt2
        obtain ⟨us0, hus0⟩ : ∃ us0, us0 = jd.map (Value.int .u8) := ⟨_, rfl⟩
        have hsi0 : (Tryz.prog.info? 29).map (·.size) = some us0.length := by rw [hus0, List.length_map, hgj.1]; exact Tryz.infoID
        have HRG0 : Hid (∀ W, Kept [] w7 W → W.rangeAt ib (io + (k - 1) * 32) us0) := fun W q => by
          rw [hus0]
          exact HRP.out (k - 1) jd hjd W (HK7.out.then q)
        have HRG : Hid (∀ W, Kept [] w7 W → W.rangeAt ib (io + k * 32) us) := fun W q => by
          rw [HIDK.out.2.1]
          exact HRP.out k id HIDK.out.1 W (HK7.out.then q)
        have HCMP : Hid (∀ W, Kept [] w7 W → Calls Tryz.prog 31 #[.agg us0.toArray, .agg us.toArray] W fun e w' => e = .returned (.int .i64 r) ∧ Kept [] w7 w') := fun W q => by
          rw [hus0, HIDK.out.2.1, hr]
          exact (CmpID_any jd id W hgj HIDK.out.2.2).mono fun _ _ ⟨h1, h2⟩ => ⟨h1, q.then h2⟩
        have u1 : decide ((0 : Int) < (k : Int)) = true := decide_eq_true (by omega)
        have u2 : IntKind.i64.wrap ((k : Int) - 1) = ((k - 1 : Nat) : Int) := by
          rw [show ((k - 1 : Nat) : Int) = (k : Int) - 1 by omega]
          simp [IntKind.wrap, IntKind.bits, IntKind.signed]
          omega
        have u3 : k - 1 < ids.length := by omega
        have u4 : decide ((0 : Int) ≤ r) = false := decide_eq_false (by omega)
        clear hjd hgj hlt2 hr hus0
        go_wp2_with fail
        refine region_quiet (Kept [] w7) (by kernel_rfl) (by kernel_rfl) (Kept.refl [] w7).drew ?_
        with_reducible refine wpQuiet_step ?_
        intro K hK
        rw [if_pos (by go_simp)]
        refine move_at (.tmp 6) rfl (.int .i64 k) rfl (hK _ ?_)
        clear hK K
        simp only [Act.put, List.setIfInBounds_toArray, List.set_cons_zero, List.set_cons_succ]
        with_reducible refine wpQuiet_step ?_
        intro K hK
        rw [if_pos (by go_simp)]
        refine val_at (.bool true) (fun W => by go_simp) (hK _ ?_)
        clear hK K
        simp only [Act.put, List.setIfInBounds_toArray, List.set_cons_zero, List.set_cons_succ]
        with_reducible refine wpQuiet_step ?_
        intro K hK
        rw [if_pos (by go_simp)]
        refine move_at (.tmp 124) rfl (.bool true) rfl (hK _ ?_)
        clear hK K
        simp only [Act.put, List.setIfInBounds_toArray, List.set_cons_zero, List.set_cons_succ]
        with_reducible refine wpQuiet_step ?_
        intro K hK
        rw [if_pos (by go_simp)]
        refine move_at (.tmp 5) rfl (.slice (some ⟨ib, io, none⟩) ids.length vc) rfl (hK _ ?_)
        clear hK K
        simp only [Act.put, List.setIfInBounds_toArray, List.set_cons_zero, List.set_cons_succ]
        with_reducible refine wpQuiet_step ?_
        intro K hK
        rw [if_pos (by go_simp)]
        refine move_at (.tmp 6) rfl (.int .i64 k) rfl (hK _ ?_)
        clear hK K
        simp only [Act.put, List.setIfInBounds_toArray, List.set_cons_zero, List.set_cons_succ]
        with_reducible refine wpQuiet_step ?_
        intro K hK
        rw [if_pos (by go_simp)]
        refine val_at (.int .i64 ((k - 1 : Nat) : Int)) (fun W => by go_simp) (hK _ ?_)
        clear hK K
        simp only [Act.put, List.setIfInBounds_toArray, List.set_cons_zero, List.set_cons_succ]
        with_reducible refine wpQuiet_step ?_
        intro K hK
        rw [if_pos (by go_simp)]
        refine val_at (.pointer (some ⟨ib, io + (k - 1) * 32, none⟩)) (fun W => by go_simp) (hK _ ?_)
        clear hK K
        simp only [Act.put, List.setIfInBounds_toArray, List.set_cons_zero, List.set_cons_succ]
        with_reducible refine wpQuiet_step ?_
        intro K hK
        rw [if_pos (by go_simp)]
        refine row_at 29 (.tmp 129) rfl ib (io + (k - 1) * 32) rfl us0 _ HRG0.out hui rfl hsi0 (hK _ ?_)
        clear hK K
        simp only [Act.put, List.setIfInBounds_toArray, List.set_cons_zero, List.set_cons_succ]
        with_reducible refine wpQuiet_step ?_
        intro K hK
        rw [if_pos (by go_simp)]
        refine move_at (.tmp 5) rfl (.slice (some ⟨ib, io, none⟩) ids.length vc) rfl (hK _ ?_)
        clear hK K
        simp only [Act.put, List.setIfInBounds_toArray, List.set_cons_zero, List.set_cons_succ]
        with_reducible refine wpQuiet_step ?_
        intro K hK
        rw [if_pos (by go_simp)]
        refine move_at (.tmp 6) rfl (.int .i64 k) rfl (hK _ ?_)
        clear hK K
        simp only [Act.put, List.setIfInBounds_toArray, List.set_cons_zero, List.set_cons_succ]
        with_reducible refine wpQuiet_step ?_
        intro K hK
        rw [if_pos (by go_simp)]
        refine val_at (.pointer (some ⟨ib, io + k * 32, none⟩)) (fun W => by go_simp) (hK _ ?_)
        clear hK K
        simp only [Act.put, List.setIfInBounds_toArray, List.set_cons_zero, List.set_cons_succ]
        with_reducible refine wpQuiet_step ?_
        intro K hK
        rw [if_pos (by go_simp)]
        refine row_at 29 (.tmp 133) rfl ib (io + k * 32) rfl us _ HRG.out hui rfl hsi (hK _ ?_)
        clear hK K
        simp only [Act.put, List.setIfInBounds_toArray, List.set_cons_zero, List.set_cons_succ]
        with_reducible refine wpQuiet_step ?_
        intro K hK
        rw [if_pos (by go_simp)]
        refine call_at 31 #[.agg us0.toArray, .agg us.toArray] (.int .i64 r) (fun W => by go_simp) HCMP.out (hK _ ?_)
        clear hK K
        simp only [Act.put, List.setIfInBounds_toArray, List.set_cons_zero, List.set_cons_succ]
        with_reducible refine wpQuiet_step ?_
        intro K hK
        rw [if_pos (by go_simp)]
        refine val_at (.bool false) (fun W => by go_simp) (hK _ ?_)
        clear hK K
        simp only [Act.put, List.setIfInBounds_toArray, List.set_cons_zero, List.set_cons_succ]
        with_reducible refine wpQuiet_step ?_
        intro K hK
        rw [if_pos (by go_simp)]
        refine val_at (.bool false) (fun W => by go_simp) (hK _ ?_)
        clear hK K
        simp only [Act.put, List.setIfInBounds_toArray, List.set_cons_zero, List.set_cons_succ]
        refine wpQuiet_nil fun w8 k8 => ?_
        have HE : Hid (Kept [] w2 w8) := HR.out.then (HK7.out.then k8)
        clear k8
        go_wp2
        go_roundw
        case rel => exact ⟨k + 1, by omega, by go_num, HE⟩
        case measure => simp [intOf]; omega
      · obtain rfl : k = 0 := by omega
        go_wp2_with fail
        refine region_quiet (Kept [] w7) (by kernel_rfl) (by kernel_rfl) (Kept.refl [] w7).drew ?_
        with_reducible refine wpQuiet_step ?_
        intro K hK
        rw [if_pos (by go_simp)]
        refine move_at (.tmp 6) rfl (.int .i64 ((0 : Nat) : Int)) rfl (hK _ ?_)
        clear hK K
        simp only [Act.put, List.setIfInBounds_toArray, List.set_cons_zero, List.set_cons_succ]
        with_reducible refine wpQuiet_step ?_
        intro K hK
        rw [if_pos (by go_simp)]
        refine val_at (.bool false) (fun W => by go_simp) (hK _ ?_)
        clear hK K
        simp only [Act.put, List.setIfInBounds_toArray, List.set_cons_zero, List.set_cons_succ]
        with_reducible refine wpQuiet_step ?_
        intro K hK
        rw [if_pos (by go_simp)]
        refine move_at (.tmp 124) rfl (.bool false) rfl (hK _ ?_)
        clear hK K
        simp only [Act.put, List.setIfInBounds_toArray, List.set_cons_zero, List.set_cons_succ]
        with_reducible refine wpQuiet_step ?_
        intro K hK
        rw [if_neg (by go_simp)]
        refine hK _ ?_
        clear hK K
        simp only [Act.put, List.setIfInBounds_toArray, List.set_cons_zero, List.set_cons_succ]
        with_reducible refine wpQuiet_step ?_
        intro K hK
        rw [if_neg (by go_simp)]
        refine hK _ ?_
        clear hK K
        simp only [Act.put, List.setIfInBounds_toArray, List.set_cons_zero, List.set_cons_succ]
        with_reducible refine wpQuiet_step ?_
        intro K hK
        rw [if_neg (by go_simp)]
        refine hK _ ?_
        clear hK K
        simp only [Act.put, List.setIfInBounds_toArray, List.set_cons_zero, List.set_cons_succ]
        with_reducible refine wpQuiet_step ?_
        intro K hK
        rw [if_neg (by go_simp)]
        refine hK _ ?_
        clear hK K
        simp only [Act.put, List.setIfInBounds_toArray, List.set_cons_zero, List.set_cons_succ]
        with_reducible refine wpQuiet_step ?_
        intro K hK
        rw [if_neg (by go_simp)]
        refine hK _ ?_
        clear hK K
        simp only [Act.put, List.setIfInBounds_toArray, List.set_cons_zero, List.set_cons_succ]
        with_reducible refine wpQuiet_step ?_
        intro K hK
        rw [if_neg (by go_simp)]
        refine hK _ ?_
        clear hK K
        simp only [Act.put, List.setIfInBounds_toArray, List.set_cons_zero, List.set_cons_succ]
        with_reducible refine wpQuiet_step ?_
        intro K hK
        rw [if_neg (by go_simp)]
        refine hK _ ?_
        clear hK K
        simp only [Act.put, List.setIfInBounds_toArray, List.set_cons_zero, List.set_cons_succ]
        with_reducible refine wpQuiet_step ?_
        intro K hK
        rw [if_neg (by go_simp)]
        refine hK _ ?_
        clear hK K
        simp only [Act.put, List.setIfInBounds_toArray, List.set_cons_zero, List.set_cons_succ]
        with_reducible refine wpQuiet_step ?_
        intro K hK
        rw [if_neg (by go_simp)]
        refine hK _ ?_
        clear hK K
        simp only [Act.put, List.setIfInBounds_toArray, List.set_cons_zero, List.set_cons_succ]
        with_reducible refine wpQuiet_step ?_
        intro K hK
        rw [if_neg (by go_simp)]
        refine hK _ ?_
        clear hK K
        simp only [Act.put, List.setIfInBounds_toArray, List.set_cons_zero, List.set_cons_succ]
        with_reducible refine wpQuiet_step ?_
        intro K hK
        rw [if_neg (by go_simp)]
        refine hK _ ?_
        clear hK K
        simp only [Act.put, List.setIfInBounds_toArray, List.set_cons_zero, List.set_cons_succ]
        with_reducible refine wpQuiet_step ?_
        intro K hK
        rw [if_pos (by go_simp)]
        refine val_at (.bool false) (fun W => by go_simp) (hK _ ?_)
        clear hK K
        simp only [Act.put, List.setIfInBounds_toArray, List.set_cons_zero, List.set_cons_succ]
        refine wpQuiet_nil fun w8 k8 => ?_
        have HE : Hid (Kept [] w2 w8) := HR.out.then (HK7.out.then k8)
        clear k8
        go_wp2
        go_roundw
        case rel => exact ⟨0 + 1, by omega, by go_num, HE⟩
        case measure => simp [intOf]; omega
    · have t1 : decide ((k : Int) < (ids.length : Int)) = false := decide_eq_false (by omega)
      have HKR : Hid (Kept [] w2 wr) := HR.out
      have c0 := HC.out wr (HK2.out.then HR.out)
      clear HR
      go_wp2
      go_loopw [15, 16, 17, 18] (fun s15 _ _ _ wr => ∃ j : Nat, j ≤ L.length ∧ j ≤ 80 ∧ s15 = .int .i64 j ∧ Hid (Kept [] w2 wr)) (fun s15 _ _ _ _ => L.length - (intOf s15).toNat)
      case atStart => exact ⟨0, Nat.zero_le _, Nat.zero_le _, rfl, HKR.out⟩
      case round =>
        obtain ⟨j, hj, hj80, rfl, HR⟩ := hrel
        have c1 := HC.out wr (HK2.out.then HR.out)
        by_cases hj1 : j < L.length
        · by_cases hj2 : j < 80
          · have u1 : decide ((j : Int) < (L.length : Int)) = true := decide_eq_true (by omega)
            have u2 : decide ((j : Int) < 80) = true := decide_eq_true (by omega)
            obtain ⟨xs, hxs⟩ : ∃ xs, L[j]? = some xs := ⟨_, List.getElem?_eq_getElem hj1⟩
            obtain ⟨ao1, cap1, he, _, hoc, hcl⟩ := HL.out wr (HK2.out.then HR.out)
            obtain ⟨eb, ef, rfl, hcm⟩ := hcl (fun e => by rw [e] at hj1; simp at hj1)
            injection he with he1 _ he3
            subst he1 he3
            obtain ⟨u, hcu, hbu⟩ := hcm j xs hxs
            obtain ⟨ho, hxl⟩ := hoc xs (List.mem_of_getElem? hxs)
            have hgd : GoodID (digL xs) := ⟨digL_len xs, digL_octs xs⟩
            obtain ⟨us, hus⟩ : ∃ us, us = (digL xs).map (Value.int .u8) := ⟨_, rfl⟩
            have hidc : idC (digL xs) = us.toArray := by rw [hus]; rfl
            have hsi : (Tryz.prog.info? 29).map (·.size) = some us.length := by rw [hus, List.length_map, digL_len]; exact Tryz.infoID
            have hu32 : us.toArray.size = 32 := by rw [← hidc, idC_size (digL_len xs)]
            have hsz : (Tryz.prog.info? 29).map (·.size) = some us.toArray.size := by rw [hu32]; exact Tryz.infoID
            have hzz : (idC zid).size = us.toArray.size := by rw [hu32]; rfl
            have hone : us.toArray.all (·.oneCell') = true := by rw [← hidc]; exact all_oneCell_toArray (map_oneCell _)
            have hid : Calls Tryz.prog 19 #[u] wr fun e w' => e = .returned (.agg us.toArray) ∧ Kept [] wr w' := by
              rw [← hidc]
              exact Id_any u xs wr (HV.out wr (HK2.out.then HR.out)).1 hbu ho (by omega)
            have HEQ : Hid (∀ W, (Op.equalIn 10000 29 (.agg us.toArray) (.agg us.toArray)).run Tryz.prog W = .ok true W) := fun W => by
              rw [← hidc]
              have h1 := idEq (digL xs) (digL xs) W (digL_len xs) (digL_len xs)
              simpa using h1
            have HHX : Hid (∀ W, Kept [] wr W → Calls Tryz.prog 22 #[.pointer (some ⟨s, 0, none⟩), .agg us.toArray] W fun e w' => e = .returned (.bool (Maps.has D (idKey (digL xs)))) ∧ Kept [] W w') := fun W q => by
              have h := Has_st (HF2.out W (HR.out.then q)).st hgd
              rw [hidc] at h
              exact h
            have HGN : Hid (Maps.has D (idKey (digL xs)) = false → ∀ W, Kept [] wr W → Calls Tryz.prog 15 #[.pointer (some ⟨s, 0, none⟩), .agg us.toArray] W fun e w' => e = .returned (.tuple #[.slice none 0 0, .int .i64 41]) ∧ Kept [] W w') := fun hn W q => by
              rw [← hidc]
              exact Get_none (HF2.out W (HR.out.then q)).st hgd hn
            have HGY : Hid (Maps.has D (idKey (digL xs)) = true → ∃ ys, ys.length ≤ 65536 ∧ Octs ys ∧ us = (digL ys).map (Value.int .u8) ∧ ∀ W, Kept [] wr W → Calls Tryz.prog 15 #[.pointer (some ⟨s, 0, none⟩), .agg us.toArray] W fun e w' => ∃ g' c', e = .returned (.tuple #[.slice (some ⟨g', 0, none⟩) ys.length c', .int .i64 0]) ∧ BytesAt w' (.slice (some ⟨g', 0, none⟩) ys.length c') ys ∧ Kept [] W w') := fun hy => by
              obtain ⟨ge, ce, ys, hat, hde, hpe, hoy, hby⟩ := (HF2.out wr HR.out).entry hgd hy
              refine ⟨ys, (parErr_zero hpe).1, hoy, by rw [← hde]; exact hus, fun W q => ?_⟩
              rw [← hidc]
              exact Get_st (HF2.out W (HR.out.then q)).st hgd hy hat (hby.kept' q (fun _ _ _ => by simp)) (par_ne hpe) (by have := (parErr_zero hpe).1; omega)
            obtain ⟨uo, uc, rfl, _⟩ := hbu
            clear hcl hcm hoc hxs hus hidc hgd
            go_wp2_with fail
            go_at_call 19
            refine hid.mono ?_
            rintro e w3 ⟨rfl, k3⟩
            obtain ⟨w4, hw4⟩ : ∃ w4, w4 = w3.alloc (.cells us.toArray 29) := ⟨_, rfl⟩
            have HW4 : Hid (w4 = w3.alloc (.cells us.toArray 29)) := hw4
            have k34 : Kept [] w3 w4 := by rw [hw4]; exact (Kept.refl _ _).alloc _
            have HK4 : Hid (Kept [] wr w4) := k3.then k34
            have HR4 : Hid (∀ W, Kept [] w4 W → W.rangeAt w3.heap.size 0 us) := fun W q => row_range (q.heap (show w4.heap[w3.heap.size]? = some (.cells us.toArray 29 (0, 0)) by rw [hw4]; exact heap_alloc_new w3 _) (by simp))
            have hr4 := HR4.out w4 (Kept.refl _ _)
            clear hid k3 k34 hw4
            by_cases hy : Maps.has D (idKey (digL xs)) = true
            · obtain ⟨ys, hyl, hoy, hus, hget⟩ := HGY.out hy
              have HUY : Hid (us = (digL ys).map (Value.int .u8)) := hus
              clear hus
              have hg := hget w4 HK4.out
              rw [hy] at HHX
              clear hy HGN HGY HL HC HOF HI HF2
              go_wp2_with (first
                | (refine wpList_store_newS (by rfl) 29 (.tmp 16) (.tmp 154) (by rfl) w3 _ us.toArray (by rfl) (by rfl) hsz hzz hone ?_; rw [← HW4.out])
                | (refine wpList_load_mid (by rfl) 29 (.tmp 16) (by rfl) w3.heap.size 0 (by rfl) us _ hr4 hui rfl hsi ?_))
              go_at_call 15
              refine hg.mono ?_
              rintro e w5 ⟨g4, c4, rfl, hb5, k5⟩
              have HB5 : Hid (∀ W, Kept [] w5 W → BytesAt W (.slice (some ⟨g4, 0, none⟩) ys.length c4) ys) := fun W q => hb5.kept' q (fun _ _ _ => by simp)
              have HK5 : Hid (Kept [] wr w5) := HK4.out.then k5
              have HRG : Hid (∀ W, Kept [] w5 W → W.rangeAt w3.heap.size 0 us) := fun W q => HR4.out W (k5.then q)
              have HNUM : Hid (∀ W, Kept [] w5 W → Calls Tryz.prog 12 #[.int .i64 0] W fun e w' => e = .returned (.int .i64 0) ∧ Kept [] w5 w') := fun W q => (num4_any 0 W).mono fun _ _ ⟨h1, h2⟩ => ⟨h1, by rw [h2]; exact q⟩
              have HHAS : Hid (∀ W, Kept [] w5 W → Calls Tryz.prog 22 #[.pointer (some ⟨s, 0, none⟩), .agg us.toArray] W fun e w' => e = .returned (.bool true) ∧ Kept [] w5 w') := fun W q => (HHX.out W (HK5.out.then q)).mono fun _ _ ⟨h1, h2⟩ => ⟨h1, q.then h2⟩
              have HIDY : Hid (∀ W, Kept [] w5 W → Calls Tryz.prog 19 #[.slice (some ⟨g4, 0, none⟩) ys.length c4] W fun e w' => e = .returned (.agg us.toArray) ∧ Kept [] w5 w') := fun W q => by
                have h := Id_any _ ys W (HV.out W (HK2.out.then (HR.out.then (HK5.out.then q)))).1 (HB5.out W q) hoy (by omega)
                rw [show idC (digL ys) = us.toArray by rw [HUY.out]; rfl] at h
                exact h.mono fun _ _ ⟨h1, h2⟩ => ⟨h1, q.then h2⟩
              clear hg hget hb5 k5 HUY hr4
              go_wp2_with fail
              refine region_quiet (Kept [] w5) (by kernel_rfl) (by kernel_rfl) (Kept.refl [] w5).drew ?_
              with_reducible refine wpQuiet_step ?_
              intro K hK
              rw [if_pos (by go_simp)]
              refine move_at (.tmp 18) rfl (.int .i64 0) rfl (hK _ ?_)
              clear hK K
              simp only [Act.put, List.setIfInBounds_toArray, List.set_cons_zero, List.set_cons_succ]
              with_reducible refine wpQuiet_step ?_
              intro K hK
              rw [if_pos (by go_simp)]
              refine call_at 12 #[.int .i64 0] (.int .i64 0) (fun W => by go_simp) HNUM.out (hK _ ?_)
              clear hK K
              simp only [Act.put, List.setIfInBounds_toArray, List.set_cons_zero, List.set_cons_succ]
              with_reducible refine wpQuiet_step ?_
              intro K hK
              rw [if_pos (by go_simp)]
              refine val_at (.bool true) (fun W => by go_simp) (hK _ ?_)
              clear hK K
              simp only [Act.put, List.setIfInBounds_toArray, List.set_cons_zero, List.set_cons_succ]
              with_reducible refine wpQuiet_step ?_
              intro K hK
              rw [if_pos (by go_simp)]
              refine move_at (.tmp 3) rfl (.pointer (some ⟨s, 0, none⟩)) rfl (hK _ ?_)
              clear hK K
              simp only [Act.put, List.setIfInBounds_toArray, List.set_cons_zero, List.set_cons_succ]
              with_reducible refine wpQuiet_step ?_
              intro K hK
              rw [if_pos (by go_simp)]
              refine row_at 29 (.tmp 16) rfl w3.heap.size 0 rfl us _ HRG.out hui rfl hsi (hK _ ?_)
              clear hK K
              simp only [Act.put, List.setIfInBounds_toArray, List.set_cons_zero, List.set_cons_succ]
              with_reducible refine wpQuiet_step ?_
              intro K hK
              rw [if_pos (by go_simp)]
              refine call_at 22 #[.pointer (some ⟨s, 0, none⟩), .agg us.toArray] (.bool true) (fun W => by go_simp) HHAS.out (hK _ ?_)
              clear hK K
              simp only [Act.put, List.setIfInBounds_toArray, List.set_cons_zero, List.set_cons_succ]
              with_reducible refine wpQuiet_step ?_
              intro K hK
              rw [if_pos (by go_simp)]
              refine val_at (.bool false) (fun W => by go_simp) (hK _ ?_)
              clear hK K
              simp only [Act.put, List.setIfInBounds_toArray, List.set_cons_zero, List.set_cons_succ]
              with_reducible refine wpQuiet_step ?_
              intro K hK
              rw [if_pos (by go_simp)]
              refine move_at (.tmp 167) rfl (.bool false) rfl (hK _ ?_)
              clear hK K
              simp only [Act.put, List.setIfInBounds_toArray, List.set_cons_zero, List.set_cons_succ]
              with_reducible refine wpQuiet_step ?_
              intro K hK
              rw [if_pos (by go_simp)]
              refine move_at (.tmp 18) rfl (.int .i64 0) rfl (hK _ ?_)
              clear hK K
              simp only [Act.put, List.setIfInBounds_toArray, List.set_cons_zero, List.set_cons_succ]
              with_reducible refine wpQuiet_step ?_
              intro K hK
              rw [if_pos (by go_simp)]
              refine call_at 12 #[.int .i64 0] (.int .i64 0) (fun W => by go_simp) HNUM.out (hK _ ?_)
              clear hK K
              simp only [Act.put, List.setIfInBounds_toArray, List.set_cons_zero, List.set_cons_succ]
              with_reducible refine wpQuiet_step ?_
              intro K hK
              rw [if_pos (by go_simp)]
              refine val_at (.bool true) (fun W => by go_simp) (hK _ ?_)
              clear hK K
              simp only [Act.put, List.setIfInBounds_toArray, List.set_cons_zero, List.set_cons_succ]
              with_reducible refine wpQuiet_step ?_
              intro K hK
              rw [if_pos (by go_simp)]
              refine move_at (.tmp 171) rfl (.bool true) rfl (hK _ ?_)
              clear hK K
              simp only [Act.put, List.setIfInBounds_toArray, List.set_cons_zero, List.set_cons_succ]
              with_reducible refine wpQuiet_step ?_
              intro K hK
              rw [if_pos (by go_simp)]
              refine move_at (.tmp 17) rfl (.slice (some ⟨g4, 0, none⟩) ys.length c4) rfl (hK _ ?_)
              clear hK K
              simp only [Act.put, List.setIfInBounds_toArray, List.set_cons_zero, List.set_cons_succ]
              with_reducible refine wpQuiet_step ?_
              intro K hK
              rw [if_pos (by go_simp)]
              refine call_at 19 #[.slice (some ⟨g4, 0, none⟩) ys.length c4] (.agg us.toArray) (fun W => by go_simp) HIDY.out (hK _ ?_)
              clear hK K
              simp only [Act.put, List.setIfInBounds_toArray, List.set_cons_zero, List.set_cons_succ]
              with_reducible refine wpQuiet_step ?_
              intro K hK
              rw [if_pos (by go_simp)]
              refine row_at 29 (.tmp 16) rfl w3.heap.size 0 rfl us _ HRG.out hui rfl hsi (hK _ ?_)
              clear hK K
              simp only [Act.put, List.setIfInBounds_toArray, List.set_cons_zero, List.set_cons_succ]
              with_reducible refine wpQuiet_step ?_
              intro K hK
              rw [if_pos (by go_simp)]
              refine neq_at (.tmp 174) (.tmp 175) _ rfl us.toArray us.toArray rfl rfl true HEQ.out (hK _ ?_)
              clear hK K
              simp only [Act.put, List.setIfInBounds_toArray, List.set_cons_zero, List.set_cons_succ]
              with_reducible refine wpQuiet_step ?_
              intro K hK
              rw [if_pos (by go_simp)]
              refine val_at (.bool false) (fun W => by go_simp) (hK _ ?_)
              clear hK K
              simp only [Act.put, List.setIfInBounds_toArray, List.set_cons_zero, List.set_cons_succ]
              with_reducible refine wpQuiet_step ?_
              intro K hK
              rw [if_pos (by go_simp)]
              refine val_at (.bool false) (fun W => by go_simp) (hK _ ?_)
              clear hK K
              simp only [Act.put, List.setIfInBounds_toArray, List.set_cons_zero, List.set_cons_succ]
              refine wpQuiet_nil fun w6 k6 => ?_
              have HE : Hid (Kept [] w2 w6) := HR.out.then (HK5.out.then k6)
              clear k6
              go_wp2
              go_roundw
              case rel => exact ⟨j + 1, by omega, by omega, by go_num, HE⟩
              case measure => simp [intOf]; omega
            · have hn : Maps.has D (idKey (digL xs)) = false := by simpa using hy
              have hg := HGN.out hn w4 HK4.out
              rw [hn] at HHX
              clear hy hn HGN HGY HL HC HOF HI HF2
              go_wp2_with (first
                | (refine wpList_store_newS (by rfl) 29 (.tmp 16) (.tmp 154) (by rfl) w3 _ us.toArray (by rfl) (by rfl) hsz hzz hone ?_; rw [← HW4.out])
                | (refine wpList_load_mid (by rfl) 29 (.tmp 16) (by rfl) w3.heap.size 0 (by rfl) us _ hr4 hui rfl hsi ?_))
              go_at_call 15
              refine hg.mono ?_
              rintro e w5 ⟨rfl, k5⟩
              have HK5 : Hid (Kept [] wr w5) := HK4.out.then k5
              have HRG : Hid (∀ W, Kept [] w5 W → W.rangeAt w3.heap.size 0 us) := fun W q => HR4.out W (k5.then q)
              have HNUM : Hid (∀ W, Kept [] w5 W → Calls Tryz.prog 12 #[.int .i64 41] W fun e w' => e = .returned (.int .i64 41) ∧ Kept [] w5 w') := fun W q => (num4_any 41 W).mono fun _ _ ⟨h1, h2⟩ => ⟨h1, by rw [h2]; exact q⟩
              have HHAS : Hid (∀ W, Kept [] w5 W → Calls Tryz.prog 22 #[.pointer (some ⟨s, 0, none⟩), .agg us.toArray] W fun e w' => e = .returned (.bool false) ∧ Kept [] w5 w') := fun W q => (HHX.out W (HK5.out.then q)).mono fun _ _ ⟨h1, h2⟩ => ⟨h1, q.then h2⟩
              clear hg k5 hr4
              go_wp2_with fail
              refine region_quiet (Kept [] w5) (by kernel_rfl) (by kernel_rfl) (Kept.refl [] w5).drew ?_
              with_reducible refine wpQuiet_step ?_
              intro K hK
              rw [if_pos (by go_simp)]
              refine move_at (.tmp 18) rfl (.int .i64 41) rfl (hK _ ?_)
              clear hK K
              simp only [Act.put, List.setIfInBounds_toArray, List.set_cons_zero, List.set_cons_succ]
              with_reducible refine wpQuiet_step ?_
              intro K hK
              rw [if_pos (by go_simp)]
              refine call_at 12 #[.int .i64 41] (.int .i64 41) (fun W => by go_simp) HNUM.out (hK _ ?_)
              clear hK K
              simp only [Act.put, List.setIfInBounds_toArray, List.set_cons_zero, List.set_cons_succ]
              with_reducible refine wpQuiet_step ?_
              intro K hK
              rw [if_pos (by go_simp)]
              refine val_at (.bool false) (fun W => by go_simp) (hK _ ?_)
              clear hK K
              simp only [Act.put, List.setIfInBounds_toArray, List.set_cons_zero, List.set_cons_succ]
              with_reducible refine wpQuiet_step ?_
              intro K hK
              rw [if_pos (by go_simp)]
              refine move_at (.tmp 3) rfl (.pointer (some ⟨s, 0, none⟩)) rfl (hK _ ?_)
              clear hK K
              simp only [Act.put, List.setIfInBounds_toArray, List.set_cons_zero, List.set_cons_succ]
              with_reducible refine wpQuiet_step ?_
              intro K hK
              rw [if_pos (by go_simp)]
              refine row_at 29 (.tmp 16) rfl w3.heap.size 0 rfl us _ HRG.out hui rfl hsi (hK _ ?_)
              clear hK K
              simp only [Act.put, List.setIfInBounds_toArray, List.set_cons_zero, List.set_cons_succ]
              with_reducible refine wpQuiet_step ?_
              intro K hK
              rw [if_pos (by go_simp)]
              refine call_at 22 #[.pointer (some ⟨s, 0, none⟩), .agg us.toArray] (.bool false) (fun W => by go_simp) HHAS.out (hK _ ?_)
              clear hK K
              simp only [Act.put, List.setIfInBounds_toArray, List.set_cons_zero, List.set_cons_succ]
              with_reducible refine wpQuiet_step ?_
              intro K hK
              rw [if_pos (by go_simp)]
              refine val_at (.bool false) (fun W => by go_simp) (hK _ ?_)
              clear hK K
              simp only [Act.put, List.setIfInBounds_toArray, List.set_cons_zero, List.set_cons_succ]
              with_reducible refine wpQuiet_step ?_
              intro K hK
              rw [if_pos (by go_simp)]
              refine move_at (.tmp 167) rfl (.bool false) rfl (hK _ ?_)
              clear hK K
              simp only [Act.put, List.setIfInBounds_toArray, List.set_cons_zero, List.set_cons_succ]
              with_reducible refine wpQuiet_step ?_
              intro K hK
              rw [if_pos (by go_simp)]
              refine move_at (.tmp 18) rfl (.int .i64 41) rfl (hK _ ?_)
              clear hK K
              simp only [Act.put, List.setIfInBounds_toArray, List.set_cons_zero, List.set_cons_succ]
              with_reducible refine wpQuiet_step ?_
              intro K hK
              rw [if_pos (by go_simp)]
              refine call_at 12 #[.int .i64 41] (.int .i64 41) (fun W => by go_simp) HNUM.out (hK _ ?_)
              clear hK K
              simp only [Act.put, List.setIfInBounds_toArray, List.set_cons_zero, List.set_cons_succ]
              with_reducible refine wpQuiet_step ?_
              intro K hK
              rw [if_pos (by go_simp)]
              refine val_at (.bool false) (fun W => by go_simp) (hK _ ?_)
              clear hK K
              simp only [Act.put, List.setIfInBounds_toArray, List.set_cons_zero, List.set_cons_succ]
              with_reducible refine wpQuiet_step ?_
              intro K hK
              rw [if_pos (by go_simp)]
              refine move_at (.tmp 171) rfl (.bool false) rfl (hK _ ?_)
              clear hK K
              simp only [Act.put, List.setIfInBounds_toArray, List.set_cons_zero, List.set_cons_succ]
              with_reducible refine wpQuiet_step ?_
              intro K hK
              rw [if_neg (by go_simp)]
              refine hK _ ?_
              clear hK K
              simp only [Act.put, List.setIfInBounds_toArray, List.set_cons_zero, List.set_cons_succ]
              with_reducible refine wpQuiet_step ?_
              intro K hK
              rw [if_neg (by go_simp)]
              refine hK _ ?_
              clear hK K
              simp only [Act.put, List.setIfInBounds_toArray, List.set_cons_zero, List.set_cons_succ]
              with_reducible refine wpQuiet_step ?_
              intro K hK
              rw [if_neg (by go_simp)]
              refine hK _ ?_
              clear hK K
              simp only [Act.put, List.setIfInBounds_toArray, List.set_cons_zero, List.set_cons_succ]
              with_reducible refine wpQuiet_step ?_
              intro K hK
              rw [if_neg (by go_simp)]
              refine hK _ ?_
              clear hK K
              simp only [Act.put, List.setIfInBounds_toArray, List.set_cons_zero, List.set_cons_succ]
              with_reducible refine wpQuiet_step ?_
              intro K hK
              rw [if_pos (by go_simp)]
              refine val_at (.bool false) (fun W => by go_simp) (hK _ ?_)
              clear hK K
              simp only [Act.put, List.setIfInBounds_toArray, List.set_cons_zero, List.set_cons_succ]
              with_reducible refine wpQuiet_step ?_
              intro K hK
              rw [if_pos (by go_simp)]
              refine val_at (.bool false) (fun W => by go_simp) (hK _ ?_)
              clear hK K
              simp only [Act.put, List.setIfInBounds_toArray, List.set_cons_zero, List.set_cons_succ]
              refine wpQuiet_nil fun w6 k6 => ?_
              have HE : Hid (Kept [] w2 w6) := HR.out.then (HK5.out.then k6)
              clear k6
              go_wp2
              go_roundw
              case rel => exact ⟨j + 1, by omega, by omega, by go_num, HE⟩
              case measure => simp [intOf]; omega
          · have u1 : decide ((j : Int) < (L.length : Int)) = true := decide_eq_true (by omega)
            have u2 : decide ((j : Int) < 80) = false := decide_eq_false (by omega)
            go_wp2
            go_ret
            exact ⟨rfl, HK0.out.then (HK2.out.then HR.out)⟩
        · have u1 : decide ((j : Int) < (L.length : Int)) = false := decide_eq_false (by omega)
          go_wp2
          go_ret
          exact ⟨rfl, HK0.out.then (HK2.out.then HR.out)⟩
end Go.Proofs.YtbphibolgckmnaaGreatDoor
