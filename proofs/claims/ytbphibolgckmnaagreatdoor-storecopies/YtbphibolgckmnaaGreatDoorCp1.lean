/-
  WALK: (*store.Store).Copy.
-/
import Derived.Test.YtbphibolgckmnaaGreatDoorRw2
import Derived.Test.YtbphibolgckmnaaGreatDoorAll1
namespace Go.Proofs.YtbphibolgckmnaaGreatDoor
open Go.RowKit Go.WideMaps

/-- An entry, and what a copy holds in its place. -/
structure Twins (w : World) (D D2 : DataW Unit) (kl : Lit) (g c g2 c2 : Nat) (xs : List Int) : Prop where
  at1 : D.atKey kl .nil = slD g xs.length c
  at2 : D2.atKey kl .nil = slD g2 xs.length c2
  b1 : BytesAt w (.slice (some ⟨g, 0, none⟩) xs.length c) xs
  b2 : BytesAt w (.slice (some ⟨g2, 0, none⟩) xs.length c2) xs
structure Cpy (w : World) (b r n : Nat) (D : DataW Unit) (s2 b2 : Nat) (left : Lit → Bool) (cnt : Nat) (wr : World) (n2 : Nat) (D2 : DataW Unit) : Prop where
  rng : wr.ranges Tryz.prog 29 slR b r n D left cnt
  st : St wr s2 b2 n2 D2
  num : n2 + cnt ≤ Maps.size D
  has : ∀ kl, Maps.has D2 kl = true ↔ (Maps.has D kl = true ∧ left kl = false)
  same : ∀ kl, Maps.has D2 kl = true → ∃ g c g2 c2 xs, Twins wr D D2 kl g c g2 c2 xs
  there : ∀ kl, left kl = true → Maps.has D kl = true
  keep : Kept [] w wr
theorem block_ne {w : World} {g : Nat} {xs : List Int} {c b : Nat} (h : BytesAt w (.slice (some ⟨g, 0, none⟩) xs.length c) xs) (hb : w.heap.size ≤ b) (hne : xs ≠ []) : g ≠ b := fun e => by
  obtain ⟨ao, cp, he, _, _, hc⟩ := h
  obtain ⟨b', off, rfl, hd⟩ := hc hne
  injection he with he _ _
  injection he with he
  injection he with h1 h2 _
  obtain ⟨x, r, rfl⟩ : ∃ x r, xs = x :: r := by cases xs with | nil => exact absurd rfl hne | cons x r => exact ⟨x, r, rfl⟩
  have h3 := World.block_lt_of_cell? w _ (hd 0 x rfl)
  have h4 : b' < w.heap.size := h3
  omega
set_option maxRecDepth 100000 in
set_option maxHeartbeats 8000000 in
theorem Copy_st {w : World} {s b n : Nat} {D : DataW Unit} (h : St w s b n D) (hn : n ≤ 1000000) (hE : NonE D) :
    Calls Tryz.prog 21 #[.pointer (some ⟨s, 0, none⟩)] w fun e w' => ∃ s2 b2 n2 D2, e = .returned (.pointer (some ⟨s2, 0, none⟩)) ∧ St w' s2 b2 n2 D2 ∧ n2 ≤ n ∧ (∀ kl, Maps.has D2 kl = Maps.has D kl) ∧ (∀ kl, Maps.has D kl = true → ∃ g c g2 c2 xs, Twins w' D D2 kl g c g2 c2 xs) ∧ w.heap.size ≤ s2 ∧ w.heap.size ≤ b2 ∧ Kept [] w w' := by
  have hnew := New_st w
  have HB : Hid (∀ W, Kept [] w W → W.cell? ⟨s, 0, none⟩ = some (.map (some b))) := fun W k => by rw [cell_of_row _ _ _ _ _ _ (k.heap h.blk (by simp))]; rfl
  have HO : Hid (∀ W, Kept [] w W → W.ownsMap Tryz.prog 29 slR b n D) := fun W k => (h.on k).own
  have HLI : Hid (∀ W, Kept [] w W → ∀ kl, Maps.has D kl = true → ∃ g c xs, D.atKey kl .nil = slD g xs.length c ∧ g < w.heap.size ∧ Octs xs ∧ xs.length ≤ 65536 ∧ xs ≠ [] ∧ BytesAt W (.slice (some ⟨g, 0, none⟩) xs.length c) xs) := fun W k kl hk => by
    obtain ⟨g, c, xs, h1, _, h3, h4, h5⟩ := (h.on k).lists kl hk
    have hne : xs ≠ [] := fun e => hE kl g _ c hk h1 (by rw [e]; rfl)
    obtain ⟨g', c', xs', q1, _, _, _, q5⟩ := h.lists kl hk
    obtain ⟨rfl, ql, rfl⟩ := slD_inj (h1.symm.trans q1)
    refine ⟨g, c, xs, h1, ?_, h3, h4, hne, h5⟩
    rcases Nat.lt_or_ge g w.heap.size with q | q
    · exact q
    · exact absurd rfl (block_ne q5 q (fun e => by rw [e] at ql; exact hne (List.eq_nil_of_length_eq_zero ql)))
  have hsn : Maps.size D ≤ n := h.size
  have hui := Tryz.underlying29
  have HBL : Hid (b < w.heap.size) := h.lt.2
  clear h hE
  go_enter Tryz.func21, Tryz.ntmps21
  go_wp2_with fail
  go_at_call 10
  refine hnew.mono ?_
  rintro e w1 ⟨s2, b2, rfl, hst1, hs2, hb2, k1⟩
  have hcell := HB.out w1 k1
  have HS1 : Hid (St w1 s2 b2 0 (.map []) ∧ w.heap.size ≤ s2 ∧ w.heap.size ≤ b2 ∧ Kept [] w w1) := ⟨hst1, hs2, hb2, k1⟩
  have hown := HO.out w1 k1
  clear hnew hst1 hs2 hb2 k1
  go_wp2_with (first
    | (at_range; refine wpList_range_own _ (by rfl) _ 68 (by rfl) 29 33 Tryz.keyId Tryz.underlying68 slR b n D (by rfl) hown ?_; intro w2 hrg2 hg2 hsz2))
  go_frame
  have k12 : Kept [] w1 w2 := (Kept.refl _ _).grown hg2 (fun _ e => by cases e)
  have HG2 : Hid (Cpy w b w1.heap.size n D s2 b2 (Maps.has D) (Maps.size D) w2 0 (.map [])) := by
    obtain ⟨q1, q2, q3, q4⟩ := HS1.out
    refine ⟨hrg2, q1.on k12, by omega, fun kl => ⟨fun e => (by cases e), fun e => ?_⟩, fun kl e => (by cases e), fun _ e => e, q4.then k12⟩
    rw [e.1] at e
    cases e.2
  have HRW : Hid (w.heap.size ≤ w1.heap.size) := HS1.out.2.2.2.size
  have HSB : Hid (w.heap.size ≤ s2 ∧ w.heap.size ≤ b2) := ⟨HS1.out.2.1, HS1.out.2.2.1⟩
  clear hrg2 hg2 hsz2 k12 hcell hown HS1
  generalize w1.heap.size = r at *
  go_loopw [4, 5] (fun _ _ wr => ∃ x : Nat, Hid (∃ left cnt n2 D2, Cpy w b r n D s2 b2 left cnt wr n2 D2)) (fun _ _ wr => wr.rangeLeft b r)
  case atStart => exact ⟨0, _, _, _, _, HG2.out⟩
  case round =>
    obtain ⟨_, HH⟩ := hrel
    obtain ⟨left, cnt, n2, D2, hG⟩ := HH.out
    have HG : Hid (Cpy w b r n D s2 b2 left cnt wr n2 D2) := hG
    have hrg := hG.rng
    clear hG
    go_wp2_with (first
      | (at_next; refine wpList_next_ranges _ (by rfl) _ (by rfl) 29 Tryz.keyId slR (fun x : { id : List Int // GoodID id } => Value.agg (idC x.1)) (fun c : Option Addr × Nat × Nat => Value.slice c.1 c.2.1 c.2.2) (fun key kl hk => by obtain ⟨id, hid, e, _⟩ := key_id_inv hk; exact ⟨⟨id, hid⟩, e⟩) slR_shape b r n _ _ _ (by rfl) hrg ?_ ?_))
    · intro hc0 hl0
      have HF : Hid (St wr s2 b2 n2 D2 ∧ n2 ≤ n ∧ (∀ kl, Maps.has D2 kl = Maps.has D kl) ∧ (∀ kl, Maps.has D kl = true → ∃ g c g2 c2 xs, Twins wr D D2 kl g c g2 c2 xs) ∧ Kept [] w wr) := by
        have hG := HG.out
        have hh : ∀ kl, Maps.has D2 kl = Maps.has D kl := fun kl => by
          have := hG.has kl
          rw [hl0] at this
          cases h1 : Maps.has D2 kl <;> cases h2 : Maps.has D kl <;> simp_all
        refine ⟨hG.st, by have := hG.num; omega, hh, fun kl hk => hG.same kl (by rw [hh]; exact hk), hG.keep⟩
      clear hrg hc0 hl0
      go_wp2
      first
        | exact ⟨s2, b2, n2, D2, rfl, HF.out.1, HF.out.2.1, HF.out.2.2.1, HF.out.2.2.2.1, HSB.out.1, HSB.out.2, HF.out.2.2.2.2⟩
        | (go_ret; exact ⟨s2, b2, n2, D2, rfl, HF.out.1, HF.out.2.1, HF.out.2.2.1, HF.out.2.2.2.1, HSB.out.1, HSB.out.2, HF.out.2.2.2.2⟩)
    · intro id hid p l cc kl yd yp w3 cnt3 hkey hlk hv hat hrg3 hlt3 hg3 hs3 hen
      have hkl : kl = idKey id := by
        have h1 := key_id hid
        rw [hkey] at h1
        injection h1
      subst hkl
      have hG := HG.out
      have k3 : Kept [r] wr w3 := (Kept.refl _ _).grown hg3 (fun k e => Or.inl (by simpa using e.symm))
      have hrw : w.heap.size ≤ r := HRW.out
      have K3 : Kept [] w w3 := kept_newP hG.keep k3 hrw
      have hHas := hG.there _ hlk
      obtain ⟨g, c, xs, hdat, hgl, hoc, hl6, hne, hby⟩ := HLI.out w3 K3 _ hHas
      obtain ⟨rfl, hsl⟩ := slR_data hv ((hat .nil).symm.trans hdat)
      obtain ⟨_, hxl, rfl⟩ := slD_inj hsl
      subst hxl
      have hrb2 : r ≠ b2 ∧ r ≠ s2 := by
        obtain ⟨_, _, _, _, _, _, _, _, _, hr, _⟩ := hG.rng
        refine ⟨fun e => ?_, fun e => ?_⟩
        · obtain ⟨es, clock, hm, _⟩ := hG.st.own
          rw [← e, hr] at hm
          cases hm
        · have := hG.st.blk
          rw [← e, hr] at this
          cases this
      have hst3 : St w3 s2 b2 n2 D2 := hG.st.keepR k3 (fun e => hrb2.2 e.symm) (fun e => hrb2.1 e.symm) (fun kl' g' m' c' hk' he' => by
        obtain ⟨g1, c1, gg2, cc2, ys, ht⟩ := hG.same kl' hk'
        obtain ⟨rfl, rfl, _⟩ := slD_inj (he'.symm.trans ht.at2)
        by_cases e0 : ys = []
        · exact Or.inr (by rw [e0]; rfl)
        · refine Or.inl (fun e => ?_)
          obtain ⟨_, _, _, _, _, _, _, _, _, hr, _⟩ := hG.rng
          obtain ⟨ao, cp, he, _, _, hc⟩ := ht.b2
          obtain ⟨b', off, rfl, hd⟩ := hc e0
          injection he with he _ _
          injection he with he
          injection he with h1 h2 _
          obtain ⟨y, q, rfl⟩ : ∃ y q, ys = y :: q := by cases ys with | nil => exact absurd rfl e0 | cons y q => exact ⟨y, q, rfl⟩
          have h3 := hd 0 y rfl
          rw [← h1, e] at h3
          simp [World.cell?, hr] at h3)
      obtain ⟨w4, hw4⟩ : ∃ w4, w4 = w3.alloc (.cells (idC id) 29) := ⟨_, rfl⟩
      have HW4 : Hid (w4 = w3.alloc (.cells (idC id) 29)) := hw4
      have k34 : Kept [] w3 w4 := by rw [hw4]; exact (Kept.refl _ _).alloc _
      have hb2l := hst3.lt.2
      have HBC : Hid (∀ W, Kept [b2] w4 W → W.cell? ⟨s2, 0, none⟩ = some (.map (some b2))) := fun W q => by rw [cell_of_row _ _ _ _ _ _ (q.heap (hst3.on k34).blk (by simp; exact hst3.ne))]; rfl
      have HRG : Hid (∀ W, Kept [b2] w4 W → W.rangeAt w3.heap.size 0 (id.map (Value.int .u8))) := fun W q => row_range (q.heap (show w4.heap[w3.heap.size]? = some (.cells (id.map (Value.int .u8)).toArray 29 (0, 0)) by rw [hw4]; exact heap_alloc_new w3 _) (by simp; omega))
      have hgb2 : g ≠ b2 := by have := HSB.out.2; omega
      have HCL : Hid (∀ W, Kept [b2] w4 W → Calls Tryz.prog 37 #[.slice (some ⟨g, 0, none⟩) xs.length c] W fun e w' => ∃ g' c', e = .returned (.slice (some ⟨g', 0, none⟩) xs.length c') ∧ BytesAt w' (.slice (some ⟨g', 0, none⟩) xs.length c') xs ∧ W.heap.size ≤ g' ∧ Kept [] W w') := fun W q => Clone_any ⟨g, 0, none⟩ c xs W ((hby.kept' k34 (fun _ _ _ => by simp)).kept' q (fun _ x hx hm => by
        obtain rfl : g = x := by simpa [blkOf] using hx
        exact hgb2 (by simpa using hm))) hne (by omega)
      have HPUT : Hid (∀ W g' c', Kept [] w4 W → BytesAt W (.slice (some ⟨g', 0, none⟩) xs.length c') xs → w4.heap.size ≤ g' → ∃ W', (Instr.mapUpdate 68 (.map (some b2)) (.agg (idC id)) (.slice (some ⟨g', 0, none⟩) xs.length c')).run Tryz.prog W = .ok () W' ∧ St W' s2 b2 (n2 + 1) (D2.put (idKey id) (slD g' xs.length c')) ∧ Kept [b2] W W') := fun W g' c' q hb' hg' => by
        refine (((hst3.on k34).on q)).put hid (by have := hG.num; omega) ?_ hoc hl6 hb'
        have := k34.size
        omega
      have HB2 : Hid (b2 < w4.heap.size) := by
        have := k34.size
        show b2 < w4.heap.size
        omega
      have HCNT : Hid (cnt3 < cnt ∧ wr.rangeLeft b r = cnt) := ⟨hlt3, hG.rng.left_eq⟩
      have HNEW : Hid (∀ W g' c', Kept [b2] w4 W → BytesAt W (.slice (some ⟨g', 0, none⟩) xs.length c') xs → St W s2 b2 (n2 + 1) (D2.put (idKey id) (slD g' xs.length c')) → Cpy w b r n D s2 b2 (fun z => left z && !z.sameKey (idKey id)) cnt3 W (n2 + 1) (D2.put (idKey id) (slD g' xs.length c'))) := fun W g' c' q hb' hst' => by
        have hk3W : Kept [b2] w3 W := (k34.more (by simp)).then'' q
        have hbb : b ≠ b2 := by have := HSB.out.2; have := HBL.out; omega
        refine ⟨hrg3.kept hk3W.growsRow (by simp; exact hbb) (by simp; exact hrb2.1), hst', by have := hG.num; omega, fun kl => ?_, fun kl hk => ?_, fun kl hk => ?_, kept_newP K3 hk3W HSB.out.2⟩
        · by_cases e : kl = idKey id
          · subst e
            rw [Maps.has_put_same hG.st.own.isMap (idKey_lit id)]
            simp [hHas, WideAt.sameKey_self (idKey_lit id)]
          · rw [Maps.has_put_other e, hG.has kl, Maps.sameKey_ne e]
            simp
        · by_cases e : kl = idKey id
          · subst e
            refine ⟨g, c, g', c', xs, hdat, Maps.atKey_put_same hG.st.own.isMap (idKey_lit id) _ _, hby.kept' hk3W (fun _ x hx hm => ?_), hb'⟩
            obtain rfl : g = x := by simpa [blkOf] using hx
            exact hgb2 (by simpa using hm)
          · rw [Maps.has_put_other e] at hk
            obtain ⟨g1, c1, gg2, cc2, ys, ht⟩ := hG.same kl hk
            obtain ⟨gz, cz, zs, z1, z2, _, _, z5, z6⟩ := HLI.out w3 K3 kl ((hG.has kl).1 hk).1
            obtain ⟨rfl, zl, rfl⟩ := slD_inj (ht.at1.symm.trans z1)
            obtain ⟨g3', c3', us3, u1, u2, u3, u4, u5⟩ := hst3.lists kl hk
            obtain ⟨rfl, ul, rfl⟩ := slD_inj (ht.at2.symm.trans u1)
            have hyne : ys ≠ [] := fun e0 => by rw [e0] at zl; exact z5 (List.eq_nil_of_length_eq_zero zl.symm)
            have hgr : g1 ≠ r ∧ gg2 ≠ r := ⟨by omega, fun e0 => by
              obtain ⟨_, _, _, _, _, _, _, _, _, hr, _⟩ := hG.rng
              obtain ⟨ao, cp, he, _, _, hc⟩ := ht.b2
              obtain ⟨b', off, rfl, hd⟩ := hc hyne
              injection he with he _ _
              injection he with he
              injection he with h1 h2 _
              obtain ⟨y, q', rfl⟩ : ∃ y q', ys = y :: q' := by cases ys with | nil => exact absurd rfl hyne | cons y q' => exact ⟨y, q', rfl⟩
              have h3 := hd 0 y rfl
              rw [← h1, e0] at h3
              simp [World.cell?, hr] at h3⟩
            refine ⟨g1, c1, gg2, cc2, ys, ht.at1, by rw [Maps.atKey_put_other e]; exact ht.at2, (ht.b1.kept' k3 (fun _ x hx hm => ?_)).kept' hk3W (fun _ x hx hm => ?_), (ht.b2.kept' k3 (fun _ x hx hm => ?_)).kept' hk3W (fun _ x hx hm => ?_)⟩
            · obtain rfl : g1 = x := by simpa [blkOf] using hx
              exact hgr.1 (by simpa using hm)
            · obtain rfl : g1 = x := by simpa [blkOf] using hx
              have : g1 = b2 := by simpa using hm
              have := HSB.out.2
              omega
            · obtain rfl : gg2 = x := by simpa [blkOf] using hx
              exact hgr.2 (by simpa using hm)
            · obtain rfl : gg2 = x := by simpa [blkOf] using hx
              exact u2 (by simpa using hm)
        · simp only [Bool.and_eq_true] at hk
          exact hG.there kl hk.1
      have hsz : (Tryz.prog.info? 29).map (·.size) = some (idC id).size := by rw [idC_size hid.1]; exact Tryz.infoID
      have hzz : (idC zid).size = (idC id).size := by rw [idC_size hid.1]; rfl
      have hone : (idC id).all (·.oneCell') = true := all_oneCell_toArray (map_oneCell _)
      have hsi : (Tryz.prog.info? 29).map (·.size) = some (id.map (Value.int .u8)).length := by rw [List.length_map, hid.1]; exact Tryz.infoID
      have hidc : idC id = (id.map (Value.int .u8)).toArray := rfl
      rw [hidc] at HPUT HW4 hsz hzz hone hen
      clear hidc hkey hlk hv hat hrg3 hlt3 hg3 hs3 HH HG hrg hG k3 K3 hHas hdat hgl hoc hl6 hne hby hsl hrb2 hst3 k34 hb2l hgb2 hw4
      generalize id.map (Value.int .u8) = us at *
      go_wp2_with (first
        | (refine wpList_store_newS (by rfl) 29 (.tmp 4) (.tmp 15) (by rfl) w3 _ us.toArray (by rfl) (by rfl) hsz hzz hone ?_; rw [← HW4.out]))
      refine wp_region_held_drew (S := Kept [b2] w4) (by kernel_rfl) (Kept.refl [b2] w4).drew (fun hHeld => ?_)
      refine takeP 0 (v := .pointer (some ⟨s2, 0, none⟩)) (some 17) #[true, false, false, false, false, false, false, false] rfl rfl rfl (by kernel_rfl) (by kernel_rfl) (by kernel_rfl) (fun _ _ _ h => h) (Or.inl ⟨by rfl, fun W hSW => by go_simp⟩) hHeld ?_
      simp only [Act.put, List.setIfInBounds_toArray, List.set_cons_zero, List.set_cons_succ]
      refine takeP 1 (v := .pointer (some ⟨s2, 0, none⟩)) (some 18) #[true, true, false, false, false, false, false, false] rfl rfl rfl (by kernel_rfl) (by kernel_rfl) (by kernel_rfl) (fun _ _ _ h => h) (Or.inl ⟨by rfl, fun W hSW => by go_simp⟩) hHeld ?_
      simp only [Act.put, List.setIfInBounds_toArray, List.set_cons_zero, List.set_cons_succ]
      refine takeP 2 (v := .pointer (some ⟨s2, 0, none⟩)) (some 19) #[true, true, true, false, false, false, false, false] rfl rfl rfl (by kernel_rfl) (by kernel_rfl) (by kernel_rfl) (fun _ _ _ h => h) (Or.inl ⟨by rfl, fun W hSW => by go_simp⟩) hHeld ?_
      simp only [Act.put, List.setIfInBounds_toArray, List.set_cons_zero, List.set_cons_succ]
      refine takeP 3 (v := .map (some b2)) (some 20) #[true, true, true, true, false, false, false, false] rfl rfl rfl (by kernel_rfl) (by kernel_rfl) (by kernel_rfl) (fun _ _ _ h => h) (Or.inl ⟨by rfl, fun W hSW => by have hcc := HBC.out W hSW; go_simp⟩) hHeld ?_
      simp only [Act.put, List.setIfInBounds_toArray, List.set_cons_zero, List.set_cons_succ]
      refine takeP 4 (v := .agg us.toArray) (some 21) #[true, true, true, true, true, false, false, false] rfl rfl rfl (by kernel_rfl) (by kernel_rfl) (by kernel_rfl) (fun _ _ _ h => h) (yieldsIf_load_mid (by rfl) 29 (.tmp 4) rfl w3.heap.size 0 rfl us _ HRG.out hui rfl hsi) hHeld ?_
      simp only [Act.put, List.setIfInBounds_toArray, List.set_cons_zero, List.set_cons_succ]
      refine takeP 5 (v := .slice (some ⟨g, 0, none⟩) xs.length c) (some 22) #[true, true, true, true, true, true, false, false] rfl rfl rfl (by kernel_rfl) (by kernel_rfl) (by kernel_rfl) (fun _ _ _ h => h) (Or.inl ⟨by rfl, fun W hSW => by go_simp⟩) hHeld ?_
      simp only [Act.put, List.setIfInBounds_toArray, List.set_cons_zero, List.set_cons_succ]
      refine wpAnyH_ready (rs := [6]) (by kernel_rfl) (by simp) (AllReadyH.cons rfl (fun K hK => ?_) AllReadyH.nil)
      rw [if_pos (by rfl)]
      go_simp
      refine (HCL.out _ hHeld).mono ?_
      rintro e w5 ⟨g5, c5, rfl, b5, hg5, k5⟩
      have k45 : Kept [] w4 w5 := ((Kept.refl [] w4).drew).then k5
      have hgl5 : w4.heap.size ≤ g5 := hg5
      refine hK.out _ _ (hHeld.then' k5) (fun hHeld => ?_)
      clear hK K k5
      simp only [List.setIfInBounds_toArray, List.set_cons_zero, List.set_cons_succ]
      obtain ⟨w6, hrun6, hst6, k6⟩ := HPUT.out w5 g5 c5 k45 b5 hgl5
      refine wpAnyH_ready (rs := [7]) (by kernel_rfl) (by simp) (AllReadyH.cons rfl (fun K hK => ?_) AllReadyH.nil)
      rw [if_pos (by rfl)]
      go_simp
      refine hK.out _ _ (hHeld.then'' k6) (fun hHeld => ?_)
      clear hK K
      simp only [List.setIfInBounds_toArray, List.set_cons_zero, List.set_cons_succ]
      refine wpAnyH_done (by kernel_rfl) ?_ _
      have hg5b : g5 ≠ b2 := fun e => by
        have := hst6.lt.2
        have h1 := HB2.out
        omega
      have HFIN : Hid (Cpy w b r n D s2 b2 (fun z => left z && !z.sameKey (idKey id)) cnt3 w6 (n2 + 1) (D2.put (idKey id) (slD g5 xs.length c5))) := HNEW.out w6 g5 c5 ((k45.more (by simp)).then'' k6) (b5.kept' k6 (fun _ x hx hm => by
        obtain rfl : g5 = x := by simpa [blkOf] using hx
        exact hg5b (by simpa using hm))) hst6
      have HLFT : Hid (w6.rangeLeft b r < wr.rangeLeft b r) := by
        show w6.rangeLeft b r < wr.rangeLeft b r
        rw [HFIN.out.rng.left_eq, HCNT.out.2]
        exact HCNT.out.1
      clear hHeld k6 k45 b5 hst6 hrun6 hg5
      go_wp2
      go_roundw
      case rel => exact ⟨0, _, _, _, _, HFIN.out⟩
      case measure => exact HLFT.out
end Go.Proofs.YtbphibolgckmnaaGreatDoor
