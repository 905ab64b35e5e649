/-
  WALK: satchellaw4.StoreFinds.
  A SET OPENED: what a reading of a StoreSet says of memory; and the two tables of UTF-8 out of the world's shape.
-/
import Derived.Test.YtddhhjgegkkjbaaGreatDoorCom3
import Derived.Test.YtddhhjgegkkjbaaGreatDoorFl1
import Derived.Test.YtddhhjgegkkjbaaGreatDoorRt1
import Derived.Shelf.Vars
namespace Go.Proofs.YtddhhjgegkkjbaaGreatDoor
open Go.RowKit Go.Shelf Go.WideMaps

theorem str_app48 (l : List Int) : strOfNums (l ++ [48]) = strOfNums l ++ ({ data := #[48] } : ByteArray) := by
  apply ByteArray.ext
  rw [ByteArray.data_append]
  unfold strOfNums
  simp
set_option maxRecDepth 100000 in
set_option maxHeartbeats 8000000 in
theorem finds4_any [TabC] (ev gv : Value) (nn : Int) (L : List (List Int)) (G : List Int) (w : World) (hV : Vars w) (hT : Tabs w) (hL : LsAt w ev L) (hG : NsAt w gv G) :
    Calls Tryz.prog 4 #[.agg #[ev, gv, .int .i64 nn]] w fun e w' => e = .returned (.bool true) ∧ Kept [] w w' := by
  obtain ⟨W0, hW0⟩ : ∃ W0, W0 = w.alloc (.cells #[ev, gv, .int .i64 nn] 25) := ⟨_, rfl⟩
  have HW0 : Hid (W0 = w.alloc (.cells #[ev, gv, .int .i64 nn] 25)) := hW0
  have k0 : Kept [] w W0 := by rw [hW0]; exact (Kept.refl _ _).alloc _
  have HK0 : Hid (Kept [] w W0) := k0
  have hfill := filled_any ev gv nn L G W0 (hV.kept k0 (by simp) (by simp)) (hT.kept k0) (hL.kept k0) (hG.kept k0)
  obtain ⟨eo, ec, rfl, _⟩ := hL
  obtain ⟨go, gc, rfl, _⟩ := hG
  clear hV hT k0 hW0
  go_enter Tryz.func4, Tryz.ntmps4
  go_wp2_with fail
  rw [← HW0.out]
  refine hfill.mono ?_
  rintro e w1 ⟨s, b, n, D, rfl, hfl, hn80, hs, hb, k1⟩
  have HN : Hid (n ≤ 80) := hn80
  have HK1 : Hid (Kept [] w w1) := HK0.out.then k1
  have HF1 : Hid (∀ W, Kept [] w1 W → Fl W s b n D) := fun W q => hfl.on q
  have hids := Ids_any hfl.st (by omega) hfl.non
  clear hfill hs hb k1 hfl hn80
  go_wp2_with fail
  refine hids.mono ?_
  rintro e w2 ⟨v, ids, rfl, hown, hof, k2⟩
  have hlen : ids.length ≤ 80 := by
    have h1 := (HF1.out w1 (Kept.refl _ _)).st.size
    have h2 := HN.out
    rw [hof.len]
    omega
  have hgi : ∀ id, id ∈ ids → GoodID id := fun id hid => (hof.mem id hid).1
  have hat : IdsAt w2 v ids := hown.at hgi (by omega)
  have HV : Hid (∀ W, Kept [] w2 W → IdsAt W v ids) := fun W q => hat.onK q
  have HG : Hid (∀ id, id ∈ ids → GoodID id) := hgi
  have HK2 : Hid (Kept [] w w2) := HK1.out.then k2
  have HND : Hid ids.Nodup := hof.nodup
  have HFD : Hid (∀ p, Octs p → p.length ≤ 100 → ∀ W, Kept [] w2 W → Calls Tryz.prog 16 #[.pointer (some ⟨s, 0, none⟩), .string (strOfNums p)] W (FindTo W ids p)) := fun p hp hpl W q => by
    have hf := HF1.out W (k2.then q)
    exact Find_st hf.st (by have := HN.out; omega) hf.non hof p hp (by omega)
  obtain ⟨vo, vc, rfl, hvc, hnv, _⟩ := hat
  have hui := Tryz.underlying36
  clear hids hown hof k2 hgi HF1 HK1 HK0 HN
  go_wp2_with fail
  go_loopw [6] (fun s6 wr => ∃ k : Nat, k ≤ ids.length ∧ k ≤ 20 ∧ s6 = .int .i64 k ∧ Hid (Kept [] w2 wr)) (fun s6 _ => 20 - (intOf s6).toNat)
  case atStart => exact ⟨0, Nat.zero_le _, by omega, rfl, Kept.refl _ _⟩
  case round =>
    obtain ⟨k, hk, hk20, rfl, HK⟩ := hrel
    by_cases hlt : k < ids.length ∧ k < 20
    · have t1 : decide ((k : Int) < (ids.length : Int)) = true := decide_eq_true (by omega)
      have t1' : k < ids.length := hlt.1
      have t2 : decide ((k : Int) < 20) = true := decide_eq_true (by omega)
      obtain ⟨id, hx⟩ : ∃ id, ids[k]? = some id := ⟨_, List.getElem?_eq_getElem hlt.1⟩
      have hid : id ∈ ids := List.mem_of_getElem? hx
      have hgd := HG.out id hid
      obtain ⟨sz, hszd⟩ : ∃ sz, sz = sizeL ids id := ⟨_, rfl⟩
      have hsz := sizeL_fits id hgd ids HG.out
      rw [← hszd] at hsz
      obtain ⟨ao', cap', he, _, _, _, hc⟩ := HV.out wr HK.out
      injection he with e1 e2 e3
      subst e1 e3
      obtain ⟨gb, off, rfl, hh⟩ := hc (by intro e; rw [e] at t1'; simp at t1')
      obtain ⟨us, hus⟩ : ∃ us, us = id.map (Value.int .u8) := ⟨_, rfl⟩
      have huc : idC id = us.toArray := by rw [hus]; rfl
      have hsi : (Tryz.prog.info? 36).map (·.size) = some us.length := by rw [hus, List.length_map, hgd.1]; exact Tryz.infoID
      have hsa : (Tryz.prog.info? 36).map (·.size) = some us.toArray.size := by rw [List.size_toArray]; exact hsi
      have hsz32 : us.toArray.size = 32 := by rw [← huc]; exact idC_size hgd.1
      have hau : us.toArray.all (·.oneCell') = true := by rw [← huc]; exact all_oneCell_toArray (map_oneCell _)
      have HR : Hid (∀ W, Kept [] wr W → W.rangeAt gb (off + k * 32) us) := fun W hW => by rw [hus]; exact range_kept (hh k id hx) hW (by simp)
      have hr0 := HR.out wr (Kept.refl _ _)
      have hox := hex_octs hgd
      have hl64 := hexL_len id
      obtain ⟨H, hH⟩ : ∃ H, H = strOfNums (hexL id) := ⟨_, rfl⟩
      obtain ⟨S1, hS1⟩ : ∃ S1, S1 = strOfNums ((hexL id).take sz) := ⟨_, rfl⟩
      have hHs : H.size = 64 := by rw [hH, strOfNums_size, hl64]
      have hSs : S1.size = sz := by rw [hS1, strOfNums_size, List.length_take, hl64]; omega
      have hhex := fun W => Hex_any id W hgd.1 hgd.2
      rw [huc, ← hH] at hhex
      have hsho := fun W (q : Kept [] w2 W) => Short_any _ ids id W (HV.out W q) HG.out hgd
      rw [huc, ← hszd, ← hS1] at hsho
      have hf1 : ∀ W, Kept [] w2 W → Calls Tryz.prog 16 #[.pointer (some ⟨s, 0, none⟩), .string S1] W fun e w' => e = .returned (.tuple #[.agg us.toArray, .int .i64 0]) ∧ Kept [] W w' := fun W q => by
        rw [hS1]
        refine (HFD.out _ (octs_take hox _) (by rw [List.length_take, hl64]; omega) W q).mono fun e w' h => ⟨?_, h.kept⟩
        rw [← huc]
        refine h.one (hex_ok hgd hsz.1 hsz.2).1 id ?_
        rw [hszd]
        exact short_one HND.out HG.out hid
      have hf2 : ∀ W, Kept [] w2 W → Calls Tryz.prog 16 #[.pointer (some ⟨s, 0, none⟩), .string H] W fun e w' => e = .returned (.tuple #[.agg us.toArray, .int .i64 0]) ∧ Kept [] W w' := fun W q => by
        rw [hH]
        refine (HFD.out _ hox (by omega) W q).mono fun e w' h => ⟨?_, h.kept⟩
        rw [← huc]
        refine h.one ?_ id (whole_one HND.out HG.out hid)
        have h1 := (hex_ok hgd (show 4 ≤ 64 by omega) (Nat.le_refl 64)).1
        rwa [List.take_of_length_le (by omega)] at h1
      have hf3 : ∀ W, Kept [] w2 W → Calls Tryz.prog 16 #[.pointer (some ⟨s, 0, none⟩), .string (S1.extract 0 (sz - 1))] W fun e w' => (4 < sz → (∃ z, z.length = 32 ∧ e = .returned (.tuple #[.agg (idC z), .int .i64 43]))) ∧ Kept [] W w' := fun W q => by
        have e : S1.extract 0 (sz - 1) = strOfNums ((hexL id).take (sz - 1)) := by rw [hS1, str_take, List.take_take, Nat.min_eq_left (by omega)]
        rw [e]
        refine (HFD.out _ (octs_take hox _) (by rw [List.length_take, hl64]; omega) W q).mono fun e w' h => ⟨fun h5 => ?_, h.kept⟩
        refine h.many (hex_ok hgd (by omega) (by omega)).1 ?_
        rw [hszd] at h5 ⊢
        exact shorter_many HG.out hid h5
      have hf4 : ∀ W, Kept [] w2 W → Calls Tryz.prog 16 #[.pointer (some ⟨s, 0, none⟩), .string (H.extract 0 3)] W fun e w' => (∃ z, z.length = 32 ∧ e = .returned (.tuple #[.agg (idC z), .int .i64 42])) ∧ Kept [] W w' := fun W q => by
        have e : H.extract 0 3 = strOfNums ((hexL id).take 3) := by rw [hH, str_take]
        rw [e]
        refine (HFD.out _ (octs_take hox _) (by rw [List.length_take, hl64]; omega) W q).mono fun e w' h => ⟨h.bad (fun hok => ?_), h.kept⟩
        have h1 := hok.1
        rw [List.length_take, hl64] at h1
        omega
      have hf5 : ∀ W, Kept [] w2 W → Calls Tryz.prog 16 #[.pointer (some ⟨s, 0, none⟩), .string (strOfNums (hexL id ++ [48]))] W fun e w' => (∃ z, z.length = 32 ∧ e = .returned (.tuple #[.agg (idC z), .int .i64 42])) ∧ Kept [] W w' := fun W q => by
        refine (HFD.out _ (octs_app hox (fun u hu => by simp at hu; omega)) (by rw [List.length_append, hl64]; simp) W q).mono fun e w' h => ⟨h.bad (fun hok => ?_), h.kept⟩
        have h1 := hok.2.1
        rw [List.length_append, hl64] at h1
        simp at h1
      have HEQ : Hid (∀ W, (Op.equalIn 10000 36 (.agg us.toArray) (.agg us.toArray)).run Tryz.prog W = .ok true W) := fun W => by
        rw [← huc]
        have h1 := idEq id id W hgd.1 hgd.1
        simpa using h1
      have hapz : strOfNums (hexL id ++ [48]) = H ++ ({ data := #[48] } : ByteArray) := by
        rw [hH]
        exact str_app48 _
      rw [hapz] at hf5
      clear hapz
      clear hus hh hc hx hid hox hl64 hS1 hH hszd hgd huc
      go_wp2_with (refine wpList_load_mid (by rfl) 36 (.tmp 40) (by rfl) gb (off + k * 32) (by rfl) us _ hr0 hui rfl hsi ?_)
      refine (hhex _).mono ?_
      rintro e w3 ⟨rfl, k3⟩
      have HK3 : Hid (Kept [] wr w3 ∧ Kept [] w2 w3) := ⟨k3, HK.out.then k3⟩
      have hr3 := HR.out w3 k3
      clear k3 hhex hr0
      go_wp2_with (refine wpList_load_mid (by rfl) 36 (.tmp 46) (by rfl) gb (off + k * 32) (by rfl) us _ hr3 hui rfl hsi ?_)
      refine (hsho _ HK3.out.2).mono ?_
      rintro e w4 ⟨rfl, k4⟩
      have HK4 : Hid (Kept [] wr w4 ∧ Kept [] w2 w4) := ⟨HK3.out.1.then k4, HK3.out.2.then k4⟩
      clear k4 hsho hr3
      go_wp2_with fail
      refine (hf1 _ HK4.out.2).mono ?_
      rintro e w5 ⟨rfl, k5⟩
      have HK5 : Hid (Kept [] wr w5 ∧ Kept [] w2 w5) := ⟨HK4.out.1.then k5, HK4.out.2.then k5⟩
      clear k5 hf1
      obtain ⟨w6, hw6⟩ : ∃ w6, w6 = w5.alloc (.cells us.toArray 36) := ⟨_, rfl⟩
      have HW6 : Hid (w6 = w5.alloc (.cells us.toArray 36)) := hw6
      have HB6 : Hid (w6.heap[w5.heap.size]? = some (.cells us.toArray 36 (0, 0))) := by rw [hw6]; exact heap_alloc_new w5 _
      have k6 : Kept [] w5 w6 := by rw [hw6]; exact (Kept.refl _ _).alloc _
      have HK6 : Hid (Kept [] wr w6 ∧ Kept [] w2 w6) := ⟨HK5.out.1.then k6, HK5.out.2.then k6⟩
      clear k6 hw6
      go_wp2_with (refine wpList_store_row (by rfl) 36 (.tmp 9) (.tmp 53) (by rfl) w5.heap.size us.toArray (by rfl) (by rfl) 36 _ (heap_alloc_new w5 _) hsa hsz32.symm hau ?_; rw [World.setRow_alloc_new, ← HW6.out])
      refine (hf2 _ HK6.out.2).mono ?_
      rintro e w7 ⟨rfl, k7⟩
      have HK7 : Hid (Kept [] wr w7 ∧ Kept [] w2 w7) := ⟨HK6.out.1.then k7, HK6.out.2.then k7⟩
      have HB7 : Hid (w7.heap[w5.heap.size]? = some (.cells us.toArray 36 (0, 0))) := k7.heap HB6.out (by simp)
      clear k7 hf2
      obtain ⟨w8, hw8⟩ : ∃ w8, w8 = w7.alloc (.cells us.toArray 36) := ⟨_, rfl⟩
      have HW8 : Hid (w8 = w7.alloc (.cells us.toArray 36)) := hw8
      have k8 : Kept [] w7 w8 := by rw [hw8]; exact (Kept.refl _ _).alloc _
      have HK8 : Hid (Kept [] wr w8 ∧ Kept [] w2 w8) := ⟨HK7.out.1.then k8, HK7.out.2.then k8⟩
      have HR9 : Hid (∀ W, Kept [] w8 W → W.rangeAt w5.heap.size 0 us) := fun W q => row_range ((k8.then q).heap HB7.out (by simp))
      have HR11 : Hid (∀ W, Kept [] w8 W → W.rangeAt w7.heap.size 0 us) := fun W q => row_range (q.heap (show w8.heap[w7.heap.size]? = _ by rw [hw8]; exact heap_alloc_new w7 _) (by simp))
      have HRG : Hid (∀ W, Kept [] w8 W → W.rangeAt gb (off + k * 32) us) := fun W q => HR.out W (HK8.out.1.then q)
      have HNUM : Hid (∀ W, Kept [] w8 W → Calls Tryz.prog 17 #[.int .i64 0] W fun e w' => e = .returned (.int .i64 0) ∧ Kept [] w8 w') := fun W q => (num4_any 0 W).mono fun _ _ ⟨h1, h2⟩ => ⟨h1, by rw [h2]; exact q⟩
      clear k8 hw8
      go_wp2_with (refine wpList_store_row (by rfl) 36 (.tmp 11) (.tmp 59) (by rfl) w7.heap.size us.toArray (by rfl) (by rfl) 36 _ (heap_alloc_new w7 _) hsa hsz32.symm hau ?_; rw [World.setRow_alloc_new, ← HW8.out])
      refine region_quiet (Kept [] w8) (by kernel_rfl) (by kernel_rfl) (Kept.refl [] w8).drew ?_
      with_reducible refine wpQuiet_step ?_
      intro K hK
      rw [if_pos (by go_simp)]
      refine row_at 36 (.tmp 9) rfl w5.heap.size 0 rfl us _ HR9.out hui rfl hsi (hK _ ?_)
      clear hK K
      simp only [Act.put, List.setIfInBounds_toArray, List.set_cons_zero, List.set_cons_succ]
      with_reducible refine wpQuiet_step ?_
      intro K hK
      rw [if_pos (by go_simp)]
      refine move_at (.tmp 5) rfl (.slice (some ⟨gb, off, none⟩) ids.length vc) rfl (hK _ ?_)
      clear hK K
      simp only [Act.put, List.setIfInBounds_toArray, List.set_cons_zero, List.set_cons_succ]
      with_reducible refine wpQuiet_step ?_
      intro K hK
      rw [if_pos (by go_simp)]
      refine move_at (.tmp 6) rfl (.int .i64 k) rfl (hK _ ?_)
      clear hK K
      simp only [Act.put, List.setIfInBounds_toArray, List.set_cons_zero, List.set_cons_succ]
      with_reducible refine wpQuiet_step ?_
      intro K hK
      rw [if_pos (by go_simp)]
      refine val_at (.pointer (some ⟨gb, off + k * 32, none⟩)) (fun W => by go_simp) (hK _ ?_)
      clear hK K
      simp only [Act.put, List.setIfInBounds_toArray, List.set_cons_zero, List.set_cons_succ]
      with_reducible refine wpQuiet_step ?_
      intro K hK
      rw [if_pos (by go_simp)]
      refine row_at 36 (.tmp 64) rfl gb (off + k * 32) rfl us _ HRG.out hui rfl hsi (hK _ ?_)
      clear hK K
      simp only [Act.put, List.setIfInBounds_toArray, List.set_cons_zero, List.set_cons_succ]
      with_reducible refine wpQuiet_step ?_
      intro K hK
      rw [if_pos (by go_simp)]
      refine neq_at (.tmp 61) (.tmp 65) _ rfl us.toArray us.toArray rfl rfl true HEQ.out (hK _ ?_)
      clear hK K
      simp only [Act.put, List.setIfInBounds_toArray, List.set_cons_zero, List.set_cons_succ]
      with_reducible refine wpQuiet_step ?_
      intro K hK
      rw [if_pos (by go_simp)]
      refine move_at (.tmp 66) rfl (.bool false) rfl (hK _ ?_)
      clear hK K
      simp only [Act.put, List.setIfInBounds_toArray, List.set_cons_zero, List.set_cons_succ]
      with_reducible refine wpQuiet_step ?_
      intro K hK
      rw [if_pos (by go_simp)]
      refine row_at 36 (.tmp 11) rfl w7.heap.size 0 rfl us _ HR11.out hui rfl hsi (hK _ ?_)
      clear hK K
      simp only [Act.put, List.setIfInBounds_toArray, List.set_cons_zero, List.set_cons_succ]
      with_reducible refine wpQuiet_step ?_
      intro K hK
      rw [if_pos (by go_simp)]
      refine move_at (.tmp 5) rfl (.slice (some ⟨gb, off, none⟩) ids.length vc) rfl (hK _ ?_)
      clear hK K
      simp only [Act.put, List.setIfInBounds_toArray, List.set_cons_zero, List.set_cons_succ]
      with_reducible refine wpQuiet_step ?_
      intro K hK
      rw [if_pos (by go_simp)]
      refine move_at (.tmp 6) rfl (.int .i64 k) rfl (hK _ ?_)
      clear hK K
      simp only [Act.put, List.setIfInBounds_toArray, List.set_cons_zero, List.set_cons_succ]
      with_reducible refine wpQuiet_step ?_
      intro K hK
      rw [if_pos (by go_simp)]
      refine val_at (.pointer (some ⟨gb, off + k * 32, none⟩)) (fun W => by go_simp) (hK _ ?_)
      clear hK K
      simp only [Act.put, List.setIfInBounds_toArray, List.set_cons_zero, List.set_cons_succ]
      with_reducible refine wpQuiet_step ?_
      intro K hK
      rw [if_pos (by go_simp)]
      refine row_at 36 (.tmp 71) rfl gb (off + k * 32) rfl us _ HRG.out hui rfl hsi (hK _ ?_)
      clear hK K
      simp only [Act.put, List.setIfInBounds_toArray, List.set_cons_zero, List.set_cons_succ]
      with_reducible refine wpQuiet_step ?_
      intro K hK
      rw [if_pos (by go_simp)]
      refine neq_at (.tmp 68) (.tmp 72) _ rfl us.toArray us.toArray rfl rfl true HEQ.out (hK _ ?_)
      clear hK K
      simp only [Act.put, List.setIfInBounds_toArray, List.set_cons_zero, List.set_cons_succ]
      with_reducible refine wpQuiet_step ?_
      intro K hK
      rw [if_pos (by go_simp)]
      refine val_at (.bool false) (fun W => by go_simp) (hK _ ?_)
      clear hK K
      simp only [Act.put, List.setIfInBounds_toArray, List.set_cons_zero, List.set_cons_succ]
      with_reducible refine wpQuiet_step ?_
      intro K hK
      rw [if_pos (by go_simp)]
      refine move_at (.tmp 74) rfl (.bool false) rfl (hK _ ?_)
      clear hK K
      simp only [Act.put, List.setIfInBounds_toArray, List.set_cons_zero, List.set_cons_succ]
      with_reducible refine wpQuiet_step ?_
      intro K hK
      rw [if_pos (by go_simp)]
      refine move_at (.tmp 10) rfl (.int .i64 0) rfl (hK _ ?_)
      clear hK K
      simp only [Act.put, List.setIfInBounds_toArray, List.set_cons_zero, List.set_cons_succ]
      with_reducible refine wpQuiet_step ?_
      intro K hK
      rw [if_pos (by go_simp)]
      refine call_at 17 #[.int .i64 0] (.int .i64 0) (fun W => by go_simp) HNUM.out (hK _ ?_)
      clear hK K
      simp only [Act.put, List.setIfInBounds_toArray, List.set_cons_zero, List.set_cons_succ]
      with_reducible refine wpQuiet_step ?_
      intro K hK
      rw [if_pos (by go_simp)]
      refine val_at (.bool false) (fun W => by go_simp) (hK _ ?_)
      clear hK K
      simp only [Act.put, List.setIfInBounds_toArray, List.set_cons_zero, List.set_cons_succ]
      with_reducible refine wpQuiet_step ?_
      intro K hK
      rw [if_pos (by go_simp)]
      refine val_at (.bool false) (fun W => by go_simp) (hK _ ?_)
      clear hK K
      simp only [Act.put, List.setIfInBounds_toArray, List.set_cons_zero, List.set_cons_succ]
      with_reducible refine wpQuiet_step ?_
      intro K hK
      rw [if_pos (by go_simp)]
      refine move_at (.tmp 79) rfl (.bool false) rfl (hK _ ?_)
      clear hK K
      simp only [Act.put, List.setIfInBounds_toArray, List.set_cons_zero, List.set_cons_succ]
      with_reducible refine wpQuiet_step ?_
      intro K hK
      rw [if_pos (by go_simp)]
      refine move_at (.tmp 12) rfl (.int .i64 0) rfl (hK _ ?_)
      clear hK K
      simp only [Act.put, List.setIfInBounds_toArray, List.set_cons_zero, List.set_cons_succ]
      with_reducible refine wpQuiet_step ?_
      intro K hK
      rw [if_pos (by go_simp)]
      refine call_at 17 #[.int .i64 0] (.int .i64 0) (fun W => by go_simp) HNUM.out (hK _ ?_)
      clear hK K
      simp only [Act.put, List.setIfInBounds_toArray, List.set_cons_zero, List.set_cons_succ]
      with_reducible refine wpQuiet_step ?_
      intro K hK
      rw [if_pos (by go_simp)]
      refine val_at (.bool false) (fun W => by go_simp) (hK _ ?_)
      clear hK K
      simp only [Act.put, List.setIfInBounds_toArray, List.set_cons_zero, List.set_cons_succ]
      with_reducible refine wpQuiet_step ?_
      intro K hK
      rw [if_pos (by go_simp)]
      refine val_at (.bool false) (fun W => by go_simp) (hK _ ?_)
      clear hK K
      simp only [Act.put, List.setIfInBounds_toArray, List.set_cons_zero, List.set_cons_succ]
      refine wpQuiet_nil fun w9 k9 => ?_
      have HK9 : Hid (Kept [] w2 w9) := HK8.out.2.then k9
      clear k9 HR9 HR11 HRG HNUM HW6 HW8 HB6 HB7
      by_cases h5 : 4 < sz
      · have t5 : decide ((4 : Int) < (sz : Int)) = true := decide_eq_true (by omega)
        obtain ⟨q1, hq1⟩ : ∃ q1, sz = q1 + 1 := ⟨sz - 1, by omega⟩
        have hwz : IntKind.i64.wrap ((sz : Int) - 1) = (q1 : Int) := by rw [hq1]; simp [IntKind.wrap, IntKind.bits, IntKind.signed]; omega
        have hql : (q1 : Int) ≤ (sz : Int) := by omega
        have hqe : sz - 1 = q1 := by omega
        rw [hqe] at hf3
        clear hq1 hqe
        go_wp2_with fail
        refine (hf3 _ HK9.out).mono ?_
        rintro e wx ⟨hz3, kx⟩
        obtain ⟨z3, hz3l, rfl⟩ := hz3 h5
        have HKx : Hid (Kept [] w2 wx) := HK9.out.then kx
        have hsz3 : (Tryz.prog.info? 36).map (·.size) = some (idC z3).size := by rw [idC_size hz3l]; exact Tryz.infoID
        have haz3 : (idC z3).all (·.oneCell') = true := all_oneCell_toArray (map_oneCell _)
        have h323 : (idC z3).size = 32 := idC_size hz3l
        clear kx hz3l hz3
        generalize idC z3 = c3 at *
        obtain ⟨wq, hwq⟩ : ∃ wq, wq = wx.alloc (.cells c3 36) := ⟨_, rfl⟩
        have HWQ : Hid (wq = wx.alloc (.cells c3 36)) := hwq
        have HKQ : Hid (Kept [] w2 wq) := by rw [hwq]; exact HKx.out.alloc _
        clear hwq
        go_wp2_with (first
          | (refine wpList_store_row (by rfl) 36 (.tmp 13) (.tmp 96) (by rfl) wx.heap.size c3 (by rfl) (by rfl) 36 _ (heap_alloc_new wx _) hsz3 h323.symm haz3 ?_; rw [World.setRow_alloc_new, ← HWQ.out])
          | (go_at_call 17; refine (num4_any _ _).mono ?_; rintro e wn ⟨rfl, hwn⟩; subst wn))
        refine (hf4 _ HKQ.out).mono ?_
        rintro e wa ⟨⟨z1, hz1, rfl⟩, ka⟩
        have HKa : Hid (Kept [] w2 wa) := HKQ.out.then ka
        have hsz1 : (Tryz.prog.info? 36).map (·.size) = some (idC z1).size := by rw [idC_size hz1]; exact Tryz.infoID
        have haz1 : (idC z1).all (·.oneCell') = true := all_oneCell_toArray (map_oneCell _)
        have h321 : (idC z1).size = 32 := idC_size hz1
        clear ka hz1
        generalize idC z1 = c1 at *
        go_wp2_with (refine wpList_store_row (by rfl) 36 (.tmp 15) (.tmp 106) (by rfl) wa.heap.size c1 (by rfl) (by rfl) 36 _ (heap_alloc_new wa _) hsz1 h321.symm haz1 ?_; rw [World.setRow_alloc_new])
        refine (hf5 _ (HKa.out.alloc _)).mono ?_
        rintro e wb ⟨⟨z2, hz2, rfl⟩, kb⟩
        have HKb : Hid (Kept [] w2 wb) := (HKa.out.alloc _).then kb
        have hsz2 : (Tryz.prog.info? 36).map (·.size) = some (idC z2).size := by rw [idC_size hz2]; exact Tryz.infoID
        have haz2 : (idC z2).all (·.oneCell') = true := all_oneCell_toArray (map_oneCell _)
        have h322 : (idC z2).size = 32 := idC_size hz2
        clear kb hz2
        generalize idC z2 = c2 at *
        go_wp2_with (first
          | (refine wpList_store_row (by rfl) 36 (.tmp 17) (.tmp 113) (by rfl) wb.heap.size c2 (by rfl) (by rfl) 36 _ (heap_alloc_new wb _) hsz2 h322.symm haz2 ?_; rw [World.setRow_alloc_new])
          | (go_at_call 17; refine (num4_any _ _).mono ?_; rintro e wn ⟨rfl, hwn⟩; subst wn))
        go_roundw
        case rel => exact ⟨k + 1, by omega, by omega, by go_num, HKb.out.alloc _⟩
        case measure => simp [intOf]; omega
      · have t5 : decide ((4 : Int) < (sz : Int)) = false := decide_eq_false (by omega)
        have HKQ : Hid (Kept [] w2 w9) := HK9
        go_wp2_with fail
        refine (hf4 _ HKQ.out).mono ?_
        rintro e wa ⟨⟨z1, hz1, rfl⟩, ka⟩
        have HKa : Hid (Kept [] w2 wa) := HKQ.out.then ka
        have hsz1 : (Tryz.prog.info? 36).map (·.size) = some (idC z1).size := by rw [idC_size hz1]; exact Tryz.infoID
        have haz1 : (idC z1).all (·.oneCell') = true := all_oneCell_toArray (map_oneCell _)
        have h321 : (idC z1).size = 32 := idC_size hz1
        clear ka hz1
        generalize idC z1 = c1 at *
        go_wp2_with (refine wpList_store_row (by rfl) 36 (.tmp 15) (.tmp 106) (by rfl) wa.heap.size c1 (by rfl) (by rfl) 36 _ (heap_alloc_new wa _) hsz1 h321.symm haz1 ?_; rw [World.setRow_alloc_new])
        refine (hf5 _ (HKa.out.alloc _)).mono ?_
        rintro e wb ⟨⟨z2, hz2, rfl⟩, kb⟩
        have HKb : Hid (Kept [] w2 wb) := (HKa.out.alloc _).then kb
        have hsz2 : (Tryz.prog.info? 36).map (·.size) = some (idC z2).size := by rw [idC_size hz2]; exact Tryz.infoID
        have haz2 : (idC z2).all (·.oneCell') = true := all_oneCell_toArray (map_oneCell _)
        have h322 : (idC z2).size = 32 := idC_size hz2
        clear kb hz2
        generalize idC z2 = c2 at *
        go_wp2_with (first
          | (refine wpList_store_row (by rfl) 36 (.tmp 17) (.tmp 113) (by rfl) wb.heap.size c2 (by rfl) (by rfl) 36 _ (heap_alloc_new wb _) hsz2 h322.symm haz2 ?_; rw [World.setRow_alloc_new])
          | (go_at_call 17; refine (num4_any _ _).mono ?_; rintro e wn ⟨rfl, hwn⟩; subst wn))
        go_roundw
        case rel => exact ⟨k + 1, by omega, by omega, by go_num, HKb.out.alloc _⟩
        case measure => simp [intOf]; omega
    · by_cases hl : k < ids.length
      · have t1 : decide ((k : Int) < (ids.length : Int)) = true := decide_eq_true (by omega)
        have t2 : decide ((k : Int) < 20) = false := decide_eq_false (by omega)
        have t2' : ¬ k < 20 := by omega
        clear hlt
        go_wp2
        go_ret
        exact ⟨rfl, HK2.out.then HK.out⟩
      · have t1 : decide ((k : Int) < (ids.length : Int)) = false := decide_eq_false (by omega)
        clear hlt
        go_wp2
        go_ret
        exact ⟨rfl, HK2.out.then HK.out⟩
end Go.Proofs.YtddhhjgegkkjbaaGreatDoor

namespace Go.Proofs.YtddhhjgegkkjbaaGreatDoor
open Go.ChangeShapes Go.WideShapes Go.ChangeAt Go.RowKit Go.Deep

theorem Tryz.bytes_bl : Tryz.prog.bytesOf 37 = 24 := by kernel_rfl
theorem Tryz.cells_bl : Tryz.prog.cellsOf 37 = 1 := by kernel_rfl
theorem Tryz.cells_lists : Tryz.prog.cellsOf 22 = 1 := by kernel_rfl
theorem Tryz.bytes_intR : Tryz.prog.bytesOf 3 = 8 := by kernel_rfl
theorem Tryz.cells_ints : Tryz.prog.cellsOf 23 = 1 := by kernel_rfl
theorem Tryz.cells_set : Tryz.prog.cellsOf 25 = 3 := by kernel_rfl
/-- A list in a list. -/
structure SlE where
  ao : Option Addr
  cap : Nat
  b : List Int
instance : Inhabited SlE := ⟨⟨none, 0, []⟩⟩
section
variable {H : Type} {enc : TypeId × Value → H} {w : World} {base : Nat} {spare : Nat → Bool} {held : Bool} {fuel : Nat} {cs : List Value} {x : DataW H × List MemPlace}
theorem open_lists (h : DataW.trod enc Tryz.prog w base spare held fuel 22 cs = some x) : ∃ v L, cs = [v] ∧ ((DataW.weights Tryz.prog 22 x.1).all (· ≤ 140737488351232) = true → LsAt w v L) := by
  obtain ⟨ao, cap, ls, rfl, h1, h0, hc, hB⟩ := open_rowl (fun y : SlE => [.slice y.ao y.b.length y.cap]) (fun y => BytesAt w (.slice y.ao y.b.length y.cap) y.b ∧ Octs y.b ∧ y.b.length ≤ 140737488351232) 140737488351232 Tryz.underlying22 Tryz.cells_bl (by decide) h (fun _ _ _ h => by
    obtain ⟨ao, cap', ys, rfl, h1, h2, h3, _⟩ := open_bytes h
    exact ⟨⟨ao, cap', ys⟩, rfl, fun hb => ⟨h1, h2, h3 _ hb⟩⟩)
  rw [Tryz.bytes_bl] at hB
  refine ⟨_, ls.map (·.b), rfl, fun hb => ⟨ao, cap, by rw [List.length_map], by rw [List.length_map]; have := (hB hb).1; omega, fun xs hx => ?_, fun hne => ?_⟩⟩
  · obtain ⟨y, hy, rfl⟩ := List.mem_map.1 hx
    exact ((hB hb).2 y hy).2
  · obtain ⟨b, off, rfl, hh⟩ := hc (fun e => hne (by rw [e]; rfl))
    refine ⟨b, off, rfl, fun i xs hi => ?_⟩
    rw [List.getElem?_map] at hi
    obtain ⟨y, hy, rfl⟩ := Option.map_eq_some_iff.1 hi
    refine ⟨.slice y.ao y.b.length y.cap, ?_, ((hB hb).2 y (List.mem_of_getElem? hy)).1⟩
    have := hh i y hy 0 _ rfl
    simpa using this
theorem open_numbers (h : DataW.trod enc Tryz.prog w base spare held fuel 23 cs = some x) : ∃ v G, cs = [v] ∧ ((DataW.weights Tryz.prog 23 x.1).all (· ≤ 140737488351232) = true → NsAt w v G) := by
  obtain ⟨ao, cap, ls, rfl, h1, h0, hc, hB⟩ := open_rowl (fun z : Int => [.int .i64 z]) (fun z => -9223372036854775808 ≤ z ∧ z ≤ 9223372036854775807) 140737488351232 Tryz.underlying23 Tryz.cells_int (by decide) h (fun _ _ _ h => by
    obtain ⟨z, h1, h2⟩ := open_int h
    exact ⟨z, h1, fun _ => h2⟩)
  rw [Tryz.bytes_intR] at hB
  refine ⟨_, ls, rfl, fun hb => ⟨ao, cap, rfl, by have := (hB hb).1; omega, (hB hb).2, fun hne => ?_⟩⟩
  obtain ⟨b, off, rfl, hh⟩ := hc hne
  refine ⟨b, off, rfl, fun i z hi => ?_⟩
  have := hh i z hi 0 _ rfl
  simpa using this
set_option maxRecDepth 100000 in
/-- A set, opened. -/
theorem open_set {r : Reach} {b0 : Nat} {v : Value} {d : DataW H} {p : List MemPlace} (hv : Value.okWide Tryz.prog w r b0 25 v) (h : DataW.Trod enc Tryz.prog w base spare held 25 v d p)
    (hB : (DataW.weights Tryz.prog 25 d).all (· ≤ 140737488351232) = true) :
    ∃ ev gv nn L G, v = .agg #[ev, gv, .int .i64 nn] ∧ LsAt w ev L ∧ NsAt w gv G ∧ -9223372036854775808 ≤ nn ∧ nn ≤ 9223372036854775807 := by
  obtain ⟨cs, rfl, hsz⟩ := okWide_struct Tryz.underlying25 hv
  rw [Tryz.cells_set] at hsz
  obtain ⟨fuel, hf⟩ := h
  obtain ⟨zs, n, rfl, hx, hlen, hxs, hfl⟩ := DataW.trod_struct Tryz.underlying25 hf
  simp only [Prod.mk.injEq] at hx
  obtain ⟨rfl, _⟩ := hx
  obtain ⟨l⟩ := cs
  match l, hsz with
  | [v0, v1, v2], _ =>
    have f0 := hfl 0 _ rfl
    have f1 := hfl 1 _ rfl
    have f2 := hfl 2 _ rfl
    match zs, hxs with
    | [y0, y1, y2], _ =>
      simp [Tryz.cells_int, Tryz.cells_lists, Tryz.cells_ints, Value.cells] at f0 f1 f2
      simp only [DataW.weights, Tryz.underlying25, DataW.weightsEach, List.map_cons, List.map_nil, List.append_nil, List.all_append, Bool.and_eq_true] at hB
      obtain ⟨ev, L, e0, h0⟩ := open_lists f0
      obtain ⟨gv, G, e1, h1⟩ := open_numbers f1
      obtain ⟨nn, e2, h2⟩ := open_int f2
      simp only [List.cons.injEq, and_true] at e0 e1 e2
      subst e0 e1 e2
      exact ⟨v0, v1, nn, L, G, rfl, h0 hB.1, h1 hB.2.1, h2⟩
end
/-- A global row of bytes, out of the world's shape. -/
theorem bytes_of_shaped {P : Program} {w : World} {g n : Nat} (t : TypeId) (m : Nat) (u0 : TypeId)
    (h : w.ShapedOpen P) (hg : g < P.globals.size) (h0 : (((begin P (fun _ _ => 0) default).world.heap[g]?).bind Obj.row?).map (fun p => (p.1.size, p.2)) = some (n, t))
    (hb : P.buildable t = true) (hc : P.cellTypes P.depth t = some (List.replicate m u0)) (hu : P.underlying u0 = some (.int .u8)) :
    ∃ f : Nat → Nat, (∀ i, f i < 256) ∧ ∀ i, i < n → w.cell? ⟨g, i, none⟩ = some (.int .u8 (f i : Nat)) := by
  obtain ⟨⟨zero, t'⟩, h0', he⟩ := Option.map_eq_some_iff.1 h0
  obtain ⟨rfl, rfl⟩ := Prod.mk.injEq .. ▸ he
  obtain ⟨cs, hh, hs, hr⟩ := h.1 g zero _ hg h0'
  obtain ⟨ts', hts, _, hall⟩ := hr hb
  rw [hc] at hts
  cases hts
  have key : ∀ i, i < zero.size → ∃ m : Nat, m < 256 ∧ w.cell? ⟨g, i, none⟩ = some (.int .u8 (m : Nat)) := fun i hi => by
    have h1 : i < cs.size := by omega
    obtain ⟨u, hu', hok⟩ := hall i cs[i] (by simp [h1])
    have hcell : w.cell? ⟨g, i, none⟩ = some cs[i] := by simp [World.cell?, hh, h1]
    rw [hcell]
    unfold Cell.ok at hok
    rw [(List.mem_replicate.1 (List.mem_of_getElem? hu')).2, hu] at hok
    cases hv : cs[i] <;> rw [hv] at hok <;> simp at hok
    case int k' z =>
      obtain ⟨rfl, h2⟩ := hok
      have h3 : 0 ≤ z ∧ z ≤ 255 := by simpa [IntKind.has, IntKind.min, IntKind.max, IntKind.bits, IntKind.signed] using h2
      exact ⟨z.toNat, by omega, by rw [Int.toNat_of_nonneg h3.1]⟩
  refine ⟨fun i => if hi : i < zero.size then (key i hi).choose else 0, fun i => ?_, fun i hi => ?_⟩
  · show (if hi : i < zero.size then (key i hi).choose else 0) < 256
    by_cases hi : i < zero.size
    · rw [dif_pos hi]
      exact (key i hi).choose_spec.1
    · rw [dif_neg hi]
      decide
  · show _ = some (Value.int .u8 ((if hi : i < zero.size then (key i hi).choose else 0 : Nat) : Int))
    rw [dif_pos hi]
    exact (key i hi).choose_spec.2
/-- The two tables lie in memory, whatever they hold. -/
theorem tabs_of_shaped {w : World} (h : w.ShapedOpen Tryz.prog) : ∃ T : FT, FTat T w := by
  obtain ⟨f, hf, h1⟩ := bytes_of_shaped (g := 3) (n := 256) 188 256 5 h (of_decide_eq_true (by kernel_rfl)) (by kernel_rfl) (by kernel_rfl) (by kernel_rfl) Tryz.underlying5
  obtain ⟨q, _, h2⟩ := bytes_of_shaped (g := 4) (n := 32) 191 32 5 h (of_decide_eq_true (by kernel_rfl)) (by kernel_rfl) (by kernel_rfl) (by kernel_rfl) Tryz.underlying5
  exact ⟨⟨f, fun i => q (i * 2), fun i => q (i * 2 + 1), hf⟩, h1, fun i hi => h2 (i * 2) (by omega), fun i hi => h2 (i * 2 + 1) (by omega)⟩
end Go.Proofs.YtddhhjgegkkjbaaGreatDoor
