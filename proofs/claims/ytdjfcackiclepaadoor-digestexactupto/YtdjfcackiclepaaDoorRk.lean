/-
  WALK: satchelref2.Keyed.
-/
import Derived.Test.YtdjfcackiclepaaDoorRs6
import Derived.Test.YtdjfcackiclepaaDoorStep
namespace Go.Proofs.YtdjfcackiclepaaDoor
open Go.RowKit

theorem key_zeros (K : List Int) (j : Nat) : (K ++ List.replicate j 0) ++ [0] = K ++ List.replicate (j + 1) 0 := by
  rw [List.append_assoc, List.replicate_succ']

set_option maxRecDepth 100000 in
set_option maxHeartbeats 4000000 in
theorem RKeyed_short (w : World) (hR : VarsR w) (kv v : Value) (ks xs : List Int) (hk : BytesAt w kv ks) (hok : Octs ks) (hnk : ks.length ≤ 1000000000) (hx : BytesAt w v xs) (hox : Octs xs) (hn : xs.length ≤ 1000000000) (hlong : ks.length ≤ 64) :
    Calls Tryd.prog 17 #[kv, v] w fun e w' => e = .returned (.agg (idC (keyL ks xs))) ∧ Kept [] w w' := by
  have HRW : Hid (∀ W, Kept [] w W → VarsR W) := fun W hW => hR.kept hW (by simp) (by simp)
  have HX : Hid (∀ W, Kept [] w W → BytesAt W v xs) := fun W hW => hx.kept' hW (by simp)
  have HSum : Hid (∀ W u zs, Kept [] w W → BytesAt W u zs → Octs zs → zs.length ≤ 1000000000000 → Calls Tryd.prog 15 #[u] W fun e w' => e = .returned (.agg (idC (digL zs))) ∧ Kept [] W w') := fun W u zs hW hu ho hl => RSum_any W (HRW.out W hW) u zs hu ho hl
  have HCp : Hid (∀ W u zs, BytesAt W u zs → zs.length ≤ 140737488355328 → Calls Tryd.prog 26 #[u] W fun e w' => e = .returned (.slice (some ⟨W.heap.size, 0, none⟩) zs.length zs.length) ∧ w'.heap[W.heap.size]? = some (.cells (zs.map (Value.int .u8)).toArray 5 (0, 0)) ∧ Kept [] W w') := fun W u zs hu hl => Copy0_any u zs W hu hl
  have HKB : Hid (∀ W, Kept [] w W → BytesAt W kv ks) := fun W hW => hk.kept' hW (by simp)
  have HOK : Hid (Octs ks) := hok
  have HOX : Hid (Octs xs) := hox
  obtain ⟨K, hKe⟩ : ∃ K, K = shortK ks := ⟨_, rfl⟩
  have HKE : Hid (K = shortK ks) := hKe
  have hKL : K.length ≤ 64 := by rw [hKe]; exact shortK_len ks
  obtain ⟨ko, kcap, rfl, hkc, _, _⟩ := id hk
  obtain ⟨ao, cap, rfl, hac, _, _⟩ := id hx
  clear hR hk hok hx hox hKe
  obtain ⟨w0, hw0⟩ : ∃ w0, w0 = w.alloc (.cells (idC zid) 29) := ⟨_, rfl⟩
  have HW0 : Hid (w0 = w.alloc (.cells (idC zid) 29)) := hw0
  have HI0 : Hid (w0.heap[w.heap.size]? = some (.cells (idC zid) 29 (0, 0))) := by rw [hw0]; exact heap_alloc_new w _
  have HKw0 : Hid (Kept [] w w0) := by rw [hw0]; exact (Kept.refl [] w).alloc _
  have hs0 : w.heap.size < w0.heap.size := lt_of_block HI0.out
  clear hw0
  go_enter Tryd.func17, Tryd.ntmps17
  have HC1 : Calls Tryd.prog 26 #[.slice ko ks.length kcap] (w.alloc (.cells (idC zid) 29)) fun e w' => e = .returned (.slice (some ⟨w0.heap.size, 0, none⟩) ks.length ks.length) ∧ w'.heap[w0.heap.size]? = some (.cells (ks.map (Value.int .u8)).toArray 5 (0, 0)) ∧ Kept [] w0 w' := by
    rw [← HW0.out]; exact HCp.out w0 _ _ (HKB.out _ HKw0.out) (by omega)
  have HEQ : Hid (ks = K) := by show _ = _; rw [HKE.out]; exact (shortK_short ks hlong).symm
  go_wp2_with (go_at_call 26; refine HC1.mono ?_; rintro e w4 ⟨rfl, hr4, hk4⟩
               have HK4 : Hid (Kept [] w0 w4) := hk4
               have HO4 : Hid (OwnB w4 w0.heap.size (.slice (some ⟨w0.heap.size, 0, none⟩) ks.length ks.length) ks) := own_row hr4 (by omega)
               clear hr4 hk4)
  rw [HEQ.out] at HO4
  rw [HEQ.out]
  clear HC1
  have hc4 : K.length ≤ K.length := Nat.le_refl _
  have hm4 : K.length ≤ 9223372036854775807 := by omega
  have HL4 : Hid (K = K ++ List.replicate 0 0) := by show _ = _; simp
  have hs4 : w0.heap.size ≤ w4.heap.size := HK4.out.size
  go_loopw [5] (fun s5 wr => ∃ (j : Nat) (l : List Int) (g c : Nat), Hid (l = K ++ List.replicate j 0) ∧ l.length ≤ 64 ∧ s5 = .slice (some ⟨g, 0, none⟩) l.length c ∧ l.length ≤ c ∧ c ≤ 9223372036854775807 ∧ Hid (OwnB wr w0.heap.size (.slice (some ⟨g, 0, none⟩) l.length c) l) ∧ Hid (Kept [] w0 wr)) (fun s5 _ => 64 - lenOf s5)
  case atStart => exact ⟨0, K, _, _, HL4, hKL, rfl, hc4, hm4, HO4, HK4⟩
  case round =>
    obtain ⟨j, l, g, c, HL, hl64, rfl, hjc, hcm, HO, HK⟩ := hrel
    clear HO4 HK4 HL4 hc4 hm4
    have hgB : Hid (w0.heap.size ≤ g) := (World.ownsRow.lt HO.out g rfl).1
    by_cases hlt : l.length < 64
    · have hdl : decide ((l.length : Int) < 64) = true := decide_eq_true (by omega)
      have HO1 : Hid (OwnB (wr.alloc (.cells #[.int .u8 0] 5)) w0.heap.size (.slice (some ⟨g, 0, none⟩) l.length c) l) := OwnB.kept HO.out ((Kept.refl [] wr).alloc _) (by simp)
      have HK1 : Hid (Kept [] w0 (wr.alloc (.cells #[.int .u8 0] 5))) := HK.out.alloc _
      have HN : Hid (l ++ [0] = K ++ List.replicate (j + 1) 0) := by show _ = _; rw [HL.out]; exact key_zeros K j
      have hsz : w0.heap.size ≤ wr.heap.size := HK.out.size
      go_wp2_with (at_builtin; refine wpList_append_bytes rfl (.tmp 23) (.tmp 24) rfl rfl HO1.out rfl (one_bytes wr 0) (by simp; omega) (by simp; omega) ?_; intro v2 w2 ha2
                   obtain ⟨l2, hl2⟩ : ∃ l2, l2 = l ++ [0] := ⟨_, rfl⟩
                   have HL2 : Hid (l2 = K ++ List.replicate (j + 1) 0) := hl2.trans HN.out
                   have HO2 : Hid (OwnB w2 w0.heap.size v2 l2) := by have h := ha2.own; rw [hl2]; exact h
                   have hp2 : 0 < l2.length := by rw [hl2]; simp
                   have HP2 : Hid (l2.length = l.length + 1) := by show _ = _; rw [hl2]; simp
                   have HK2 : Hid (Kept [] w0 w2) := ha2.keep w0 [] HK1.out (fun k hk => Or.inr (by cases hk; exact hgB.out))
                   obtain ⟨g2, c2, rfl, _, _, hc2, hm2⟩ := HO2.out.shape hp2
                   clear ha2 hl2)
      go_roundw
      case rel => exact ⟨j + 1, l2, g2, c2, HL2, by have := HP2.out; omega, rfl, hc2, hm2, HO2, HK2⟩
      case measure => have := HP2.out; simp [lenOf]; omega
    · have hl : l.length = 64 := by omega
      have HBL : Hid (l = blockL ks) := by
        show _ = _
        have h1 := HL.out
        have h2 : l.length = K.length + j := by rw [h1]; simp
        unfold blockL
        rw [h1, ← HKE.out, show 64 - K.length = j by omega]
      have HLL : Hid (l.length = 64) := hl
      have HKr : Hid (Kept [] w wr) := HKw0.out.then HK.out
      have hdl : decide ((l.length : Int) < 64) = false := decide_eq_false (by omega)
      clear HL hlt hl
      obtain ⟨wk, hwk⟩ : ∃ wk, wk = wr := ⟨_, rfl⟩
      subst wr
      go_wp2
      obtain ⟨im, him⟩ : ∃ im, im = maskL (blockL ks) 54 := ⟨_, rfl⟩
      obtain ⟨om, hom⟩ : ∃ om, om = maskL (blockL ks) 92 := ⟨_, rfl⟩
      have HIM : Hid (∀ k, k < 64 → im.take (k + 1) = im.take k ++ [bits .xor .u8 (at0 l k) 54]) := fun k hk => by rw [him, HBL.out]; exact maskL_take _ _ k (by rw [blockL_len]; exact hk)
      have HOM : Hid (∀ k, k < 64 → om.take (k + 1) = om.take k ++ [bits .xor .u8 (at0 l k) 92]) := fun k hk => by rw [hom, HBL.out]; exact maskL_take _ _ k (by rw [blockL_len]; exact hk)
      have HIL : Hid (im.length = 64) := by show _ = _; rw [him, maskL_len, blockL_len]
      have HOL : Hid (om.length = 64) := by show _ = _; rw [hom, maskL_len, blockL_len]
      have HIE : Hid (im = maskL (blockL ks) 54) := him
      have HOE : Hid (om = maskL (blockL ks) 92) := hom
      have HLK : Hid (∀ (l : List Int) k, (l.take k).length ≤ k) := fun l k => by rw [List.length_take]; omega
      clear him hom
      have hgk : g < wk.heap.size := (World.ownsRow.lt HO.out g rfl).2
      go_loopw [7, 8, 9] (fun s5 s6 s7 wr => ∃ k : Nat, k ≤ 64 ∧ s7 = .int .i64 k ∧ Hid (OwnB wr wk.heap.size s5 (im.take k)) ∧ Hid (OwnB wr wk.heap.size s6 (om.take k)) ∧ Hid (∀ x, s5.ownBlock = some x → s6.ownBlock ≠ some x) ∧ Hid (Kept [] wk wr)) (fun _ _ s7 _ => 64 - (intOf s7).toNat)
      case atStart => exact ⟨0, Nat.zero_le _, rfl, World.ownsRow_nil _ _ _ _, World.ownsRow_nil _ _ _ _, (fun x h => by simp [Value.ownBlock] at h), Kept.refl _ _⟩
      case round =>
        obtain ⟨k, hk, rfl, HO5, HO6, HD, HKW⟩ := hrel
        by_cases hlt : k < 64
        · have hdk : decide ((k : Int) < 64) = true := decide_eq_true (by omega)
          obtain ⟨z, hz⟩ : ∃ z, z = at0 l k := ⟨_, rfl⟩
          have hI := HIM.out k hlt
          have hO := HOM.out k hlt
          rw [← hz] at hI hO
          have HI1 : Hid (im.take (k + 1) = im.take k ++ [bits .xor .u8 z 54]) := hI
          have HO1 : Hid (om.take (k + 1) = om.take k ++ [bits .xor .u8 z 92]) := hO
          have HF5 : Hid (OwnB (wr.alloc (.cells #[.int .u8 (bits .xor .u8 z 54)] 5)) wk.heap.size u7 (im.take k)) := HO5.out.kept ((Kept.refl [] wr).alloc _) (by simp)
          have HZ5 : Hid (BytesAt (wr.alloc (.cells #[.int .u8 (bits .xor .u8 z 54)] 5)) (.slice (some ⟨wr.heap.size, 0, none⟩) 1 1) [bits .xor .u8 z 54]) := row_bytes' (ys := [bits .xor .u8 z 54]) (heap_alloc_new wr _)
          have hl5 : (im.take k).length + [bits .xor .u8 z 54].length ≤ 140737488355328 := by have := HLK.out im k; simp only [List.length_cons, List.length_nil]; omega
          have hl6 : (om.take k).length + [bits .xor .u8 z 92].length ≤ 140737488355328 := by have := HLK.out om k; simp only [List.length_cons, List.length_nil]; omega
          have HB5 : Hid (wk.heap.size ≤ (wr.alloc (.cells #[.int .u8 (bits .xor .u8 z 54)] 5)).heap.size) := Nat.le_trans HKW.out.size (by simp)
          have hkl : k < l.length := by rw [HLL.out]; exact hlt
          have ck : wr.cell? ⟨g, k, none⟩ = some (.int .u8 z) := by rw [hz]; exact HKW.out.cell (HO.out.cell k hkl) (by simp)
          have HCK : Hid (∀ W, Kept [] wk W → W.cell? ⟨g, k, none⟩ = some (.int .u8 z)) := fun W hW => by rw [hz]; exact hW.cell (HO.out.cell k hkl) (by simp)
          clear hI hO hz
          go_wp2_with (first
            | (at_builtin; refine wpList_append_bytes rfl (.tmp 30) (.tmp 36) rfl rfl HF5.out rfl HZ5.out hl5 HB5.out ?_; intro v5 w6 ha6
               obtain ⟨p1, p2, p3⟩ := pair_step HO5.out HO6.out HD.out HKW.out ha6
               have HV5 : Hid (OwnB w6 wk.heap.size v5 (im.take (k + 1))) := by rw [HI1.out]; exact ha6.own
               have HP1 : Hid (OwnB w6 wk.heap.size u8 (om.take k)) := p1
               have HP2 : Hid (∀ x, u8.ownBlock = some x → v5.ownBlock ≠ some x) := fun x hx hy => p2 x hy hx
               have HP3 : Hid (Kept [] wk w6) := p3
               have HF6 : Hid (OwnB (w6.alloc (.cells #[.int .u8 (bits .xor .u8 z 92)] 5)) wk.heap.size u8 (om.take k)) := HP1.out.kept ((Kept.refl [] w6).alloc _) (by simp)
               have HZ6 : Hid (BytesAt (w6.alloc (.cells #[.int .u8 (bits .xor .u8 z 92)] 5)) (.slice (some ⟨w6.heap.size, 0, none⟩) 1 1) [bits .xor .u8 z 92]) := row_bytes' (ys := [bits .xor .u8 z 92]) (heap_alloc_new w6 _)
               have HB6 : Hid (wk.heap.size ≤ (w6.alloc (.cells #[.int .u8 (bits .xor .u8 z 92)] 5)).heap.size) := Nat.le_trans HP3.out.size (by simp)
               have ck6 := HCK.out w6 p3
               clear p1 p2 p3 ha6)
            | (at_builtin; refine wpList_append_bytes rfl (.tmp 38) (.tmp 44) rfl rfl HF6.out rfl HZ6.out hl6 HB6.out ?_; intro v6 w7 ha7
               obtain ⟨q1, q2, q3⟩ := pair_step HP1.out HV5.out HP2.out HP3.out ha7
               have HQ1 : Hid (OwnB w7 wk.heap.size v5 (im.take (k + 1))) := q1
               have HQ2 : Hid (∀ x, v5.ownBlock = some x → v6.ownBlock ≠ some x) := fun x hx hy => q2 x hy hx
               have HQ3 : Hid (Kept [] wk w7) := q3
               have HQ4 : Hid (OwnB w7 wk.heap.size v6 (om.take (k + 1))) := by rw [HO1.out]; exact ha7.own
               clear q1 q2 q3 ha7))
          go_roundw
          case rel => exact ⟨k + 1, by omega, by go_num, HQ1, HQ4, HQ2, HQ3⟩
          case measure => simp [intOf]; omega
        · obtain rfl : k = 64 := by omega
          rw [show ((64 : Nat) : Int) = 64 from rfl]
          have HV5 : Hid (OwnB wr wk.heap.size u7 im) := by
            have h := HO5.out
            rwa [List.take_of_length_le (by rw [HIL.out]; exact Nat.le_refl _)] at h
          have HV6 : Hid (OwnB wr wk.heap.size u8 om) := by
            have h := HO6.out
            rwa [List.take_of_length_le (by rw [HOL.out]; exact Nat.le_refl _)] at h
          clear HO5 HO6
          obtain ⟨q6, qc6, rfl, _, _, _, _⟩ := HV6.out.shape (by rw [HOL.out]; decide)
          obtain ⟨q5, qc5, rfl, _, _, _, _⟩ := HV5.out.shape (by rw [HIL.out]; decide)
          have HKR : Hid (Kept [] w wr) := HKr.out.then HKW.out
          have hl5 : im.length + xs.length ≤ 140737488355328 := by have := HIL.out; omega
          have hb5 : wk.heap.size ≤ wr.heap.size := HKW.out.size
          have HXR : Hid (BytesAt wr (.slice ao xs.length cap) xs) := HX.out wr HKR.out
          obtain ⟨ix, hix⟩ : ∃ ix, ix = im ++ xs := ⟨_, rfl⟩
          have HIX : Hid (ix = im ++ xs) := hix
          have hixp : 0 < ix.length := by rw [hix, List.length_append, HIL.out]; omega
          obtain ⟨jn, hjn⟩ : ∃ jn, jn = digL (im ++ xs) := ⟨_, rfl⟩
          have hjl : jn.length = 32 := by rw [hjn]; exact digL_len _
          obtain ⟨jc, hjc⟩ : ∃ jc, jc = idC jn := ⟨_, rfl⟩
          have hszj : (Tryd.prog.info? 29).map (·.size) = some jc.size := by rw [hjc, idC_size hjl]; exact Tryd.infoID
          have hallj : jc.all (·.oneCell') = true := by rw [hjc]; exact all_oneCell_toArray (map_oneCell _)
          have hj32 : jc.size = 32 := by rw [hjc, idC_size hjl]
          have HS1 : Hid (∀ W v, Kept [] w W → BytesAt W v ix → Calls Tryd.prog 15 #[v] W fun e w' => e = .returned (.agg jc) ∧ Kept [] W w') := by
            rw [hjc, hjn, hix]
            exact fun W v hW hv => HSum.out W v _ hW hv (by
              intro u hu
              rcases List.mem_append.1 hu with h | h
              · exact maskL_octs _ _ u (HIE.out ▸ h)
              · exact HOX.out u h) (by rw [List.length_append, HIL.out]; omega)
          have HJ : Hid (jc = idC jn) := hjc
          have HJN : Hid (jn = digL (im ++ xs)) := hjn
          have HJL : Hid (jn.length = 32) := hjl
          obtain ⟨ic, hic⟩ : ∃ ic, ic = idC (keyL ks xs) := ⟨_, rfl⟩
          have hszi : (Tryd.prog.info? 29).map (·.size) = some ic.size := by rw [hic, idC_size (keyL_len ks xs)]; exact Tryd.infoID
          have halli : ic.all (·.oneCell') = true := by rw [hic]; exact all_oneCell_toArray (map_oneCell _)
          have hosi : (idC zid).size = ic.size := by rw [hic, idC_size (keyL_len ks xs)]; rfl
          have HSE : Hid (∀ W v, Kept [] w W → BytesAt W v (om ++ jn) → Calls Tryd.prog 15 #[v] W fun e w' => e = .returned (.agg ic) ∧ Kept [] W w') := by
            have e : keyL ks xs = digL (om ++ jn) := by
              unfold keyL
              rw [HJN.out, HIE.out, HOE.out]
            rw [hic, e]
            exact fun W v hW hv => HSum.out W v _ hW hv (by
              intro u hu
              rcases List.mem_append.1 hu with h | h
              · exact maskL_octs _ _ u (HOE.out ▸ h)
              · exact digL_octs _ u (HJN.out ▸ h)) (by rw [List.length_append, HOL.out, HJL.out]; omega)
          have HIC : Hid (ic = idC (keyL ks xs)) := hic
          obtain ⟨oj, hoj⟩ : ∃ oj, oj = om ++ jn := ⟨_, rfl⟩
          rw [← hoj] at HSE
          have HOJ : Hid (oj = om ++ jn) := hoj
          have hojp : 0 < oj.length := by rw [hoj, List.length_append, HOL.out]; omega
          clear hix hoj
          have hl10 : om.length + jn.length ≤ 140737488355328 := by have := HOL.out; have := HJL.out; omega
          have hs32 := slice_all32
          clear hjc hjn hjl hic
          go_wp2_with (first
            | (at_builtin; refine wpList_append_bytes rfl (.tmp 46) (.tmp 47) rfl rfl HV5.out rfl HXR.out hl5 hb5 ?_; intro v7 w7 ha7
               have HK7 : Hid (Kept [] w0 w7) := ha7.keep w0 [] (HK.out.then HKW.out) (fun k hq => Or.inr (Nat.le_trans HK.out.size (World.ownsRow.lt HV5.out k hq).1))
               have k7 : Kept [q5] wr w7 := ha7.keep wr [q5] (Kept.refl _ _) (fun k hq => Or.inl (by cases hq; simp))
               have HP7 : Hid (OwnB w7 wk.heap.size (.slice (some ⟨q6, 0, none⟩) om.length qc6) om) := HV6.out.kept k7 (fun x hx hm => by
                 cases hx
                 have : q6 = q5 := by simpa using hm
                 subst this
                 exact HD.out q6 rfl rfl)
               have own7 : OwnB w7 wk.heap.size v7 ix := by rw [HIX.out]; exact ha7.own
               have HS7 := HS1.out w7 v7 (HKw0.out.then HK7.out) own7.bytes
               obtain ⟨g7, c7, rfl, _, _, _, _⟩ := own7.shape hixp
               clear ha7 k7 own7)
            | (go_at_call_of 15 (Value.slice (some ⟨g7, 0, none⟩) ix.length c7); refine HS7.mono ?_; rintro e w8 ⟨rfl, hk8⟩
               have HK8 : Hid (Kept [] w0 w8) := HK7.out.then hk8
               have HP8 : Hid (OwnB w8 wk.heap.size (.slice (some ⟨q6, 0, none⟩) om.length qc6) om) := HP7.out.kept hk8 (by simp)
               clear hk8 HS7)
            | (refine wpList_store_row (by rfl) 29 (.tmp 10) (.tmp 50) (by rfl) w8.heap.size jc (by rfl) (by rfl) 29 _ (heap_alloc_new w8 _) hszj ?hs hallj ?_; (case hs => exact hj32.symm); rw [World.setRow_alloc_new]
               have HP9 : Hid (OwnB (w8.alloc (.cells jc 29)) wk.heap.size (.slice (some ⟨q6, 0, none⟩) om.length qc6) om) := HP8.out.kept ((Kept.refl [] w8).alloc _) (by simp)
               have HK9 : Hid (Kept [] w0 (w8.alloc (.cells jc 29))) := HK8.out.alloc _
               have HJ9 : Hid (BytesAt (w8.alloc (.cells jc 29)) (.slice (some ⟨w8.heap.size, 0, none⟩) 32 32) jn) := by
                 have h := heap_alloc_new w8 (.cells jc 29)
                 have h2 : (w8.alloc (.cells jc 29)).heap[w8.heap.size]? = some (.cells (idC jn) 29 (0, 0)) := by rw [← HJ.out]; exact h
                 have := row_bytes_tag (w := w8.alloc (.cells jc 29)) h2
                 rwa [HJL.out] at this
               have hb9 : wk.heap.size ≤ (w8.alloc (.cells jc 29)).heap.size := by
                 have h1 := (World.ownsRow.lt HP8.out q6 rfl).1
                 have h2 := (World.ownsRow.lt HP8.out q6 rfl).2
                 simp
                 omega
               have HB9 : Hid (wk.heap.size ≤ (w8.alloc (.cells jc 29)).heap.size) := hb9
               clear hb9
               generalize w8.alloc (.cells jc 29) = w9 at *)
            | (at_builtin; refine wpList_append_bytes rfl (.tmp 51) (.tmp 52) rfl rfl HP9.out rfl HJ9.out hl10 HB9.out ?_; intro v10 w10 ha10
               have HK10 : Hid (Kept [] w0 w10) := ha10.keep w0 [] HK9.out (fun k hq => Or.inr (Nat.le_trans HK.out.size (World.ownsRow.lt HP9.out k hq).1))
               have own10 : OwnB w10 wk.heap.size v10 oj := by rw [HOJ.out]; exact ha10.own
               have HS10 := HSE.out w10 v10 (HKw0.out.then HK10.out) own10.bytes
               obtain ⟨g10, c10, rfl, _, _, _, _⟩ := own10.shape hojp
               clear ha10 own10)
            | (go_at_call_of 15 (Value.slice (some ⟨g10, 0, none⟩) oj.length c10); refine HS10.mono ?_; rintro e w11 ⟨rfl, hk11⟩
               have HK11 : Hid (Kept [] w0 w11) := HK10.out.then hk11
               have HI11 : Hid (w11.heap[w.heap.size]? = some (.cells (idC zid) 29 (0, 0))) := HK11.out.heap HI0.out (by simp)
               clear hk11 HS10)
            | (refine wpList_store_row rfl 29 (.tmp 4) (.tmp 55) rfl w.heap.size ic rfl rfl 29 _ HI11.out hszi hosi halli ?_))
          refine bodyPost_ret (v := .agg ic) ?_ rfl ⟨by rw [HIC.out], kept_setRow (HKw0.out.then HK11.out) (Nat.le_refl _) _⟩
          rw [results_cell rfl]
          exact run_loadVar_row (P := Tryd.prog) (w11.setRow w.heap.size ic) w.heap.size 29 29 ic (0, 0) _ (setRow_heap _ _ _ _ _ _ HI11.out) Tryd.underlying29 rfl hszi

set_option maxRecDepth 100000 in
set_option maxHeartbeats 4000000 in
theorem RKeyed_long (w : World) (hR : VarsR w) (kv v : Value) (ks xs : List Int) (hk : BytesAt w kv ks) (hok : Octs ks) (hnk : ks.length ≤ 1000000000) (hx : BytesAt w v xs) (hox : Octs xs) (hn : xs.length ≤ 1000000000) (hlong : 64 < ks.length) :
    Calls Tryd.prog 17 #[kv, v] w fun e w' => e = .returned (.agg (idC (keyL ks xs))) ∧ Kept [] w w' := by
  have HRW : Hid (∀ W, Kept [] w W → VarsR W) := fun W hW => hR.kept hW (by simp) (by simp)
  have HX : Hid (∀ W, Kept [] w W → BytesAt W v xs) := fun W hW => hx.kept' hW (by simp)
  have HSum : Hid (∀ W u zs, Kept [] w W → BytesAt W u zs → Octs zs → zs.length ≤ 1000000000000 → Calls Tryd.prog 15 #[u] W fun e w' => e = .returned (.agg (idC (digL zs))) ∧ Kept [] W w') := fun W u zs hW hu ho hl => RSum_any W (HRW.out W hW) u zs hu ho hl
  have HCp : Hid (∀ W u zs, BytesAt W u zs → zs.length ≤ 140737488355328 → Calls Tryd.prog 26 #[u] W fun e w' => e = .returned (.slice (some ⟨W.heap.size, 0, none⟩) zs.length zs.length) ∧ w'.heap[W.heap.size]? = some (.cells (zs.map (Value.int .u8)).toArray 5 (0, 0)) ∧ Kept [] W w') := fun W u zs hu hl => Copy0_any u zs W hu hl
  have HKB : Hid (∀ W, Kept [] w W → BytesAt W kv ks) := fun W hW => hk.kept' hW (by simp)
  have HOK : Hid (Octs ks) := hok
  have HOX : Hid (Octs xs) := hox
  obtain ⟨K, hKe⟩ : ∃ K, K = shortK ks := ⟨_, rfl⟩
  have HKE : Hid (K = shortK ks) := hKe
  have hKL : K.length ≤ 64 := by rw [hKe]; exact shortK_len ks
  obtain ⟨ko, kcap, rfl, hkc, _, _⟩ := id hk
  obtain ⟨ao, cap, rfl, hac, _, _⟩ := id hx
  clear hR hk hok hx hox hKe
  obtain ⟨w0, hw0⟩ : ∃ w0, w0 = w.alloc (.cells (idC zid) 29) := ⟨_, rfl⟩
  have HW0 : Hid (w0 = w.alloc (.cells (idC zid) 29)) := hw0
  have HI0 : Hid (w0.heap[w.heap.size]? = some (.cells (idC zid) 29 (0, 0))) := by rw [hw0]; exact heap_alloc_new w _
  have HKw0 : Hid (Kept [] w w0) := by rw [hw0]; exact (Kept.refl [] w).alloc _
  have hs0 : w.heap.size < w0.heap.size := lt_of_block HI0.out
  clear hw0
  go_enter Tryd.func17, Tryd.ntmps17
  have HC1 : Calls Tryd.prog 26 #[.slice ko ks.length kcap] (w.alloc (.cells (idC zid) 29)) fun e w' => e = .returned (.slice (some ⟨w0.heap.size, 0, none⟩) ks.length ks.length) ∧ w'.heap[w0.heap.size]? = some (.cells (ks.map (Value.int .u8)).toArray 5 (0, 0)) ∧ Kept [] w0 w' := by
    rw [← HW0.out]; exact HCp.out w0 _ _ (HKB.out _ HKw0.out) (by omega)
  have hKd : K = digL ks := by rw [HKE.out]; exact if_pos hlong
  obtain ⟨kc, hkcE⟩ : ∃ kc, kc = idC K := ⟨_, rfl⟩
  have hK32 : K.length = 32 := by rw [hKd]; exact digL_len _
  have hszk : (Tryd.prog.info? 29).map (·.size) = some kc.size := by rw [hkcE, idC_size hK32]; exact Tryd.infoID
  have hallk : kc.all (·.oneCell') = true := by rw [hkcE]; exact all_oneCell_toArray (map_oneCell _)
  have hk32 : kc.size = 32 := by rw [hkcE, idC_size hK32]
  have HSk : Hid (∀ W, Kept [] w W → Calls Tryd.prog 15 #[.slice ko ks.length kcap] W fun e w' => e = .returned (.agg kc) ∧ Kept [] W w') := by
    rw [hkcE, hKd]; exact fun W hW => HSum.out W _ _ hW (HKB.out W hW) HOK.out (by omega)
  have HKC : Hid (kc = idC K) := hkcE
  have HK32 : Hid (K.length = 32) := hK32
  have hs32 := slice_all32
  clear hkcE hK32 hKd
  have hdl0 : decide ((64 : Int) < (ks.length : Int)) = true := decide_eq_true (by omega)
  go_wp2_with (first
    | (go_at_call_of 26 (Value.slice ko ks.length kcap); refine HC1.mono ?_; rintro e w1 ⟨rfl, hr1, hk1⟩
       have HK1 : Hid (Kept [] w0 w1) := hk1
       clear hr1 hk1)
    | (go_at_call 15; refine (HSk.out w1 (HKw0.out.then HK1.out)).mono ?_; rintro e w2 ⟨rfl, hk2⟩
       have HK2 : Hid (Kept [] w0 w2) := HK1.out.then hk2
       clear hk2)
    | (refine wpList_store_row (by rfl) 29 (.tmp 6) (.tmp 17) (by rfl) w2.heap.size kc (by rfl) (by rfl) 29 _ (heap_alloc_new w2 _) hszk ?hs hallk ?_; (case hs => exact hk32.symm); rw [World.setRow_alloc_new]
       have HJ3 : Hid (BytesAt (w2.alloc (.cells kc 29)) (.slice (some ⟨w2.heap.size, 0, none⟩) 32 32) K) := by
         have h2 : (w2.alloc (.cells kc 29)).heap[w2.heap.size]? = some (.cells (idC K) 29 (0, 0)) := by rw [← HKC.out]; exact heap_alloc_new w2 _
         have := row_bytes_tag (w := w2.alloc (.cells kc 29)) h2
         rwa [HK32.out] at this
       have HK3 : Hid (Kept [] w0 (w2.alloc (.cells kc 29))) := HK2.out.alloc _
       generalize w2.alloc (.cells kc 29) = w3 at *
       have HC3 := HCp.out w3 _ _ HJ3.out (by omega))
    | (go_at_call_of 26 (Value.slice (some ⟨w2.heap.size, 0, none⟩) 32 32); refine HC3.mono ?_; rintro e w4 ⟨rfl, hr4, hk4⟩
       have HK4 : Hid (Kept [] w0 w4) := HK3.out.then hk4
       have HO4 : Hid (OwnB w4 w0.heap.size (.slice (some ⟨w3.heap.size, 0, none⟩) K.length K.length) K) := (own_row hr4 (by omega)).mono HK3.out.size
       clear hr4 hk4))
  clear HC1 HC3
  have hc4 : K.length ≤ K.length := Nat.le_refl _
  have hm4 : K.length ≤ 9223372036854775807 := by omega
  have HL4 : Hid (K = K ++ List.replicate 0 0) := by show _ = _; simp
  have hs4 : w0.heap.size ≤ w4.heap.size := HK4.out.size
  go_loopw [5] (fun s5 wr => ∃ (j : Nat) (l : List Int) (g c : Nat), Hid (l = K ++ List.replicate j 0) ∧ l.length ≤ 64 ∧ s5 = .slice (some ⟨g, 0, none⟩) l.length c ∧ l.length ≤ c ∧ c ≤ 9223372036854775807 ∧ Hid (OwnB wr w0.heap.size (.slice (some ⟨g, 0, none⟩) l.length c) l) ∧ Hid (Kept [] w0 wr)) (fun s5 _ => 64 - lenOf s5)
  case atStart => exact ⟨0, K, _, _, HL4, hKL, rfl, hc4, hm4, HO4, HK4⟩
  case round =>
    obtain ⟨j, l, g, c, HL, hl64, rfl, hjc, hcm, HO, HK⟩ := hrel
    clear HO4 HK4 HL4 hc4 hm4
    have hgB : Hid (w0.heap.size ≤ g) := (World.ownsRow.lt HO.out g rfl).1
    by_cases hlt : l.length < 64
    · have hdl : decide ((l.length : Int) < 64) = true := decide_eq_true (by omega)
      have HO1 : Hid (OwnB (wr.alloc (.cells #[.int .u8 0] 5)) w0.heap.size (.slice (some ⟨g, 0, none⟩) l.length c) l) := OwnB.kept HO.out ((Kept.refl [] wr).alloc _) (by simp)
      have HK1 : Hid (Kept [] w0 (wr.alloc (.cells #[.int .u8 0] 5))) := HK.out.alloc _
      have HN : Hid (l ++ [0] = K ++ List.replicate (j + 1) 0) := by show _ = _; rw [HL.out]; exact key_zeros K j
      have hsz : w0.heap.size ≤ wr.heap.size := HK.out.size
      go_wp2_with (at_builtin; refine wpList_append_bytes rfl (.tmp 23) (.tmp 24) rfl rfl HO1.out rfl (one_bytes wr 0) (by simp; omega) (by simp; omega) ?_; intro v2 w2 ha2
                   obtain ⟨l2, hl2⟩ : ∃ l2, l2 = l ++ [0] := ⟨_, rfl⟩
                   have HL2 : Hid (l2 = K ++ List.replicate (j + 1) 0) := hl2.trans HN.out
                   have HO2 : Hid (OwnB w2 w0.heap.size v2 l2) := by have h := ha2.own; rw [hl2]; exact h
                   have hp2 : 0 < l2.length := by rw [hl2]; simp
                   have HP2 : Hid (l2.length = l.length + 1) := by show _ = _; rw [hl2]; simp
                   have HK2 : Hid (Kept [] w0 w2) := ha2.keep w0 [] HK1.out (fun k hk => Or.inr (by cases hk; exact hgB.out))
                   obtain ⟨g2, c2, rfl, _, _, hc2, hm2⟩ := HO2.out.shape hp2
                   clear ha2 hl2)
      go_roundw
      case rel => exact ⟨j + 1, l2, g2, c2, HL2, by have := HP2.out; omega, rfl, hc2, hm2, HO2, HK2⟩
      case measure => have := HP2.out; simp [lenOf]; omega
    · have hl : l.length = 64 := by omega
      have HBL : Hid (l = blockL ks) := by
        show _ = _
        have h1 := HL.out
        have h2 : l.length = K.length + j := by rw [h1]; simp
        unfold blockL
        rw [h1, ← HKE.out, show 64 - K.length = j by omega]
      have HLL : Hid (l.length = 64) := hl
      have HKr : Hid (Kept [] w wr) := HKw0.out.then HK.out
      have hdl : decide ((l.length : Int) < 64) = false := decide_eq_false (by omega)
      clear HL hlt hl
      obtain ⟨wk, hwk⟩ : ∃ wk, wk = wr := ⟨_, rfl⟩
      subst wr
      go_wp2
      obtain ⟨im, him⟩ : ∃ im, im = maskL (blockL ks) 54 := ⟨_, rfl⟩
      obtain ⟨om, hom⟩ : ∃ om, om = maskL (blockL ks) 92 := ⟨_, rfl⟩
      have HIM : Hid (∀ k, k < 64 → im.take (k + 1) = im.take k ++ [bits .xor .u8 (at0 l k) 54]) := fun k hk => by rw [him, HBL.out]; exact maskL_take _ _ k (by rw [blockL_len]; exact hk)
      have HOM : Hid (∀ k, k < 64 → om.take (k + 1) = om.take k ++ [bits .xor .u8 (at0 l k) 92]) := fun k hk => by rw [hom, HBL.out]; exact maskL_take _ _ k (by rw [blockL_len]; exact hk)
      have HIL : Hid (im.length = 64) := by show _ = _; rw [him, maskL_len, blockL_len]
      have HOL : Hid (om.length = 64) := by show _ = _; rw [hom, maskL_len, blockL_len]
      have HIE : Hid (im = maskL (blockL ks) 54) := him
      have HOE : Hid (om = maskL (blockL ks) 92) := hom
      have HLK : Hid (∀ (l : List Int) k, (l.take k).length ≤ k) := fun l k => by rw [List.length_take]; omega
      clear him hom
      have hgk : g < wk.heap.size := (World.ownsRow.lt HO.out g rfl).2
      go_loopw [7, 8, 9] (fun s5 s6 s7 wr => ∃ k : Nat, k ≤ 64 ∧ s7 = .int .i64 k ∧ Hid (OwnB wr wk.heap.size s5 (im.take k)) ∧ Hid (OwnB wr wk.heap.size s6 (om.take k)) ∧ Hid (∀ x, s5.ownBlock = some x → s6.ownBlock ≠ some x) ∧ Hid (Kept [] wk wr)) (fun _ _ s7 _ => 64 - (intOf s7).toNat)
      case atStart => exact ⟨0, Nat.zero_le _, rfl, World.ownsRow_nil _ _ _ _, World.ownsRow_nil _ _ _ _, (fun x h => by simp [Value.ownBlock] at h), Kept.refl _ _⟩
      case round =>
        obtain ⟨k, hk, rfl, HO5, HO6, HD, HKW⟩ := hrel
        by_cases hlt : k < 64
        · have hdk : decide ((k : Int) < 64) = true := decide_eq_true (by omega)
          obtain ⟨z, hz⟩ : ∃ z, z = at0 l k := ⟨_, rfl⟩
          have hI := HIM.out k hlt
          have hO := HOM.out k hlt
          rw [← hz] at hI hO
          have HI1 : Hid (im.take (k + 1) = im.take k ++ [bits .xor .u8 z 54]) := hI
          have HO1 : Hid (om.take (k + 1) = om.take k ++ [bits .xor .u8 z 92]) := hO
          have HF5 : Hid (OwnB (wr.alloc (.cells #[.int .u8 (bits .xor .u8 z 54)] 5)) wk.heap.size u7 (im.take k)) := HO5.out.kept ((Kept.refl [] wr).alloc _) (by simp)
          have HZ5 : Hid (BytesAt (wr.alloc (.cells #[.int .u8 (bits .xor .u8 z 54)] 5)) (.slice (some ⟨wr.heap.size, 0, none⟩) 1 1) [bits .xor .u8 z 54]) := row_bytes' (ys := [bits .xor .u8 z 54]) (heap_alloc_new wr _)
          have hl5 : (im.take k).length + [bits .xor .u8 z 54].length ≤ 140737488355328 := by have := HLK.out im k; simp only [List.length_cons, List.length_nil]; omega
          have hl6 : (om.take k).length + [bits .xor .u8 z 92].length ≤ 140737488355328 := by have := HLK.out om k; simp only [List.length_cons, List.length_nil]; omega
          have HB5 : Hid (wk.heap.size ≤ (wr.alloc (.cells #[.int .u8 (bits .xor .u8 z 54)] 5)).heap.size) := Nat.le_trans HKW.out.size (by simp)
          have hkl : k < l.length := by rw [HLL.out]; exact hlt
          have ck : wr.cell? ⟨g, k, none⟩ = some (.int .u8 z) := by rw [hz]; exact HKW.out.cell (HO.out.cell k hkl) (by simp)
          have HCK : Hid (∀ W, Kept [] wk W → W.cell? ⟨g, k, none⟩ = some (.int .u8 z)) := fun W hW => by rw [hz]; exact hW.cell (HO.out.cell k hkl) (by simp)
          clear hI hO hz
          go_wp2_with (first
            | (at_builtin; refine wpList_append_bytes rfl (.tmp 30) (.tmp 36) rfl rfl HF5.out rfl HZ5.out hl5 HB5.out ?_; intro v5 w6 ha6
               obtain ⟨p1, p2, p3⟩ := pair_step HO5.out HO6.out HD.out HKW.out ha6
               have HV5 : Hid (OwnB w6 wk.heap.size v5 (im.take (k + 1))) := by rw [HI1.out]; exact ha6.own
               have HP1 : Hid (OwnB w6 wk.heap.size u8 (om.take k)) := p1
               have HP2 : Hid (∀ x, u8.ownBlock = some x → v5.ownBlock ≠ some x) := fun x hx hy => p2 x hy hx
               have HP3 : Hid (Kept [] wk w6) := p3
               have HF6 : Hid (OwnB (w6.alloc (.cells #[.int .u8 (bits .xor .u8 z 92)] 5)) wk.heap.size u8 (om.take k)) := HP1.out.kept ((Kept.refl [] w6).alloc _) (by simp)
               have HZ6 : Hid (BytesAt (w6.alloc (.cells #[.int .u8 (bits .xor .u8 z 92)] 5)) (.slice (some ⟨w6.heap.size, 0, none⟩) 1 1) [bits .xor .u8 z 92]) := row_bytes' (ys := [bits .xor .u8 z 92]) (heap_alloc_new w6 _)
               have HB6 : Hid (wk.heap.size ≤ (w6.alloc (.cells #[.int .u8 (bits .xor .u8 z 92)] 5)).heap.size) := Nat.le_trans HP3.out.size (by simp)
               have ck6 := HCK.out w6 p3
               clear p1 p2 p3 ha6)
            | (at_builtin; refine wpList_append_bytes rfl (.tmp 38) (.tmp 44) rfl rfl HF6.out rfl HZ6.out hl6 HB6.out ?_; intro v6 w7 ha7
               obtain ⟨q1, q2, q3⟩ := pair_step HP1.out HV5.out HP2.out HP3.out ha7
               have HQ1 : Hid (OwnB w7 wk.heap.size v5 (im.take (k + 1))) := q1
               have HQ2 : Hid (∀ x, v5.ownBlock = some x → v6.ownBlock ≠ some x) := fun x hx hy => q2 x hy hx
               have HQ3 : Hid (Kept [] wk w7) := q3
               have HQ4 : Hid (OwnB w7 wk.heap.size v6 (om.take (k + 1))) := by rw [HO1.out]; exact ha7.own
               clear q1 q2 q3 ha7))
          go_roundw
          case rel => exact ⟨k + 1, by omega, by go_num, HQ1, HQ4, HQ2, HQ3⟩
          case measure => simp [intOf]; omega
        · obtain rfl : k = 64 := by omega
          rw [show ((64 : Nat) : Int) = 64 from rfl]
          have HV5 : Hid (OwnB wr wk.heap.size u7 im) := by
            have h := HO5.out
            rwa [List.take_of_length_le (by rw [HIL.out]; exact Nat.le_refl _)] at h
          have HV6 : Hid (OwnB wr wk.heap.size u8 om) := by
            have h := HO6.out
            rwa [List.take_of_length_le (by rw [HOL.out]; exact Nat.le_refl _)] at h
          clear HO5 HO6
          obtain ⟨q6, qc6, rfl, _, _, _, _⟩ := HV6.out.shape (by rw [HOL.out]; decide)
          obtain ⟨q5, qc5, rfl, _, _, _, _⟩ := HV5.out.shape (by rw [HIL.out]; decide)
          have HKR : Hid (Kept [] w wr) := HKr.out.then HKW.out
          have hl5 : im.length + xs.length ≤ 140737488355328 := by have := HIL.out; omega
          have hb5 : wk.heap.size ≤ wr.heap.size := HKW.out.size
          have HXR : Hid (BytesAt wr (.slice ao xs.length cap) xs) := HX.out wr HKR.out
          obtain ⟨ix, hix⟩ : ∃ ix, ix = im ++ xs := ⟨_, rfl⟩
          have HIX : Hid (ix = im ++ xs) := hix
          have hixp : 0 < ix.length := by rw [hix, List.length_append, HIL.out]; omega
          obtain ⟨jn, hjn⟩ : ∃ jn, jn = digL (im ++ xs) := ⟨_, rfl⟩
          have hjl : jn.length = 32 := by rw [hjn]; exact digL_len _
          obtain ⟨jc, hjc⟩ : ∃ jc, jc = idC jn := ⟨_, rfl⟩
          have hszj : (Tryd.prog.info? 29).map (·.size) = some jc.size := by rw [hjc, idC_size hjl]; exact Tryd.infoID
          have hallj : jc.all (·.oneCell') = true := by rw [hjc]; exact all_oneCell_toArray (map_oneCell _)
          have hj32 : jc.size = 32 := by rw [hjc, idC_size hjl]
          have HS1 : Hid (∀ W v, Kept [] w W → BytesAt W v ix → Calls Tryd.prog 15 #[v] W fun e w' => e = .returned (.agg jc) ∧ Kept [] W w') := by
            rw [hjc, hjn, hix]
            exact fun W v hW hv => HSum.out W v _ hW hv (by
              intro u hu
              rcases List.mem_append.1 hu with h | h
              · exact maskL_octs _ _ u (HIE.out ▸ h)
              · exact HOX.out u h) (by rw [List.length_append, HIL.out]; omega)
          have HJ : Hid (jc = idC jn) := hjc
          have HJN : Hid (jn = digL (im ++ xs)) := hjn
          have HJL : Hid (jn.length = 32) := hjl
          obtain ⟨ic, hic⟩ : ∃ ic, ic = idC (keyL ks xs) := ⟨_, rfl⟩
          have hszi : (Tryd.prog.info? 29).map (·.size) = some ic.size := by rw [hic, idC_size (keyL_len ks xs)]; exact Tryd.infoID
          have halli : ic.all (·.oneCell') = true := by rw [hic]; exact all_oneCell_toArray (map_oneCell _)
          have hosi : (idC zid).size = ic.size := by rw [hic, idC_size (keyL_len ks xs)]; rfl
          have HSE : Hid (∀ W v, Kept [] w W → BytesAt W v (om ++ jn) → Calls Tryd.prog 15 #[v] W fun e w' => e = .returned (.agg ic) ∧ Kept [] W w') := by
            have e : keyL ks xs = digL (om ++ jn) := by
              unfold keyL
              rw [HJN.out, HIE.out, HOE.out]
            rw [hic, e]
            exact fun W v hW hv => HSum.out W v _ hW hv (by
              intro u hu
              rcases List.mem_append.1 hu with h | h
              · exact maskL_octs _ _ u (HOE.out ▸ h)
              · exact digL_octs _ u (HJN.out ▸ h)) (by rw [List.length_append, HOL.out, HJL.out]; omega)
          have HIC : Hid (ic = idC (keyL ks xs)) := hic
          obtain ⟨oj, hoj⟩ : ∃ oj, oj = om ++ jn := ⟨_, rfl⟩
          rw [← hoj] at HSE
          have HOJ : Hid (oj = om ++ jn) := hoj
          have hojp : 0 < oj.length := by rw [hoj, List.length_append, HOL.out]; omega
          clear hix hoj
          have hl10 : om.length + jn.length ≤ 140737488355328 := by have := HOL.out; have := HJL.out; omega
          have hs32 := slice_all32
          clear hjc hjn hjl hic
          go_wp2_with (first
            | (at_builtin; refine wpList_append_bytes rfl (.tmp 46) (.tmp 47) rfl rfl HV5.out rfl HXR.out hl5 hb5 ?_; intro v7 w7 ha7
               have HK7 : Hid (Kept [] w0 w7) := ha7.keep w0 [] (HK.out.then HKW.out) (fun k hq => Or.inr (Nat.le_trans HK.out.size (World.ownsRow.lt HV5.out k hq).1))
               have k7 : Kept [q5] wr w7 := ha7.keep wr [q5] (Kept.refl _ _) (fun k hq => Or.inl (by cases hq; simp))
               have HP7 : Hid (OwnB w7 wk.heap.size (.slice (some ⟨q6, 0, none⟩) om.length qc6) om) := HV6.out.kept k7 (fun x hx hm => by
                 cases hx
                 have : q6 = q5 := by simpa using hm
                 subst this
                 exact HD.out q6 rfl rfl)
               have own7 : OwnB w7 wk.heap.size v7 ix := by rw [HIX.out]; exact ha7.own
               have HS7 := HS1.out w7 v7 (HKw0.out.then HK7.out) own7.bytes
               obtain ⟨g7, c7, rfl, _, _, _, _⟩ := own7.shape hixp
               clear ha7 k7 own7)
            | (go_at_call_of 15 (Value.slice (some ⟨g7, 0, none⟩) ix.length c7); refine HS7.mono ?_; rintro e w8 ⟨rfl, hk8⟩
               have HK8 : Hid (Kept [] w0 w8) := HK7.out.then hk8
               have HP8 : Hid (OwnB w8 wk.heap.size (.slice (some ⟨q6, 0, none⟩) om.length qc6) om) := HP7.out.kept hk8 (by simp)
               clear hk8 HS7)
            | (refine wpList_store_row (by rfl) 29 (.tmp 10) (.tmp 50) (by rfl) w8.heap.size jc (by rfl) (by rfl) 29 _ (heap_alloc_new w8 _) hszj ?hs hallj ?_; (case hs => exact hj32.symm); rw [World.setRow_alloc_new]
               have HP9 : Hid (OwnB (w8.alloc (.cells jc 29)) wk.heap.size (.slice (some ⟨q6, 0, none⟩) om.length qc6) om) := HP8.out.kept ((Kept.refl [] w8).alloc _) (by simp)
               have HK9 : Hid (Kept [] w0 (w8.alloc (.cells jc 29))) := HK8.out.alloc _
               have HJ9 : Hid (BytesAt (w8.alloc (.cells jc 29)) (.slice (some ⟨w8.heap.size, 0, none⟩) 32 32) jn) := by
                 have h := heap_alloc_new w8 (.cells jc 29)
                 have h2 : (w8.alloc (.cells jc 29)).heap[w8.heap.size]? = some (.cells (idC jn) 29 (0, 0)) := by rw [← HJ.out]; exact h
                 have := row_bytes_tag (w := w8.alloc (.cells jc 29)) h2
                 rwa [HJL.out] at this
               have hb9 : wk.heap.size ≤ (w8.alloc (.cells jc 29)).heap.size := by
                 have h1 := (World.ownsRow.lt HP8.out q6 rfl).1
                 have h2 := (World.ownsRow.lt HP8.out q6 rfl).2
                 simp
                 omega
               have HB9 : Hid (wk.heap.size ≤ (w8.alloc (.cells jc 29)).heap.size) := hb9
               clear hb9
               generalize w8.alloc (.cells jc 29) = w9 at *)
            | (at_builtin; refine wpList_append_bytes rfl (.tmp 51) (.tmp 52) rfl rfl HP9.out rfl HJ9.out hl10 HB9.out ?_; intro v10 w10 ha10
               have HK10 : Hid (Kept [] w0 w10) := ha10.keep w0 [] HK9.out (fun k hq => Or.inr (Nat.le_trans HK.out.size (World.ownsRow.lt HP9.out k hq).1))
               have own10 : OwnB w10 wk.heap.size v10 oj := by rw [HOJ.out]; exact ha10.own
               have HS10 := HSE.out w10 v10 (HKw0.out.then HK10.out) own10.bytes
               obtain ⟨g10, c10, rfl, _, _, _, _⟩ := own10.shape hojp
               clear ha10 own10)
            | (go_at_call_of 15 (Value.slice (some ⟨g10, 0, none⟩) oj.length c10); refine HS10.mono ?_; rintro e w11 ⟨rfl, hk11⟩
               have HK11 : Hid (Kept [] w0 w11) := HK10.out.then hk11
               have HI11 : Hid (w11.heap[w.heap.size]? = some (.cells (idC zid) 29 (0, 0))) := HK11.out.heap HI0.out (by simp)
               clear hk11 HS10)
            | (refine wpList_store_row rfl 29 (.tmp 4) (.tmp 55) rfl w.heap.size ic rfl rfl 29 _ HI11.out hszi hosi halli ?_))
          refine bodyPost_ret (v := .agg ic) ?_ rfl ⟨by rw [HIC.out], kept_setRow (HKw0.out.then HK11.out) (Nat.le_refl _) _⟩
          rw [results_cell rfl]
          exact run_loadVar_row (P := Tryd.prog) (w11.setRow w.heap.size ic) w.heap.size 29 29 ic (0, 0) _ (setRow_heap _ _ _ _ _ _ HI11.out) Tryd.underlying29 rfl hszi

theorem RKeyed_any (w : World) (hR : VarsR w) (kv v : Value) (ks xs : List Int) (hk : BytesAt w kv ks) (hok : Octs ks) (hnk : ks.length ≤ 1000000000) (hx : BytesAt w v xs) (hox : Octs xs) (hn : xs.length ≤ 1000000000) :
    Calls Tryd.prog 17 #[kv, v] w fun e w' => e = .returned (.agg (idC (keyL ks xs))) ∧ Kept [] w w' := by
  by_cases h : ks.length ≤ 64
  · exact RKeyed_short w hR kv v ks xs hk hok hnk hx hox hn h
  · exact RKeyed_long w hR kv v ks xs hk hok hnk hx hox hn (by omega)
end Go.Proofs.YtdjfcackiclepaaDoor
