/-
  WALK: digest.Keyed, for every key and list of bytes.
-/
import Derived.Test.YtdjfcackiclepaaDoorKey1
namespace Go.Proofs.YtdjfcackiclepaaDoor
open Go.RowKit

/-- The key as a block; the keyed digest. -/
def shortK (ks : List Int) : List Int := if 64 < ks.length then digL ks else ks
def blockL (ks : List Int) : List Int := shortK ks ++ List.replicate (64 - (shortK ks).length) 0
def keyL (ks xs : List Int) : List Int := digL (maskL (blockL ks) 92 ++ digL (maskL (blockL ks) 54 ++ xs))
theorem shortK_len (ks : List Int) : (shortK ks).length ≤ 64 := by
  unfold shortK
  split
  · rw [digL_len]; omega
  · omega
theorem blockL_len (ks : List Int) : (blockL ks).length = 64 := by
  have := shortK_len ks
  unfold blockL
  simp
  omega
theorem keyL_len (ks xs : List Int) : (keyL ks xs).length = 32 := digL_len _
theorem keyL_octs (ks xs : List Int) : Octs (keyL ks xs) := digL_octs _

theorem Tryd.arr32 : Tryd.prog.underlying 29 = some (.array (Tryd.prog.arrayLen 29) (Tryd.prog.elem 29)) := by kernel_rfl
theorem Tryd.len32 : Tryd.prog.arrayLen 29 = 32 := by kernel_rfl
theorem Tryd.one32 (W : World) : (sizeOf (Tryd.prog.elem 29)).run Tryd.prog W = .ok 1 W := by kernel_rfl
theorem slice_all32 (b : Nat) (W : World) : (Instr.sliceAt 29 (.pointer (some ⟨b, 0, none⟩)) none none none).run Tryd.prog W = .ok (.slice (some ⟨b, 0, none⟩) 32 32) W := by
  rw [run_sliceAt_array_all W _ _ Tryd.arr32, Tryd.one32 W, Tryd.len32]
  rfl

theorem wpList_copy_kept {P : Program} {w : World} {ops : Array Oper} {rest : List Oper} {o : Oper} {a : Act} {Q : Exit → Act → World → Prop} (hgd : o.guard = none) (d s : Operand) (dT sT : TypeId)
    (ho : o.op = .call { callee := .builtin .copy, args := #[d, s], argTypes := #[dT, sT] }) (elem : TypeId) (hu : P.underlying dT = some (.slice elem)) (hsz : (P.info? elem).map (·.size) = some 1)
    (dp sp : Option Addr) (dLen dCap sLen sCap : Nat) (hd : a.eval d = .slice dp dLen dCap) (hs : a.eval s = .slice sp sLen sCap)
    (g off : Nat) (cur : List Value) (t : TypeId) (hg : w.heap[g]? = some (.cells cur.toArray t (0, 0))) (cs : List Value) (hn : cs.length = Nat.min sLen dLen)
    (hpos : 0 < cs.length → dp = some ⟨g, off, none⟩ ∧ ∃ ad, sp = some ad ∧ ∀ j v, cs[j]? = some v → w.cell? (ad.add j) = some v)
    (hfit : off + cs.length ≤ cur.length) (h1 : ∀ v ∈ cs, v.oneCell' = true)
    (h : ∀ w', Hid (w'.heap[g]? = some (.cells (splice cur off cs).toArray t (0, 0))) → Kept [g] w w' → wpList P ops Q rest (a.put o.dst (goInt cs.length)) w') :
    wpList P ops Q (o :: rest) a w := by
  by_cases h0 : cs.length = 0
  · obtain rfl : cs = [] := List.eq_nil_of_length_eq_zero h0
    refine wpList_copy_nothing hgd d s dT sT ho elem hu hsz dp sp dLen dCap sLen sCap hd hs (by simpa using hn.symm) ?_
    exact h w (show _ = _ by simpa [splice] using hg) (Kept.refl _ _)
  · obtain ⟨rfl, ad, rfl, hsrc⟩ := hpos (by omega)
    refine wpList_copy_own hgd d s dT sT ho elem hu hsz g off dLen dCap ad sLen sCap hd hs cur.toArray t hg cs hn hsrc (by simpa using hfit) h1 ?_
    exact h _ (show _ = _ by simpa [splice] using setRow_heap w g _ _ t _ hg) ((Kept.refl [g] w).setRow1 (by simp) _)

set_option maxRecDepth 100000 in
set_option maxHeartbeats 4000000 in
/-- The rest of Keyed, once the key lies in its block. -/
theorem block_copy (ks : List Int) : splice ((zero64).map (Value.int .u8)) 0 (ks.map (Value.int .u8)) = (ks ++ List.replicate (64 - ks.length) 0).map (Value.int .u8) := by
  have e : zero64.map (Value.int .u8) = List.replicate 64 (Value.int .u8 0) := by rw [zero64, List.map_replicate]
  rw [e]
  unfold splice
  rw [List.take_zero, List.nil_append, Nat.zero_add, List.length_map, List.drop_replicate, List.map_append, List.map_replicate]

set_option maxRecDepth 100000 in
set_option maxHeartbeats 4000000 in
theorem Keyed_any (w : World) (hV : Vars w) (kv v : Value) (ks xs : List Int) (hk : BytesAt w kv ks) (hok : Octs ks) (hnk : ks.length ≤ 140737488355328) (hx : BytesAt w v xs) (ho : Octs xs) (hn : xs.length ≤ 140737488355328) :
    Calls Tryd.prog 11 #[kv, v] w fun e w' => e = .returned (.agg (idC (keyL ks xs))) ∧ Kept [] w w' := by
  have HV : Hid (∀ W, Kept [] w W → Vars W) := fun W hk => hV.kept hk (by simp) (by simp)
  have HX : Hid (∀ W, Kept [] w W → BytesAt W v xs) := fun W hk => hx.kept' hk (by simp)
  have HK : Hid (∀ W, Kept [] w W → BytesAt W kv ks) := fun W h => hk.kept' h (by simp)
  have HO : Hid (Octs xs) := ho
  have hs64 := slice_all64
  have hs32 := slice_all32
  obtain ⟨ic, hic⟩ : ∃ ic, ic = idC (keyL ks xs) := ⟨_, rfl⟩
  have hszi : (Tryd.prog.info? 29).map (·.size) = some ic.size := by rw [hic, idC_size (keyL_len _ _)]; exact Tryd.infoID
  have halli : ic.all (·.oneCell') = true := by rw [hic]; exact all_oneCell_toArray (map_oneCell _)
  have hosi : (idC zid).size = ic.size := by rw [hic, idC_size (keyL_len _ _)]; rfl
  have HI : Hid (ic = idC (keyL ks xs)) := hic
  obtain ⟨jn, hjn⟩ : ∃ jn, jn = digL (maskL (blockL ks) 54 ++ xs) := ⟨_, rfl⟩
  have HJ : Hid (jn = digL (maskL (blockL ks) 54 ++ xs)) := hjn
  have hjl : jn.length = 32 := by rw [hjn]; exact digL_len _
  have hjo : Octs jn := by rw [hjn]; exact digL_octs _
  obtain ⟨jc, hjc⟩ : ∃ jc, jc = idC jn := ⟨_, rfl⟩
  have HJC : Hid (jc = idC jn) := hjc
  have hszj : (Tryd.prog.info? 29).map (·.size) = some jc.size := by rw [hjc, idC_size hjl]; exact Tryd.infoID
  have hallj : jc.all (·.oneCell') = true := by rw [hjc]; exact all_oneCell_toArray (map_oneCell _)
  have hj32 : jc.size = 32 := by rw [hjc, idC_size hjl]
  have HJL : Hid (jn.length = 32) := hjl
  obtain ⟨bc, hbc⟩ : ∃ bc, bc = idC (blockL ks) := ⟨_, rfl⟩
  have HBC : Hid (bc = idC (blockL ks)) := hbc
  have hszb : (Tryd.prog.info? 41).map (·.size) = some bc.size := by rw [hbc, show (idC (blockL ks)).size = 64 by simp [idC, blockL_len]]; exact Tryd.infoB64
  have HB1 : Hid (∀ W, Kept [] w W → Calls Tryd.prog 22 #[.agg bc, .int .u8 54, v] W fun e w' => e = .returned (.agg jc) ∧ Kept [] W w') := by
    rw [hbc, hjc, hjn]
    exact fun W hW => behind_any W (HV.out W hW) (blockL ks) (blockL_len ks) 54 v xs (HX.out W hW) ho hn
  have HB2 : Hid (∀ W u, Kept [] w W → BytesAt W u jn → Calls Tryd.prog 22 #[.agg bc, .int .u8 92, u] W fun e w' => e = .returned (.agg ic) ∧ Kept [] W w') := by
    rw [hbc, hic]
    intro W u hW hu
    have h := behind_any W (HV.out W hW) (blockL ks) (blockL_len ks) 92 u jn hu hjo (by omega)
    rw [hjn] at h
    exact h
  clear hjn hjc hbc hic hV hx ho hjl
  by_cases hlong : 64 < ks.length
  · have HBK : Hid (blockL ks = digL ks ++ List.replicate (64 - (digL ks).length) 0) := by
      show _ = _
      unfold blockL shortK
      rw [if_pos hlong]
    have hdl := digL_len ks
    obtain ⟨dl, hdlx⟩ : ∃ dl, dl = digL ks := ⟨_, rfl⟩
    rw [← hdlx] at HBK hdl
    obtain ⟨cs, hcs⟩ : ∃ cs, cs = dl.map (Value.int .u8) := ⟨_, rfl⟩
    have HCS : Hid (cs = dl.map (Value.int .u8)) := hcs
    have hcl : Hid (cs.length = Nat.min 32 64) := by
      show _ = _
      rw [hcs, List.length_map, hdl]
      exact (Nat.min_eq_left (by omega)).symm
    have hco : ∀ v ∈ cs, v.oneCell' = true := by rw [hcs]; exact map_oneCell _
    have hfit : 0 + cs.length ≤ (zero64.map (Value.int .u8)).length := by rw [hcs, List.length_map, List.length_map, hdl]; simp [zero64]
    have HSP : Hid ((splice (zero64.map (Value.int .u8)) 0 cs).toArray = bc) := by
      show _ = _
      rw [hcs, block_copy, HBC.out, HBK.out]
      rfl
    obtain ⟨dc, hdc⟩ : ∃ dc, dc = idC dl := ⟨_, rfl⟩
    have HDC : Hid (dc = idC dl) := hdc
    have hszd : (Tryd.prog.info? 29).map (·.size) = some dc.size := by rw [hdc, idC_size hdl]; exact Tryd.infoID
    have halld : dc.all (·.oneCell') = true := by rw [hdc]; exact all_oneCell_toArray (map_oneCell _)
    have hd32 : dc.size = 32 := by rw [hdc, idC_size hdl]
    have HS0 := Sum_any ((w.alloc (.cells (idC zid) 29)).alloc (.cells (idC zero64) 41)) kv ks (HV.out _ (((Kept.refl [] w).alloc _).alloc _)) (HK.out _ (((Kept.refl [] w).alloc _).alloc _)) hok hnk
    rw [← hdlx, ← hdc] at HS0
    have HDL : Hid (dl.length = 32) := hdl
    have HSRC : Hid (∀ (W : World) (g : Nat), W.heap[g]? = some (.cells dc 29 (0, 0)) → ∀ j v, cs[j]? = some v → W.cell? ((⟨g, 0, none⟩ : Addr).add j) = some v) := by
      intro W g hW j u hu
      rw [hcs] at hu
      simp only [List.getElem?_map, Option.map_eq_some_iff] at hu
      obtain ⟨z, hz, rfl⟩ := hu
      rw [Addr.add_mid, Nat.zero_add, cell_of_row _ _ _ _ _ _ hW, hdc, idC_get (by rw [hdl]; have := (List.getElem?_eq_some_iff.1 hz).1; omega), hz]
      rfl
    obtain ⟨ao, cap, rfl, hc, hnil, hcell⟩ := hk
    clear hcs hcell hnil hdl hdc hdlx
    go_enter Tryd.func11, Tryd.ntmps11
    go_wp2_with (first
      | (go_at_call 9; refine HS0.mono ?_; rintro e w2 ⟨rfl, hk2⟩
         have HA2 : Hid (w2.heap[w.heap.size]? = some (.cells (idC zid) 29 (0, 0))) := hk2.heap ((Below.heap_alloc _ _ _ (by simp)).trans (heap_alloc_new w _)) (by simp)
         have HZ2 : Hid (w2.heap[w.heap.size + 1]? = some (.cells (zero64.map (Value.int .u8)).toArray 41 (0, 0))) := hk2.heap (heap_alloc2_new w _ _) (by simp)
         have HK2 : Hid (Kept [] w w2) := (((Kept.refl [] w).alloc _).alloc _).then hk2
         clear hk2 HS0)
      | (refine wpList_store_row (by rfl) 29 (.tmp 6) (.tmp 12) (by rfl) w2.heap.size dc (by rfl) (by rfl) 29 _ (heap_alloc_new w2 _) hszd ?hs halld ?_; (case hs => exact hd32.symm); rw [World.setRow_alloc_new]
         have HC3 : Hid ((w2.alloc (.cells dc 29)).heap[w2.heap.size]? = some (.cells dc 29 (0, 0))) := heap_alloc_new w2 _
         have HA3 : Hid ((w2.alloc (.cells dc 29)).heap[w.heap.size]? = some (.cells (idC zid) 29 (0, 0))) := (Below.heap_alloc _ _ _ (lt_of_block HA2.out)).trans HA2.out
         have HZ3 : Hid ((w2.alloc (.cells dc 29)).heap[w.heap.size + 1]? = some (.cells (zero64.map (Value.int .u8)).toArray 41 (0, 0))) := (Below.heap_alloc _ _ _ (lt_of_block HZ2.out)).trans HZ2.out
         have HK3 : Hid (Kept [] w (w2.alloc (.cells dc 29))) := HK2.out.alloc _
         generalize w2.alloc (.cells dc 29) = w3 at *)
      | (refine wpList_copy_kept rfl (.tmp 14) (.tmp 15) 24 24 rfl 5 Tryd.underlying24 Tryd.size_u8 _ _ _ _ _ _ rfl rfl (w.heap.size + 1) 0 (zero64.map (Value.int .u8)) 41 HZ3.out cs hcl.out ?cp hfit hco ?_
         (case cp => exact fun _ => ⟨rfl, _, rfl, HSRC.out _ _ HC3.out⟩)
         intro w4 hB4 hk4
         have HB4 : Hid (w4.heap[w.heap.size + 1]? = some (.cells bc 41 (0, 0))) := by
           have h := hB4.out
           rw [HSP.out] at h
           exact h
         have HA4 : Hid (w4.heap[w.heap.size]? = some (.cells (idC zid) 29 (0, 0))) := hk4.heap HA3.out (by simp)
         have HK4 : Hid (Kept [] w w4) := HK3.out.trans hk4 (fun x hx => Or.inr (by simp at hx; omega))
         clear hB4 hk4)
      | (refine wpList_load_row rfl 41 (.tmp 5) rfl (w.heap.size + 1) rfl 41 bc (0, 0) _ HB4.out Tryd.underlying41 rfl hszb ?_)
      | (go_at_call 22; refine (HB1.out w4 HK4.out).mono ?_; rintro e w5 ⟨rfl, hk5⟩
         have HA5 : Hid (w5.heap[w.heap.size]? = some (.cells (idC zid) 29 (0, 0))) := hk5.heap HA4.out (by simp)
         have HB5 : Hid (w5.heap[w.heap.size + 1]? = some (.cells bc 41 (0, 0))) := hk5.heap HB4.out (by simp)
         have HK5 : Hid (Kept [] w w5) := HK4.out.then hk5
         clear hk5)
      | (refine wpList_store_row (by rfl) 29 (.tmp 7) (.tmp 19) (by rfl) w5.heap.size jc (by rfl) (by rfl) 29 _ (heap_alloc_new w5 _) hszj ?hs hallj ?_; (case hs => exact hj32.symm); rw [World.setRow_alloc_new]
         have HD6 : Hid ((w5.alloc (.cells jc 29)).heap[w5.heap.size]? = some (.cells jc 29 (0, 0))) := heap_alloc_new w5 _
         have HA6 : Hid ((w5.alloc (.cells jc 29)).heap[w.heap.size]? = some (.cells (idC zid) 29 (0, 0))) := (Below.heap_alloc _ _ _ (lt_of_block HA5.out)).trans HA5.out
         have HB6 : Hid ((w5.alloc (.cells jc 29)).heap[w.heap.size + 1]? = some (.cells bc 41 (0, 0))) := (Below.heap_alloc _ _ _ (lt_of_block HB5.out)).trans HB5.out
         have HK6 : Hid (Kept [] w (w5.alloc (.cells jc 29))) := HK5.out.alloc _
         generalize w5.alloc (.cells jc 29) = w6 at *))
    have hu6 : BytesAt w6.drew (.slice (some ⟨w5.heap.size, 0, none⟩) 32 32) jn := by
      have h := HD6.out
      rw [HJC.out] at h
      have := row_bytes_tag (w := w6.drew) h
      rwa [HJL.out] at this
    have HC7 := HB2.out w6.drew _ HK6.out.drew hu6
    clear hu6
    simp only [Act.put]
    refine wp_region_any (by kernel_rfl) ?_
    change wpAny _ _ _ _ 4 #[false, false, false, false] _ (World.drew _)
    refine wpAny_take (i := 1) (v := .slice (some ⟨w5.heap.size, 0, none⟩) 32 32) rfl (by kernel_rfl) (by kernel_rfl) (by kernel_rfl) (fun _ _ _ h => h) (Or.inl ⟨by rfl, fun W => by go_simp⟩) ?_
    change wpAny _ _ _ _ 3 #[false, true, false, false] _ (World.drew _)
    simp only [Act.put, List.setIfInBounds_toArray]
    refine wpAny_ready (rs := [0]) (by kernel_rfl) (by simp) (AllReady.cons rfl (fun K hK => ?_) AllReady.nil)
    rw [if_pos (by rfl)]
    refine wp_load_row 41 (.tmp 5) rfl (w.heap.size + 1) rfl 41 bc (0, 0) _ HB6.out Tryd.underlying41 rfl hszb (hK _ _ ?_)
    clear hK K
    change wpAny _ _ _ _ 2 #[true, true, false, false] _ (World.drew _)
    simp only [Act.put]
    refine wpAny_ready (rs := [2]) (by kernel_rfl) (by simp) (AllReady.cons rfl (fun K hK => ?_) AllReady.nil)
    rw [if_pos (by rfl)]
    go_simp
    refine HC7.mono ?_
    rintro e w7 ⟨rfl, hk7⟩
    have HA7 : Hid (w7.heap[w.heap.size]? = some (.cells (idC zid) 29 (0, 0))) := hk7.heap HA6.out (by simp)
    have HK7 : Hid (Kept [] w w7) := HK6.out.drew.then hk7
    refine hK _ _ ?_
    clear hK K hk7 HC7
    change wpAny _ _ _ _ 1 #[true, true, true, false] _ _
    refine wpAny_ready (rs := [3]) (by kernel_rfl) (by simp) (AllReady.cons rfl (fun K hK => ?_) AllReady.nil)
    rw [if_pos (by rfl)]
    refine wp_store_row 29 (.tmp 4) (.tmp 22) rfl w.heap.size ic rfl rfl 29 _ HA7.out hszi hosi halli (hK _ _ ?_)
    clear hK K
    change wpAny _ _ _ _ 0 #[true, true, true, true] _ _
    refine wpAny_done (by kernel_rfl) ?_ _
    simp only [Act.put, List.setIfInBounds_toArray]
    go_wp2
    refine bodyPost_ret (v := .agg ic) ?_ rfl ⟨by rw [HI.out], kept_setRow HK7.out (Nat.le_refl _) _⟩
    rw [results_cell rfl]
    have hld := run_loadVar_row (P := Tryd.prog) (w7.setRow w.heap.size ic) w.heap.size 29 29 ic (0, 0) _ (setRow_heap _ _ _ _ _ _ HA7.out) Tryd.underlying29 rfl hszi
    exact hld
  · obtain ⟨ao, cap, rfl, hc, hnil, hcell⟩ := hk
    have HBK : Hid (blockL ks = ks ++ List.replicate (64 - ks.length) 0) := by
      show _ = _
      unfold blockL shortK
      rw [if_neg hlong]
    have hkl : ks.length ≤ 64 := by omega
    obtain ⟨cs, hcs⟩ : ∃ cs, cs = ks.map (Value.int .u8) := ⟨_, rfl⟩
    have HCS : Hid (cs = ks.map (Value.int .u8)) := hcs
    have hcl : Hid (cs.length = Nat.min ks.length 64) := by
      show _ = _
      rw [hcs, List.length_map]
      exact (Nat.min_eq_left (by omega)).symm
    have hco : ∀ v ∈ cs, v.oneCell' = true := by rw [hcs]; exact map_oneCell _
    have hfit : 0 + cs.length ≤ (zero64.map (Value.int .u8)).length := by rw [hcs, List.length_map, List.length_map]; simp [zero64]; omega
    have HSP : Hid ((splice (zero64.map (Value.int .u8)) 0 cs).toArray = bc) := by
      show _ = _
      rw [hcs, block_copy, HBC.out, HBK.out]
      rfl
    have HSRC : Hid (0 < cs.length → ∃ ad, ao = some ad ∧ ∀ W, Kept [] w W → ∀ j v, cs[j]? = some v → W.cell? (ad.add j) = some v) := by
      intro h0
      have hne : ks ≠ [] := by rintro rfl; rw [hcs] at h0; simp at h0
      obtain ⟨b, off, rfl, hh⟩ := hcell hne
      refine ⟨_, rfl, fun W hW j u hu => ?_⟩
      rw [hcs] at hu
      simp only [List.getElem?_map, Option.map_eq_some_iff] at hu
      obtain ⟨z, hz, rfl⟩ := hu
      rw [Addr.add_mid]
      exact hW.cell (hh j z hz) (by simp)
    clear hcs hcell hnil
    go_enter Tryd.func11, Tryd.ntmps11
    go_wp2_with (first
      | (refine wpList_copy_kept rfl (.tmp 14) (.tmp 15) 24 24 rfl 5 Tryd.underlying24 Tryd.size_u8 _ _ _ _ _ _ rfl rfl (w.heap.size + 1) 0 (zero64.map (Value.int .u8)) 41 (heap_alloc2_new w _ _) cs hcl.out ?cp hfit hco ?_
         (case cp =>
            intro h0
            obtain ⟨ad, had, hh⟩ := HSRC.out h0
            exact ⟨rfl, ad, had, hh _ (((Kept.refl [] w).alloc _).alloc _)⟩)
         intro w4 hB4 hk4
         have HB4 : Hid (w4.heap[w.heap.size + 1]? = some (.cells bc 41 (0, 0))) := by
           have h := hB4.out
           rw [HSP.out] at h
           exact h
         have HA4 : Hid (w4.heap[w.heap.size]? = some (.cells (idC zid) 29 (0, 0))) := hk4.heap ((Below.heap_alloc _ _ _ (by simp)).trans (heap_alloc_new w _)) (by simp)
         have HK4 : Hid (Kept [] w w4) := (((Kept.refl [] w).alloc _).alloc _).trans hk4 (fun x hx => Or.inr (by simp at hx; omega))
         clear hB4 hk4)
      | (refine wpList_load_row rfl 41 (.tmp 5) rfl (w.heap.size + 1) rfl 41 bc (0, 0) _ HB4.out Tryd.underlying41 rfl hszb ?_)
      | (go_at_call 22; refine (HB1.out w4 HK4.out).mono ?_; rintro e w5 ⟨rfl, hk5⟩
         have HA5 : Hid (w5.heap[w.heap.size]? = some (.cells (idC zid) 29 (0, 0))) := hk5.heap HA4.out (by simp)
         have HB5 : Hid (w5.heap[w.heap.size + 1]? = some (.cells bc 41 (0, 0))) := hk5.heap HB4.out (by simp)
         have HK5 : Hid (Kept [] w w5) := HK4.out.then hk5
         clear hk5)
      | (refine wpList_store_row (by rfl) 29 (.tmp 7) (.tmp 19) (by rfl) w5.heap.size jc (by rfl) (by rfl) 29 _ (heap_alloc_new w5 _) hszj ?hs hallj ?_; (case hs => exact hj32.symm); rw [World.setRow_alloc_new]
         have HD6 : Hid ((w5.alloc (.cells jc 29)).heap[w5.heap.size]? = some (.cells jc 29 (0, 0))) := heap_alloc_new w5 _
         have HA6 : Hid ((w5.alloc (.cells jc 29)).heap[w.heap.size]? = some (.cells (idC zid) 29 (0, 0))) := (Below.heap_alloc _ _ _ (lt_of_block HA5.out)).trans HA5.out
         have HB6 : Hid ((w5.alloc (.cells jc 29)).heap[w.heap.size + 1]? = some (.cells bc 41 (0, 0))) := (Below.heap_alloc _ _ _ (lt_of_block HB5.out)).trans HB5.out
         have HK6 : Hid (Kept [] w (w5.alloc (.cells jc 29))) := HK5.out.alloc _
         generalize w5.alloc (.cells jc 29) = w6 at *))
    have hu6 : BytesAt w6.drew (.slice (some ⟨w5.heap.size, 0, none⟩) 32 32) jn := by
      have h := HD6.out
      rw [HJC.out] at h
      have := row_bytes_tag (w := w6.drew) h
      rwa [HJL.out] at this
    have HC7 := HB2.out w6.drew _ HK6.out.drew hu6
    clear hu6
    simp only [Act.put]
    refine wp_region_any (by kernel_rfl) ?_
    change wpAny _ _ _ _ 4 #[false, false, false, false] _ (World.drew _)
    refine wpAny_take (i := 1) (v := .slice (some ⟨w5.heap.size, 0, none⟩) 32 32) rfl (by kernel_rfl) (by kernel_rfl) (by kernel_rfl) (fun _ _ _ h => h) (Or.inl ⟨by rfl, fun W => by go_simp⟩) ?_
    change wpAny _ _ _ _ 3 #[false, true, false, false] _ (World.drew _)
    simp only [Act.put, List.setIfInBounds_toArray]
    refine wpAny_ready (rs := [0]) (by kernel_rfl) (by simp) (AllReady.cons rfl (fun K hK => ?_) AllReady.nil)
    rw [if_pos (by rfl)]
    refine wp_load_row 41 (.tmp 5) rfl (w.heap.size + 1) rfl 41 bc (0, 0) _ HB6.out Tryd.underlying41 rfl hszb (hK _ _ ?_)
    clear hK K
    change wpAny _ _ _ _ 2 #[true, true, false, false] _ (World.drew _)
    simp only [Act.put]
    refine wpAny_ready (rs := [2]) (by kernel_rfl) (by simp) (AllReady.cons rfl (fun K hK => ?_) AllReady.nil)
    rw [if_pos (by rfl)]
    go_simp
    refine HC7.mono ?_
    rintro e w7 ⟨rfl, hk7⟩
    have HA7 : Hid (w7.heap[w.heap.size]? = some (.cells (idC zid) 29 (0, 0))) := hk7.heap HA6.out (by simp)
    have HK7 : Hid (Kept [] w w7) := HK6.out.drew.then hk7
    refine hK _ _ ?_
    clear hK K hk7 HC7
    change wpAny _ _ _ _ 1 #[true, true, true, false] _ _
    refine wpAny_ready (rs := [3]) (by kernel_rfl) (by simp) (AllReady.cons rfl (fun K hK => ?_) AllReady.nil)
    rw [if_pos (by rfl)]
    refine wp_store_row 29 (.tmp 4) (.tmp 22) rfl w.heap.size ic rfl rfl 29 _ HA7.out hszi hosi halli (hK _ _ ?_)
    clear hK K
    change wpAny _ _ _ _ 0 #[true, true, true, true] _ _
    refine wpAny_done (by kernel_rfl) ?_ _
    simp only [Act.put, List.setIfInBounds_toArray]
    go_wp2
    refine bodyPost_ret (v := .agg ic) ?_ rfl ⟨by rw [HI.out], kept_setRow HK7.out (Nat.le_refl _) _⟩
    rw [results_cell rfl]
    have hld := run_loadVar_row (P := Tryd.prog) (w7.setRow w.heap.size ic) w.heap.size 29 29 ic (0, 0) _ (setRow_heap _ _ _ _ _ _ HA7.out) Tryd.underlying29 rfl hszi
    exact hld
end Go.Proofs.YtdjfcackiclepaaDoor
