/-
  WALKS: (*store.Store).Get, Remove; satchellaw4.lives.
  WALK: satchellaw4.lives.
-/
import Derived.Test.YtddhhjgegkkjbaaGreatDoorSk4
import Derived.Test.YtddhhjgegkkjbaaGreatDoorHdS
namespace Go.Proofs.YtddhhjgegkkjbaaGreatDoor
open Go.RowKit Go.WideMaps

section
variable {w : World} {s b n : Nat} {D : DataW Unit}
set_option maxRecDepth 100000 in
set_option maxHeartbeats 4000000 in
theorem Get_st (h : St w s b n D) {id : List Int} (hid : GoodID id) (hy : Maps.has D (idKey id) = true) {g c : Nat} {xs : List Int} (he : D.atKey (idKey id) .nil = slD g xs.length c) (hb : BytesAt w (.slice (some ⟨g, 0, none⟩) xs.length c) xs) (hne : xs ≠ []) (hl : xs.length ≤ 1000000) :
    Calls Tryz.prog 32 #[.pointer (some ⟨s, 0, none⟩), .agg (idC id)] w fun e w' => ∃ g' c', e = .returned (.tuple #[.slice (some ⟨g', 0, none⟩) xs.length c', .int .i64 0]) ∧ BytesAt w' (.slice (some ⟨g', 0, none⟩) xs.length c') xs ∧ Kept [] w w' := by
  obtain ⟨v, hlk, hv⟩ := h.lookAll hid
  rw [he] at hv
  obtain rfl := slR_inv hv
  rw [hy] at hlk
  obtain ⟨W0, hW0⟩ : ∃ W0, W0 = w.alloc (.cells (idC id) 36) := ⟨_, rfl⟩
  have HW0 : Hid (W0 = w.alloc (.cells (idC id) 36)) := hW0
  have k0 : Kept [] w W0 := by rw [hW0]; exact (Kept.refl _ _).alloc _
  have HK0 : Hid (Kept [] w W0) := k0
  have hbl := h.lt.2
  have HL : Hid (∀ W, Kept [] W0 W → (Instr.lookup 69 (.map (some b)) (.agg (idC id)) true).run Tryz.prog W = .ok (.tuple #[.slice (some ⟨g, 0, none⟩) xs.length c, .bool true]) W) := fun W k => hlk W (k0.then k)
  have HB : Hid (∀ W, Kept [] W0 W → W.cell? ⟨s, 0, none⟩ = some (.map (some b))) := fun W k => by rw [cell_of_row _ _ _ _ _ _ ((k0.then k).heap h.blk (by simp))]; rfl
  have HR : Hid (∀ W, Kept [] W0 W → W.rangeAt w.heap.size 0 (id.map (Value.int .u8))) := fun W k => by
    have h1 : W.heap[w.heap.size]? = some (.cells (id.map (Value.int .u8)).toArray 36 (0, 0)) := k.heap (show W0.heap[w.heap.size]? = _ by rw [hW0]; exact heap_alloc_new w _) (by simp)
    exact row_rangeS h1
  have HC : Hid (∀ W, Kept [] W0 W → Calls Tryz.prog 26 #[.slice (some ⟨g, 0, none⟩) xs.length c] W fun e w' => ∃ g' c', e = .returned (.slice (some ⟨g', 0, none⟩) xs.length c') ∧ BytesAt w' (.slice (some ⟨g', 0, none⟩) xs.length c') xs ∧ W.heap.size ≤ g' ∧ Kept [] W w') := fun W k => Clone_any ⟨g, 0, none⟩ c xs W (hb.kept' (k0.then k) (fun _ _ _ => by simp)) hne hl
  have hui := Tryz.underlying36
  have hso : (Tryz.prog.info? 36).map (·.size) = some (id.map (Value.int .u8)).length := by rw [List.length_map, hid.1]; exact Tryz.infoID
  have hidc : idC id = (id.map (Value.int .u8)).toArray := rfl
  have hsz32 : (idC id).size = 32 := idC_size hid.1
  rw [hidc] at HL HW0 hsz32 ⊢
  clear h hlk hv hid k0 hW0 hidc hy he hb hne hl
  generalize id.map (Value.int .u8) = R at *
  go_enter Tryz.func32, Tryz.ntmps32
  go_wp2_with fail
  rw [← HW0.out]
  refine region_quiet (Kept [] W0) (by kernel_rfl) (by kernel_rfl) (Kept.refl [] W0).drew ?_
  refine quiet_move (by rfl) (.tmp 0) rfl (.pointer (some ⟨s, 0, none⟩)) rfl ?_
  simp only [Act.put, List.setIfInBounds_toArray, List.set_cons_zero, List.set_cons_succ]
  refine quiet_val (by rfl) (.pointer (some ⟨s, 0, none⟩)) (fun W => by go_simp) ?_
  simp only [Act.put, List.setIfInBounds_toArray, List.set_cons_zero, List.set_cons_succ]
  refine quiet_val (by rfl) (.pointer (some ⟨s, 0, none⟩)) (fun W => by go_simp) ?_
  simp only [Act.put, List.setIfInBounds_toArray, List.set_cons_zero, List.set_cons_succ]
  refine valC (by rfl) (.map (some b)) (fun W hW => by have hcc := HB.out W hW; go_simp) ?_
  simp only [Act.put, List.setIfInBounds_toArray, List.set_cons_zero, List.set_cons_succ]
  refine quiet_row (by rfl) _ _ rfl w.heap.size 0 rfl R _ HR.out hui rfl hso ?_
  simp only [Act.put, List.setIfInBounds_toArray, List.set_cons_zero, List.set_cons_succ]
  refine valC (by rfl) (.tuple #[.slice (some ⟨g, 0, none⟩) xs.length c, .bool true]) (fun W hW => by have hcc := HL.out W hW; go_simp) ?_
  simp only [Act.put, List.setIfInBounds_toArray, List.set_cons_zero, List.set_cons_succ]
  refine quiet_move (by rfl) (.tmp 14) rfl (.tuple #[.slice (some ⟨g, 0, none⟩) xs.length c, .bool true]) rfl ?_
  simp only [Act.put, List.setIfInBounds_toArray, List.set_cons_zero, List.set_cons_succ]
  refine quiet_val (by rfl) (.slice (some ⟨g, 0, none⟩) xs.length c) (fun W => by go_simp) ?_
  simp only [Act.put, List.setIfInBounds_toArray, List.set_cons_zero, List.set_cons_succ]
  refine quiet_val (by rfl) (.bool true) (fun W => by go_simp) ?_
  simp only [Act.put, List.setIfInBounds_toArray, List.set_cons_zero, List.set_cons_succ]
  refine quiet_assign (by rfl) (.tmp 15) rfl (.slice (some ⟨g, 0, none⟩) xs.length c) rfl ?_
  simp only [Act.put, List.setIfInBounds_toArray, List.set_cons_zero, List.set_cons_succ]
  refine quiet_assign (by rfl) (.tmp 16) rfl (.bool true) rfl ?_
  simp only [Act.put, List.setIfInBounds_toArray, List.set_cons_zero, List.set_cons_succ]
  refine wpQuiet_nil fun w3 hk3 => ?_
  have HK3 : Hid (Kept [] w w3) := HK0.out.then hk3
  have hcl := HC.out w3 hk3
  clear hk3
  go_wp2_with fail
  go_at_call 26
  refine hcl.mono ?_
  rintro e w4 ⟨g', c', rfl, b4, _, k4⟩
  have HK4 : Hid (Kept [] w w4) := HK3.out.then k4
  have HB4 : Hid (BytesAt w4 (.slice (some ⟨g', 0, none⟩) xs.length c') xs) := b4
  clear hcl b4 k4
  go_wp2
  refine bodyPost_ret (v := .tuple #[.slice (some ⟨g', 0, none⟩) xs.length c', .int .i64 0]) (by simp [results, Tryz.results32, go_sem]) rfl ⟨g', c', rfl, HB4.out, HK4.out⟩
set_option maxRecDepth 100000 in
set_option maxHeartbeats 4000000 in
theorem Remove_st (h : St w s b n D) {id : List Int} (hid : GoodID id) :
    Calls Tryz.prog 10 #[.pointer (some ⟨s, 0, none⟩), .agg (idC id)] w fun e w' => e = .returned (.bool (Maps.has D (idKey id))) ∧ St w' s b n (D.del (idKey id)) ∧ Kept [b] w w' := by
  obtain ⟨W0, hW0⟩ : ∃ W0, W0 = w.alloc (.cells (idC id) 36) := ⟨_, rfl⟩
  have HW0 : Hid (W0 = w.alloc (.cells (idC id) 36)) := hW0
  have k0 : Kept [] w W0 := by rw [hW0]; exact (Kept.refl _ _).alloc _
  have HK0 : Hid (Kept [] w W0) := k0
  have hbl := h.lt.2
  have hhas := Has_st (h.on k0) hid
  have hun := Tryz.underlying36
  have HI0 : Hid (∀ W, Kept [b] W0 W → W.heap[w.heap.size]? = some (.cells (id.map (Value.int .u8)).toArray 36 (0, 0))) := fun W k => k.heap (show W0.heap[w.heap.size]? = _ by rw [hW0]; exact heap_alloc_new w _) (by simp; omega)
  have HB0 : Hid (∀ W, Kept [b] W0 W → W.cell? ⟨s, 0, none⟩ = some (.map (some b))) := fun W k => by rw [cell_of_row _ _ _ _ _ _ (((k0.more (by simp)).then'' k).heap h.blk (by simp; exact h.ne))]; rfl
  have HD : Hid (∀ W ty, Kept [] w W → ∃ W', (Builtin.delete_ #[69, 36] ty #[.map (some b), .agg (idC id)]).run Tryz.prog W = .ok (.tuple #[]) W' ∧ St W' s b n (D.del (idKey id)) ∧ Kept [b] W W') := fun W ty k => (h.on k).del hid ty
  have hui := Tryz.underlying36
  have hso : (Tryz.prog.info? 36).map (·.size) = some (id.map (Value.int .u8)).length := by rw [List.length_map, hid.1]; exact Tryz.infoID
  have hidc : idC id = (id.map (Value.int .u8)).toArray := rfl
  have hsz32 : (idC id).size = 32 := idC_size hid.1
  have hsz : (Tryz.prog.info? 36).map (·.size) = some (id.map (Value.int .u8)).toArray.size := by rw [List.size_toArray]; exact hso
  rw [hidc] at HW0 hsz32 hhas HD ⊢
  clear h hid k0 hW0 hidc
  generalize Maps.has D (idKey id) = hs at *
  generalize id.map (Value.int .u8) = R at *
  have g0 := HI0.out W0 (Kept.refl _ _)
  go_enter Tryz.func10, Tryz.ntmps10
  go_wp2_with (first
    | (refine wpList_load_row (by rfl) 36 (.tmp 3) (by rfl) w.heap.size (by rfl) 36 R.toArray (0, 0) _ (HW0.out ▸ g0) hui rfl hsz ?_))
  rw [← HW0.out]
  go_at_call 21
  refine hhas.mono ?_
  rintro e w1 ⟨rfl, k1⟩
  have HK1 : Hid (Kept [] w w1) := HK0.out.then k1
  have HB : Hid (∀ W, Kept [b] w1 W → W.cell? ⟨s, 0, none⟩ = some (.map (some b))) := fun W k => HB0.out W ((k1.more (by simp)).then'' k)
  have HR : Hid (∀ W, Kept [b] w1 W → W.rangeAt w.heap.size 0 R) := fun W k => row_rangeS (HI0.out W ((k1.more (by simp)).then'' k))
  obtain ⟨ty, hty⟩ : ∃ ty : TypeId, ty = 0 := ⟨_, rfl⟩
  have HDEL : Hid (∃ W', (∀ ty, (Builtin.delete_ #[69, 36] ty #[.map (some b), .agg R.toArray]).run Tryz.prog w1.drew = .ok (.tuple #[]) W') ∧ St W' s b n (D.del (idKey id)) ∧ Kept [b] w1.drew W') := by
    obtain ⟨W', h1, h2, h3⟩ := HD.out w1.drew 0 (HK1.out.drew)
    exact ⟨W', fun ty => h1, h2, h3⟩
  clear hhas k1 g0 hty
  go_wp2_with fail
  refine wp_region_held_drew (S := Kept [b] w1) (by kernel_rfl) (Kept.refl [b] w1).drew (fun hHeld => ?_)
  refine takeP 0 (v := .pointer (some ⟨s, 0, none⟩)) (some 9) #[true, false, false, false, false, false] rfl rfl rfl (by kernel_rfl) (by kernel_rfl) (by kernel_rfl) (fun _ _ _ h => h) (Or.inl ⟨by rfl, fun W hSW => by go_simp⟩) hHeld ?_
  simp only [Act.put, List.setIfInBounds_toArray, List.set_cons_zero, List.set_cons_succ]
  refine takeP 1 (v := .pointer (some ⟨s, 0, none⟩)) (some 10) #[true, true, false, false, false, false] rfl rfl rfl (by kernel_rfl) (by kernel_rfl) (by kernel_rfl) (fun _ _ _ h => h) (Or.inl ⟨by rfl, fun W hSW => by go_simp⟩) hHeld ?_
  simp only [Act.put, List.setIfInBounds_toArray, List.set_cons_zero, List.set_cons_succ]
  refine takeP 2 (v := .pointer (some ⟨s, 0, none⟩)) (some 11) #[true, true, true, false, false, false] rfl rfl rfl (by kernel_rfl) (by kernel_rfl) (by kernel_rfl) (fun _ _ _ h => h) (Or.inl ⟨by rfl, fun W hSW => by go_simp⟩) hHeld ?_
  simp only [Act.put, List.setIfInBounds_toArray, List.set_cons_zero, List.set_cons_succ]
  refine takeP 3 (v := .map (some b)) (some 12) #[true, true, true, true, false, false] rfl rfl rfl (by kernel_rfl) (by kernel_rfl) (by kernel_rfl) (fun _ _ _ h => h) (Or.inl ⟨by rfl, fun W hSW => by have hcc := HB.out W hSW; go_simp⟩) hHeld ?_
  simp only [Act.put, List.setIfInBounds_toArray, List.set_cons_zero, List.set_cons_succ]
  refine takeP 4 (v := .agg R.toArray) (some 13) #[true, true, true, true, true, false] rfl rfl rfl (by kernel_rfl) (by kernel_rfl) (by kernel_rfl) (fun _ _ _ h => h) (yieldsIf_load_mid (by rfl) 36 (.tmp 3) rfl w.heap.size 0 rfl R _ HR.out hui rfl hso) hHeld ?_
  simp only [Act.put, List.setIfInBounds_toArray, List.set_cons_zero, List.set_cons_succ]
  obtain ⟨w2, hrun2, hst2, k2⟩ := HDEL.out
  refine wpAnyH_ready (rs := [5]) (by kernel_rfl) (by simp) (AllReadyH.cons rfl (fun K hK => ?_) AllReadyH.nil)
  rw [if_pos (by rfl)]
  go_simp
  refine hK.out _ _ (hHeld.then'' k2) (fun hHeld => ?_)
  clear hK K
  simp only [List.setIfInBounds_toArray, List.set_cons_zero, List.set_cons_succ]
  refine wpAnyH_done (by kernel_rfl) ?_ _
  have HF : Hid (St w2 s b n (D.del (idKey id)) ∧ Kept [b] w w2) := ⟨hst2, (HK1.out.more (by simp)).then'' hHeld⟩
  clear hHeld hst2 k2 hrun2
  go_wp2
  go_ret
  exact ⟨rfl, HF.out.1, HF.out.2⟩
end
end Go.Proofs.YtddhhjgegkkjbaaGreatDoor

namespace Go.Proofs.YtddhhjgegkkjbaaGreatDoor
open Go.RowKit Go.WideMaps

set_option maxRecDepth 100000 in
set_option maxHeartbeats 4000000 in
theorem lives4_any (w : World) (hV : Vars w) : Calls Tryz.prog 19 #[] w fun e w' => e = .returned (.bool true) ∧ Kept [] w w' := by
  have hnew := New_st w
  have HV : Hid (∀ W, Kept [] w W → Vars W) := fun W k => hV.kept k (by simp) (by simp)
  have hgd : GoodID (digL [1, 120]) := ⟨digL_len _, digL_octs _⟩
  have HGD : Hid (GoodID (digL [1, 120])) := hgd
  have hsz : (Tryz.prog.info? 36).map (·.size) = some (idC (digL [1, 120])).size := by rw [idC_size (digL_len _)]; exact Tryz.infoID
  have hzz : (idC zid).size = (idC (digL [1, 120])).size := by rw [idC_size (digL_len _)]; rfl
  have hone : (idC (digL [1, 120])).all (·.oneCell') = true := all_oneCell_toArray (map_oneCell _)
  have hui := Tryz.underlying36
  clear hV hgd
  go_enter Tryz.func19, Tryz.ntmps19
  go_wp2_with fail
  go_at_call 18
  refine hnew.mono ?_
  rintro e w1 ⟨s, b, rfl, hst, hs, hb, k1⟩
  obtain ⟨w2, hw2⟩ : ∃ w2, w2 = w1.alloc (.cells #[.int .u8 1, .int .u8 120] 5) := ⟨_, rfl⟩
  have HW2 : Hid (w2 = w1.alloc (.cells #[.int .u8 1, .int .u8 120] 5)) := hw2
  have k12 : Kept [] w1 w2 := by rw [hw2]; exact (Kept.refl _ _).alloc _
  have hbl := hst.lt.2
  have hb2 : BytesAt w2 (.slice (some ⟨w1.heap.size, 0, none⟩) ([1, 120] : List Int).length 2) [1, 120] := row_bytes' (ys := [1, 120]) (by rw [hw2]; exact heap_alloc_new w1 _)
  have hput := Put_st (hst.on k12) (by omega) w1.heap.size 0 2 [1, 120] [120] rfl hb2 (by omega) (by intro u hu; simp at hu; omega) (by decide) (HV.out w2 (k1.then k12))
  have HK2 : Hid (Kept [] w w2) := k1.then k12
  have HST : Hid (St w1 s b 0 (.map [])) := hst
  have HBW : Hid (w.heap.size ≤ b) := hb
  clear hnew hst k1 k12 hb2 hw2
  go_wp2_with fail
  rw [← HW2.out]
  go_at_call 11
  refine hput.mono ?_
  rintro e w3 hpa
  obtain ⟨g, c, rfl, hst3, hb3, k3⟩ := hpa.new rfl (by decide)
  obtain ⟨w4, hw4⟩ : ∃ w4, w4 = w3.alloc (.cells (idC (digL [1, 120])) 36) := ⟨_, rfl⟩
  have HW4 : Hid (w4 = w3.alloc (.cells (idC (digL [1, 120])) 36)) := hw4
  have k34 : Kept [] w3 w4 := by rw [hw4]; exact (Kept.refl _ _).alloc _
  have HK4 : Hid (Kept [] w w4) := (kept_newP HK2.out k3 HBW.out).then k34
  have HI4 : Hid (w4.heap[w3.heap.size]? = some (.cells (idC (digL [1, 120])) 36 (0, 0))) := by rw [hw4]; exact heap_alloc_new w3 _
  have hat := Maps.atKey_put_same HST.out.own.isMap (idKey_lit (digL [1, 120])) (slD g ([1, 120] : List Int).length c) .nil
  have hhs := Maps.has_put_same HST.out.own.isMap (idKey_lit (digL [1, 120])) (slD g ([1, 120] : List Int).length c)
  have hsize : Maps.size ((DataW.map []).put (idKey (digL [1, 120])) (slD g ([1, 120] : List Int).length c)) = 1 := by
    rw [Maps.size_put (HST.out.own.tidy Tryz.keyId)]
    rfl
  have hget := Get_st (hst3.on k34) HGD.out hhs hat (hb3.kept' k34 (fun _ _ _ => by simp)) (by simp) (by decide)
  have HS4 : Hid (∀ W, Kept [] w4 W → Calls Tryz.prog 22 #[.pointer (some ⟨s, 0, none⟩)] W fun e w' => e = .returned (.int .i64 1) ∧ w' = W) := fun W k => by
    have h := Len_st ((hst3.on k34).on k)
    rw [hsize] at h
    exact h
  clear hput hpa hst3 hb3 k3 k34 hw4 hat hhs hsize
  generalize idC (digL [1, 120]) = ic at *
  go_wp2_with (first
    | (refine wpList_store_newS (by rfl) 36 (.tmp 2) (.tmp 14) (by rfl) w3 _ ic (by rfl) (by rfl) hsz hzz hone ?_; rw [← HW4.out])
    | (refine wpList_load_row (by rfl) 36 (.tmp 2) (by rfl) w3.heap.size (by rfl) 36 ic (0, 0) _ HI4.out hui rfl hsz ?_))
  go_at_call 32
  refine hget.mono ?_
  rintro e w5 ⟨g5, c5, rfl, b5, k5⟩
  have hlb : ([1, 120] : List Int).length = 2 := rfl
  rw [hlb] at b5
  obtain ⟨w6, hw6⟩ : ∃ w6, w6 = w5.alloc (.cells #[.int .u8 1, .int .u8 120] 5) := ⟨_, rfl⟩
  have HW6 : Hid (w6 = w5.alloc (.cells #[.int .u8 1, .int .u8 120] 5)) := hw6
  have k56 : Kept [] w5 w6 := by rw [hw6]; exact (Kept.refl _ _).alloc _
  have hb6 : BytesAt w6 (.slice (some ⟨w5.heap.size, 0, none⟩) 2 2) [1, 120] := row_bytes' (ys := [1, 120]) (by rw [hw6]; exact heap_alloc_new w5 _)
  have heq := Eq_same (b5.kept' k56 (fun _ _ _ => by simp)) hb6 (by decide)
  have HK46 : Hid (Kept [] w4 w6) := k5.then k56
  have hnum := num4_any 0
  clear hget b5 k5 hb6 k56 hw6 hlb
  go_wp2_with (first
    | (go_at_call 17; refine (hnum _).mono ?_; rintro e wn ⟨rfl, hwn⟩; subst wn)
    | (go_at_call 33; rw [← HW6.out]; refine heq.mono ?_; rintro e w7 ⟨rfl, n7, hw7⟩
       have HK7 : Hid (Kept [] w4 w7) := by rw [hw7]; exact HK46.out.drewN n7
       have hln := HS4.out w7 HK7.out
       clear hw7)
    | (go_at_call 22; refine hln.mono ?_; rintro e w8 ⟨rfl, hw8⟩; subst w8))
  go_ret
  exact ⟨rfl, HK4.out.then HK7.out⟩
end Go.Proofs.YtddhhjgegkkjbaaGreatDoor
