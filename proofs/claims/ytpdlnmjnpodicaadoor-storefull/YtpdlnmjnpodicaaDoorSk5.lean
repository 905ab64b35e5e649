/-
  WALKS: (*store.Store).Get, Remove; satchellaw4.lives.
-/
import Derived.Test.YtpdlnmjnpodicaaDoorSk4
import Derived.Test.YtpdlnmjnpodicaaDoorEqA
namespace Go.Proofs.YtpdlnmjnpodicaaDoor
open Go.RowKit Go.WideMaps

section
variable {w : World} {s b n : Nat} {D : DataW Unit}
set_option maxRecDepth 100000 in
set_option maxHeartbeats 4000000 in
theorem Get_st (h : St w s b n D) {id : List Int} (hid : GoodID id) (hy : Maps.has D (idKey id) = true) {g c : Nat} {xs : List Int} (he : D.atKey (idKey id) .nil = slD g xs.length c) (hb : BytesAt w (.slice (some ⟨g, 0, none⟩) xs.length c) xs) (hne : xs ≠ []) (hl : xs.length ≤ 1000000) :
    Calls Tryd.prog 13 #[.pointer (some ⟨s, 0, none⟩), .agg (idC id)] w fun e w' => ∃ g' c', e = .returned (.tuple #[.slice (some ⟨g', 0, none⟩) xs.length c', .int .i64 0]) ∧ BytesAt w' (.slice (some ⟨g', 0, none⟩) xs.length c') xs ∧ Kept [] w w' := by
  obtain ⟨v, hlk, hv⟩ := h.lookAll hid
  rw [he] at hv
  obtain rfl := slR_inv hv
  rw [hy] at hlk
  obtain ⟨W0, hW0⟩ : ∃ W0, W0 = w.alloc (.cells (idC id) 33) := ⟨_, rfl⟩
  have HW0 : Hid (W0 = w.alloc (.cells (idC id) 33)) := hW0
  have k0 : Kept [] w W0 := by rw [hW0]; exact (Kept.refl _ _).alloc _
  have HK0 : Hid (Kept [] w W0) := k0
  have hbl := h.lt.2
  have HL : Hid (∀ W, Kept [] W0 W → (Instr.lookup 41 (.map (some b)) (.agg (idC id)) true).run Tryd.prog W = .ok (.tuple #[.slice (some ⟨g, 0, none⟩) xs.length c, .bool true]) W) := fun W k => hlk W (k0.then k)
  have HB : Hid (∀ W, Kept [] W0 W → W.cell? ⟨s, 0, none⟩ = some (.map (some b))) := fun W k => by rw [cell_of_row _ _ _ _ _ _ ((k0.then k).heap h.blk (by simp))]; rfl
  have HR : Hid (∀ W, Kept [] W0 W → W.rangeAt w.heap.size 0 (id.map (Value.int .u8))) := fun W k => by
    have h1 : W.heap[w.heap.size]? = some (.cells (id.map (Value.int .u8)).toArray 33 (0, 0)) := k.heap (show W0.heap[w.heap.size]? = _ by rw [hW0]; exact heap_alloc_new w _) (by simp)
    exact row_rangeS h1
  have HC : Hid (∀ W, Kept [] W0 W → Calls Tryd.prog 18 #[.slice (some ⟨g, 0, none⟩) xs.length c] W fun e w' => ∃ g' c', e = .returned (.slice (some ⟨g', 0, none⟩) xs.length c') ∧ BytesAt w' (.slice (some ⟨g', 0, none⟩) xs.length c') xs ∧ W.heap.size ≤ g' ∧ Kept [] W w') := fun W k => Clone_any ⟨g, 0, none⟩ c xs W (hb.kept' (k0.then k) (fun _ _ _ => by simp)) hne hl
  have hui := Tryd.underlying33
  have hso : (Tryd.prog.info? 33).map (·.size) = some (id.map (Value.int .u8)).length := by rw [List.length_map, hid.1]; exact Tryd.infoID
  have hidc : idC id = (id.map (Value.int .u8)).toArray := rfl
  have hsz32 : (idC id).size = 32 := idC_size hid.1
  rw [hidc] at HL HW0 hsz32 ⊢
  clear h hlk hv hid k0 hW0 hidc hy he hb hne hl
  generalize id.map (Value.int .u8) = R at *
  go_enter Tryd.func13, Tryd.ntmps13
  go_wp2_with fail
  rw [← HW0.out]
  refine region_quiet (Kept [] W0) (by kernel_rfl) (by kernel_rfl) (Kept.refl [] W0).drew ?_
  refine quiet_move (by rfl) (.tmp 0) rfl (.pointer (some ⟨s, 0, none⟩)) rfl ?_
  simp only [Act.put, List.setIfInBounds_toArray, List.set_cons_zero, List.set_cons_succ]
  refine quiet_val (by rfl) (.pointer (some ⟨s, 0, none⟩)) (fun W => by go_simp) ?_
  simp only [Act.put, List.setIfInBounds_toArray, List.set_cons_zero, List.set_cons_succ]
  refine quiet_val (by rfl) (.pointer (some ⟨s, 0, none⟩)) (fun W => by go_simp) ?_
  simp only [Act.put, List.setIfInBounds_toArray, List.set_cons_zero, List.set_cons_succ]
  refine valC (by rfl) (.map (some b)) (fun W hW => by have hcc := HB.out W hW; go_simp) ?_
  simp only [Act.put, List.setIfInBounds_toArray, List.set_cons_zero, List.set_cons_succ]
  refine quiet_row (by rfl) _ _ rfl w.heap.size 0 rfl R _ HR.out hui rfl hso ?_
  simp only [Act.put, List.setIfInBounds_toArray, List.set_cons_zero, List.set_cons_succ]
  refine valC (by rfl) (.tuple #[.slice (some ⟨g, 0, none⟩) xs.length c, .bool true]) (fun W hW => by have hcc := HL.out W hW; go_simp) ?_
  simp only [Act.put, List.setIfInBounds_toArray, List.set_cons_zero, List.set_cons_succ]
  refine quiet_move (by rfl) (.tmp 14) rfl (.tuple #[.slice (some ⟨g, 0, none⟩) xs.length c, .bool true]) rfl ?_
  simp only [Act.put, List.setIfInBounds_toArray, List.set_cons_zero, List.set_cons_succ]
  refine quiet_val (by rfl) (.slice (some ⟨g, 0, none⟩) xs.length c) (fun W => by go_simp) ?_
  simp only [Act.put, List.setIfInBounds_toArray, List.set_cons_zero, List.set_cons_succ]
  refine quiet_val (by rfl) (.bool true) (fun W => by go_simp) ?_
  simp only [Act.put, List.setIfInBounds_toArray, List.set_cons_zero, List.set_cons_succ]
  refine quiet_assign (by rfl) (.tmp 15) rfl (.slice (some ⟨g, 0, none⟩) xs.length c) rfl ?_
  simp only [Act.put, List.setIfInBounds_toArray, List.set_cons_zero, List.set_cons_succ]
  refine quiet_assign (by rfl) (.tmp 16) rfl (.bool true) rfl ?_
  simp only [Act.put, List.setIfInBounds_toArray, List.set_cons_zero, List.set_cons_succ]
  refine wpQuiet_nil fun w3 hk3 => ?_
  have HK3 : Hid (Kept [] w w3) := HK0.out.then hk3
  have hcl := HC.out w3 hk3
  clear hk3
  go_wp2_with fail
  go_at_call 18
  refine hcl.mono ?_
  rintro e w4 ⟨g', c', rfl, b4, _, k4⟩
  have HK4 : Hid (Kept [] w w4) := HK3.out.then k4
  have HB4 : Hid (BytesAt w4 (.slice (some ⟨g', 0, none⟩) xs.length c') xs) := b4
  clear hcl b4 k4
  go_wp2
  refine bodyPost_ret (v := .tuple #[.slice (some ⟨g', 0, none⟩) xs.length c', .int .i64 0]) (by simp [results, Tryd.results13, go_sem]) rfl ⟨g', c', rfl, HB4.out, HK4.out⟩
set_option maxRecDepth 100000 in
set_option maxHeartbeats 4000000 in
theorem Remove_st (h : St w s b n D) {id : List Int} (hid : GoodID id) :
    Calls Tryd.prog 12 #[.pointer (some ⟨s, 0, none⟩), .agg (idC id)] w fun e w' => e = .returned (.bool (Maps.has D (idKey id))) ∧ St w' s b n (D.del (idKey id)) ∧ Kept [b] w w' := by
  obtain ⟨W0, hW0⟩ : ∃ W0, W0 = w.alloc (.cells (idC id) 33) := ⟨_, rfl⟩
  have HW0 : Hid (W0 = w.alloc (.cells (idC id) 33)) := hW0
  have k0 : Kept [] w W0 := by rw [hW0]; exact (Kept.refl _ _).alloc _
  have HK0 : Hid (Kept [] w W0) := k0
  have hbl := h.lt.2
  have hhas := Has_st (h.on k0) hid
  have hun := Tryd.underlying33
  have HI0 : Hid (∀ W, Kept [b] W0 W → W.heap[w.heap.size]? = some (.cells (id.map (Value.int .u8)).toArray 33 (0, 0))) := fun W k => k.heap (show W0.heap[w.heap.size]? = _ by rw [hW0]; exact heap_alloc_new w _) (by simp; omega)
  have HB0 : Hid (∀ W, Kept [b] W0 W → W.cell? ⟨s, 0, none⟩ = some (.map (some b))) := fun W k => by rw [cell_of_row _ _ _ _ _ _ (((k0.more (by simp)).then'' k).heap h.blk (by simp; exact h.ne))]; rfl
  have HD : Hid (∀ W ty, Kept [] w W → ∃ W', (Builtin.delete_ #[41, 33] ty #[.map (some b), .agg (idC id)]).run Tryd.prog W = .ok (.tuple #[]) W' ∧ St W' s b n (D.del (idKey id)) ∧ Kept [b] W W') := fun W ty k => (h.on k).del hid ty
  have hui := Tryd.underlying33
  have hso : (Tryd.prog.info? 33).map (·.size) = some (id.map (Value.int .u8)).length := by rw [List.length_map, hid.1]; exact Tryd.infoID
  have hidc : idC id = (id.map (Value.int .u8)).toArray := rfl
  have hsz32 : (idC id).size = 32 := idC_size hid.1
  have hsz : (Tryd.prog.info? 33).map (·.size) = some (id.map (Value.int .u8)).toArray.size := by rw [List.size_toArray]; exact hso
  rw [hidc] at HW0 hsz32 hhas HD ⊢
  clear h hid k0 hW0 hidc
  generalize Maps.has D (idKey id) = hs at *
  generalize id.map (Value.int .u8) = R at *
  have g0 := HI0.out W0 (Kept.refl _ _)
  go_enter Tryd.func12, Tryd.ntmps12
  go_wp2_with (first
    | (refine wpList_load_row (by rfl) 33 (.tmp 3) (by rfl) w.heap.size (by rfl) 33 R.toArray (0, 0) _ (HW0.out ▸ g0) hui rfl hsz ?_))
  rw [← HW0.out]
  go_at_call 7
  refine hhas.mono ?_
  rintro e w1 ⟨rfl, k1⟩
  have HK1 : Hid (Kept [] w w1) := HK0.out.then k1
  have HB : Hid (∀ W, Kept [b] w1 W → W.cell? ⟨s, 0, none⟩ = some (.map (some b))) := fun W k => HB0.out W ((k1.more (by simp)).then'' k)
  have HR : Hid (∀ W, Kept [b] w1 W → W.rangeAt w.heap.size 0 R) := fun W k => row_rangeS (HI0.out W ((k1.more (by simp)).then'' k))
  obtain ⟨ty, hty⟩ : ∃ ty : TypeId, ty = 0 := ⟨_, rfl⟩
  have HDEL : Hid (∃ W', (∀ ty, (Builtin.delete_ #[41, 33] ty #[.map (some b), .agg R.toArray]).run Tryd.prog w1.drew = .ok (.tuple #[]) W') ∧ St W' s b n (D.del (idKey id)) ∧ Kept [b] w1.drew W') := by
    obtain ⟨W', h1, h2, h3⟩ := HD.out w1.drew 0 (HK1.out.drew)
    exact ⟨W', fun ty => h1, h2, h3⟩
  clear hhas k1 g0 hty
  go_wp2_with fail
  refine wp_region_held_drew (S := Kept [b] w1) (by kernel_rfl) (Kept.refl [b] w1).drew (fun hHeld => ?_)
  refine takeP 0 (v := .pointer (some ⟨s, 0, none⟩)) (some 9) #[true, false, false, false, false, false] rfl rfl rfl (by kernel_rfl) (by kernel_rfl) (by kernel_rfl) (fun _ _ _ h => h) (Or.inl ⟨by rfl, fun W hSW => by go_simp⟩) hHeld ?_
  simp only [Act.put, List.setIfInBounds_toArray, List.set_cons_zero, List.set_cons_succ]
  refine takeP 1 (v := .pointer (some ⟨s, 0, none⟩)) (some 10) #[true, true, false, false, false, false] rfl rfl rfl (by kernel_rfl) (by kernel_rfl) (by kernel_rfl) (fun _ _ _ h => h) (Or.inl ⟨by rfl, fun W hSW => by go_simp⟩) hHeld ?_
  simp only [Act.put, List.setIfInBounds_toArray, List.set_cons_zero, List.set_cons_succ]
  refine takeP 2 (v := .pointer (some ⟨s, 0, none⟩)) (some 11) #[true, true, true, false, false, false] rfl rfl rfl (by kernel_rfl) (by kernel_rfl) (by kernel_rfl) (fun _ _ _ h => h) (Or.inl ⟨by rfl, fun W hSW => by go_simp⟩) hHeld ?_
  simp only [Act.put, List.setIfInBounds_toArray, List.set_cons_zero, List.set_cons_succ]
  refine takeP 3 (v := .map (some b)) (some 12) #[true, true, true, true, false, false] rfl rfl rfl (by kernel_rfl) (by kernel_rfl) (by kernel_rfl) (fun _ _ _ h => h) (Or.inl ⟨by rfl, fun W hSW => by have hcc := HB.out W hSW; go_simp⟩) hHeld ?_
  simp only [Act.put, List.setIfInBounds_toArray, List.set_cons_zero, List.set_cons_succ]
  refine takeP 4 (v := .agg R.toArray) (some 13) #[true, true, true, true, true, false] rfl rfl rfl (by kernel_rfl) (by kernel_rfl) (by kernel_rfl) (fun _ _ _ h => h) (yieldsIf_load_mid (by rfl) 33 (.tmp 3) rfl w.heap.size 0 rfl R _ HR.out hui rfl hso) hHeld ?_
  simp only [Act.put, List.setIfInBounds_toArray, List.set_cons_zero, List.set_cons_succ]
  obtain ⟨w2, hrun2, hst2, k2⟩ := HDEL.out
  refine wpAnyH_ready (rs := [5]) (by kernel_rfl) (by simp) (AllReadyH.cons rfl (fun K hK => ?_) AllReadyH.nil)
  rw [if_pos (by rfl)]
  go_simp
  refine hK.out _ _ (hHeld.then'' k2) (fun hHeld => ?_)
  clear hK K
  simp only [List.setIfInBounds_toArray, List.set_cons_zero, List.set_cons_succ]
  refine wpAnyH_done (by kernel_rfl) ?_ _
  have HF : Hid (St w2 s b n (D.del (idKey id)) ∧ Kept [b] w w2) := ⟨hst2, (HK1.out.more (by simp)).then'' hHeld⟩
  clear hHeld hst2 k2 hrun2
  go_wp2
  go_ret
  exact ⟨rfl, HF.out.1, HF.out.2⟩
end
end Go.Proofs.YtpdlnmjnpodicaaDoor
