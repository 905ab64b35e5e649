/-
  WALKS: object.Id; bytes.Equal, bytes.Clone; store.New, Len, Has.
-/
import Derived.Test.YtpdlnmjnpodicaaDoorSk1
import Derived.Test.YtpdlnmjnpodicaaDoorSha8
import Derived.Test.YtpdlnmjnpodicaaDoorQuietId
import Derived.Test.YtpdlnmjnpodicaaDoorConv
import Derived.Test.YtpdlnmjnpodicaaDoorStep
namespace Go.Proofs.YtpdlnmjnpodicaaDoor
open Go.RowKit Go.WideMaps

set_option maxRecDepth 100000 in
set_option maxHeartbeats 1000000 in
theorem Id_any (v : Value) (xs : List Int) (w : World) (hV : Vars w) (hx : BytesAt w v xs) (ho : Octs xs) (hn : xs.length ≤ 140737488355328) : Calls Tryd.prog 8 #[v] w fun e w' => e = .returned (.agg (idC (digL xs))) ∧ Kept [] w w' := by
  obtain ⟨ic, hic⟩ : ∃ ic, ic = idC (digL xs) := ⟨_, rfl⟩
  have hszi : (Tryd.prog.info? 33).map (·.size) = some ic.size := by rw [hic, idC_size (digL_len xs)]; exact Tryd.infoID
  have halli : ic.all (·.oneCell') = true := by rw [hic]; exact all_oneCell_toArray (map_oneCell _)
  have hosi : (idC zid).size = ic.size := by rw [hic, idC_size (digL_len xs)]; rfl
  have HI : Hid (ic = idC (digL xs)) := hic
  have kA : Kept [] w (w.alloc (.cells (idC zid) 33)) := (Kept.refl _ _).alloc _
  have hs : Calls Tryd.prog 15 #[v] (w.alloc (.cells (idC zid) 33)) fun e w' => e = .returned (.agg ic) ∧ Kept [] (w.alloc (.cells (idC zid) 33)) w' := by
    rw [hic]
    exact Sum_any _ v xs (hV.kept kA (by simp) (by simp)) (hx.kept kA (fun _ _ => by simp)) ho hn
  have HKA : Hid (Kept [] w (w.alloc (.cells (idC zid) 33))) := kA
  have HI0 : Hid ((w.alloc (.cells (idC zid) 33)).heap[w.heap.size]? = some (.cells (idC zid) 33 (0, 0))) := heap_alloc_new w _
  obtain ⟨ao, cap, rfl, _⟩ := hx
  clear hV ho hn hic kA
  go_enter Tryd.func8, Tryd.ntmps8
  go_wp2_with (first
    | (go_at_call 15; refine hs.mono ?_; rintro e w3 ⟨rfl, hk3⟩
       have HI3 : Hid (w3.heap[w.heap.size]? = some (.cells (idC zid) 33 (0, 0))) := hk3.heap HI0.out (by simp)
       have HK3 : Hid (Kept [] w w3) := HKA.out.then hk3
       clear hk3)
    | (refine wpList_store_row rfl 33 (.tmp 2) (.tmp 4) rfl w.heap.size ic rfl rfl 33 _ HI3.out hszi hosi halli ?_))
  refine bodyPost_ret (v := .agg ic) ?_ rfl ⟨by rw [HI.out], kept_setRow HK3.out (Nat.le_refl _) _⟩
  rw [results_cell rfl]
  have hld := run_loadVar_row (P := Tryd.prog) (w3.setRow w.heap.size ic) w.heap.size 33 33 ic (0, 0) _ (setRow_heap _ _ _ _ _ _ HI3.out) Tryd.underlying33 rfl hszi
  exact hld

theorem row_rangeS {w : World} {b : Nat} {cs : List Value} {t : TypeId} {fr : Nat × Nat} (h : w.heap[b]? = some (.cells cs.toArray t fr)) : w.rangeAt b 0 cs := fun j v hj => by
  rw [cell_of_row _ _ _ _ _ _ h, Nat.zero_add, List.getElem?_toArray]; exact hj
/-- What a new variable with an entry in it holds. -/
theorem slR_inj {v v' : Value} {z : DataW Unit × List MemPlace} (h : slR v = some z) (h' : slR v' = some z) : v = v' := by
  unfold slR at h
  split at h
  · injection h with h
    subst h
    exact (slR_inv h').symm
  · injection h with h
    subst h
    unfold slR at h'
    split at h'
    · simp [slD] at h'
    · rfl
    · cases h'
  · cases h
section
variable {w : World} {s b n : Nat} {D : DataW Unit}
/-- The lookup of an id, wherever the store is as it was. -/
theorem St.lookAll (h : St w s b n D) {id : List Int} (hid : GoodID id) : ∃ v, (∀ W, Kept [] w W → (Instr.lookup 41 (.map (some b)) (.agg (idC id)) true).run Tryd.prog W = .ok (.tuple #[v, .bool (Maps.has D (idKey id))]) W) ∧
    slR v = some (D.atKey (idKey id) .nil, []) := by
  have key : ∀ W, Kept [] w W → ∃ v ps, (Instr.lookup 41 (.map (some b)) (.agg (idC id)) true).run Tryd.prog W = .ok (.tuple #[v, .bool (Maps.has D (idKey id))]) W ∧ slR v = some (D.atKey (idKey id) .nil, ps) := fun W k => (h.on k).own.look_ok Tryd.keyId Tryd.underlying41 (Tryd.zeroB W) slR_nil (key_id hid)
  have hps : ∀ v ps d, slR v = some (d, ps) → ps = [] := fun v ps d h => by
    unfold slR at h
    split at h
    · injection h with h; injection h with _ h; exact h.symm
    · injection h with h; injection h with _ h; exact h.symm
    · cases h
  obtain ⟨v, ps, _, hv⟩ := key w (Kept.refl _ _)
  obtain rfl := hps _ _ _ hv
  refine ⟨v, fun W k => ?_, hv⟩
  obtain ⟨v', ps', hr, hv'⟩ := key W k
  obtain rfl := hps _ _ _ hv'
  rw [slR_inj hv hv']
  exact hr
theorem slR_form {v : Value} {z : DataW Unit × List MemPlace} (h : slR v = some z) : ∃ ao m c, v = .slice ao m c := by
  unfold slR at h
  split at h
  · exact ⟨_, _, _, rfl⟩
  · exact ⟨_, _, _, rfl⟩
  · cases h

set_option maxRecDepth 100000 in
set_option maxHeartbeats 2000000 in
theorem New_st (w : World) : Calls Tryd.prog 4 #[] w fun e w' => ∃ s b, e = .returned (.pointer (some ⟨s, 0, none⟩)) ∧ St w' s b 0 (.map []) ∧ w.heap.size ≤ s ∧ w.heap.size ≤ b ∧ Kept [] w w' := by
  have HF : Hid (St ((w.alloc (.map #[] 0)).alloc (.cells #[.map (some w.heap.size)] 43)) (w.heap.size + 1) w.heap.size 0 (.map [])) := by
    have e : (w.alloc (.map #[] 0)).heap.size = w.heap.size + 1 := World.size_alloc _ _
    have h := heap_alloc_new (w.alloc (.map #[] 0)) (.cells #[.map (some w.heap.size)] 43)
    rw [e] at h
    exact ⟨h, (World.ownsMap_made w Tryd.prog 33 slR).alloc _, by omega, fun kl hk => by (cases hk)⟩
  have HK : Hid (Kept [] w ((w.alloc (.map #[] 0)).alloc (.cells #[.map (some w.heap.size)] 43))) := ((Kept.refl _ _).alloc _).alloc _
  have hmm : ∀ W : World, (Instr.makeMap 41 none).run Tryd.prog W = .ok (.map (some W.heap.size)) (W.alloc (.map #[] 0)) := fun W => by kernel_rfl
  go_enter Tryd.func4, Tryd.ntmps4
  go_wp2
  go_ret
  exact ⟨w.heap.size + 1, w.heap.size, rfl, HF.out, by omega, by omega, HK.out⟩
theorem Len_st (h : St w s b n D) : Calls Tryd.prog 9 #[.pointer (some ⟨s, 0, none⟩)] w fun e w' => e = .returned (.int .i64 (Maps.size D)) ∧ w' = w := by
  have hl := fun ty => h.own.len (t := 41) Tryd.underlying41 ty
  have c0 : w.cell? ⟨s, 0, none⟩ = some (.map (some b)) := by rw [cell_of_row _ _ _ _ _ _ h.blk]; rfl
  clear h
  go_enter Tryd.func9, Tryd.ntmps9
  go_wp2
  go_ret
  exact ⟨rfl, rfl⟩
set_option maxRecDepth 100000 in
set_option maxHeartbeats 2000000 in
theorem Has_st (h : St w s b n D) {id : List Int} (hid : GoodID id) : Calls Tryd.prog 7 #[.pointer (some ⟨s, 0, none⟩), .agg (idC id)] w fun e w' => e = .returned (.bool (Maps.has D (idKey id))) ∧ Kept [] w w' := by
  obtain ⟨v, hlk, hv⟩ := h.lookAll hid
  obtain ⟨ao, m, c, rfl⟩ := slR_form hv
  obtain ⟨W0, hW0⟩ : ∃ W0, W0 = w.alloc (.cells (idC id) 33) := ⟨_, rfl⟩
  have HW0 : Hid (W0 = w.alloc (.cells (idC id) 33)) := hW0
  have k0 : Kept [] w W0 := by rw [hW0]; exact (Kept.refl _ _).alloc _
  have HK0 : Hid (Kept [] w W0) := k0
  have HL : Hid (∀ W, Kept [] W0 W → (Instr.lookup 41 (.map (some b)) (.agg (idC id)) true).run Tryd.prog W = .ok (.tuple #[.slice ao m c, .bool (Maps.has D (idKey id))]) W) := fun W k => hlk W (k0.then k)
  have HB : Hid (∀ W, Kept [] W0 W → W.cell? ⟨s, 0, none⟩ = some (.map (some b))) := fun W k => by rw [cell_of_row _ _ _ _ _ _ ((k0.then k).heap h.blk (by simp))]; rfl
  have HR : Hid (∀ W, Kept [] W0 W → W.rangeAt w.heap.size 0 (id.map (Value.int .u8))) := fun W k => by
    have h1 : W.heap[w.heap.size]? = some (.cells (id.map (Value.int .u8)).toArray 33 (0, 0)) := k.heap (show W0.heap[w.heap.size]? = _ by rw [hW0]; exact heap_alloc_new w _) (by simp)
    exact row_rangeS h1
  have hui := Tryd.underlying33
  have hso : (Tryd.prog.info? 33).map (·.size) = some (id.map (Value.int .u8)).length := by rw [List.length_map, hid.1]; exact Tryd.infoID
  have hidc : idC id = (id.map (Value.int .u8)).toArray := rfl
  have hsz32 : (idC id).size = 32 := idC_size hid.1
  rw [hidc] at HL HW0 hsz32 ⊢
  clear h hlk hv hid k0 hW0 hidc
  generalize Maps.has D (idKey id) = r at *
  generalize id.map (Value.int .u8) = R at *
  go_enter Tryd.func7, Tryd.ntmps7
  go_wp2_with fail
  rw [← HW0.out]
  refine region_quiet (Kept [] W0) (by kernel_rfl) (by kernel_rfl) (Kept.refl [] W0).drew ?_
  refine quiet_move (by rfl) (.tmp 0) rfl (.pointer (some ⟨s, 0, none⟩)) rfl ?_
  simp only [Act.put, List.setIfInBounds_toArray, List.set_cons_zero, List.set_cons_succ]
  refine quiet_val (by rfl) (.pointer (some ⟨s, 0, none⟩)) (fun W => by go_simp) ?_
  simp only [Act.put, List.setIfInBounds_toArray, List.set_cons_zero, List.set_cons_succ]
  refine quiet_val (by rfl) (.pointer (some ⟨s, 0, none⟩)) (fun W => by go_simp) ?_
  simp only [Act.put, List.setIfInBounds_toArray, List.set_cons_zero, List.set_cons_succ]
  refine valC (by rfl) (.map (some b)) (fun W hW => by have hcc := HB.out W hW; go_simp) ?_
  simp only [Act.put, List.setIfInBounds_toArray, List.set_cons_zero, List.set_cons_succ]
  refine quiet_row (by rfl) _ _ rfl w.heap.size 0 rfl R _ HR.out hui rfl hso ?_
  simp only [Act.put, List.setIfInBounds_toArray, List.set_cons_zero, List.set_cons_succ]
  refine valC (by rfl) (.tuple #[.slice ao m c, .bool r]) (fun W hW => by have hcc := HL.out W hW; go_simp) ?_
  simp only [Act.put, List.setIfInBounds_toArray, List.set_cons_zero, List.set_cons_succ]
  refine quiet_move (by rfl) (.tmp 13) rfl (.tuple #[.slice ao m c, .bool r]) rfl ?_
  simp only [Act.put, List.setIfInBounds_toArray, List.set_cons_zero, List.set_cons_succ]
  refine quiet_val (by rfl) (.slice ao m c) (fun W => by go_simp) ?_
  simp only [Act.put, List.setIfInBounds_toArray, List.set_cons_zero, List.set_cons_succ]
  refine quiet_val (by rfl) (.bool r) (fun W => by go_simp) ?_
  simp only [Act.put, List.setIfInBounds_toArray, List.set_cons_zero, List.set_cons_succ]
  refine quiet_assign (by rfl) (.tmp 14) rfl (.slice ao m c) rfl ?_
  simp only [Act.put, List.setIfInBounds_toArray, List.set_cons_zero, List.set_cons_succ]
  refine quiet_assign (by rfl) (.tmp 15) rfl (.bool r) rfl ?_
  simp only [Act.put, List.setIfInBounds_toArray, List.set_cons_zero, List.set_cons_succ]
  refine wpQuiet_nil fun w3 hk3 => ?_
  have HK3 : Hid (Kept [] w w3) := HK0.out.then hk3
  clear hk3
  go_wp2
  go_ret
  exact ⟨rfl, HK3.out⟩
end
end Go.Proofs.YtpdlnmjnpodicaaDoor
