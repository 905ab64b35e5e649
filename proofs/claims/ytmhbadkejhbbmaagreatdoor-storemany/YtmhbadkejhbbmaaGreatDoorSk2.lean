/-
  WALKS: object.Id; bytes.Equal, bytes.Clone; store.New, Len, Has.
-/
import Derived.Test.YtmhbadkejhbbmaaGreatDoorSk1
import Derived.Test.YtmhbadkejhbbmaaGreatDoorSha8
import Derived.Test.YtmhbadkejhbbmaaGreatDoorQuietId
import Derived.Test.YtmhbadkejhbbmaaGreatDoorConv
import Derived.Test.YtmhbadkejhbbmaaGreatDoorStep
namespace Go.Proofs.YtmhbadkejhbbmaaGreatDoor
open Go.RowKit Go.WideMaps

set_option maxRecDepth 100000 in
set_option maxHeartbeats 1000000 in
theorem Id_any (v : Value) (xs : List Int) (w : World) (hV : Vars w) (hx : BytesAt w v xs) (ho : Octs xs) (hn : xs.length ≤ 140737488355328) : Calls Tryz.prog 19 #[v] w fun e w' => e = .returned (.agg (idC (digL xs))) ∧ Kept [] w w' := by
  obtain ⟨ic, hic⟩ : ∃ ic, ic = idC (digL xs) := ⟨_, rfl⟩
  have hszi : (Tryz.prog.info? 29).map (·.size) = some ic.size := by rw [hic, idC_size (digL_len xs)]; exact Tryz.infoID
  have halli : ic.all (·.oneCell') = true := by rw [hic]; exact all_oneCell_toArray (map_oneCell _)
  have hosi : (idC zid).size = ic.size := by rw [hic, idC_size (digL_len xs)]; rfl
  have HI : Hid (ic = idC (digL xs)) := hic
  have kA : Kept [] w (w.alloc (.cells (idC zid) 29)) := (Kept.refl _ _).alloc _
  have hs : Calls Tryz.prog 28 #[v] (w.alloc (.cells (idC zid) 29)) fun e w' => e = .returned (.agg ic) ∧ Kept [] (w.alloc (.cells (idC zid) 29)) w' := by
    rw [hic]
    exact Sum_any _ v xs (hV.kept kA (by simp) (by simp)) (hx.kept kA (fun _ _ => by simp)) ho hn
  have HKA : Hid (Kept [] w (w.alloc (.cells (idC zid) 29))) := kA
  have HI0 : Hid ((w.alloc (.cells (idC zid) 29)).heap[w.heap.size]? = some (.cells (idC zid) 29 (0, 0))) := heap_alloc_new w _
  obtain ⟨ao, cap, rfl, _⟩ := hx
  clear hV ho hn hic kA
  go_enter Tryz.func19, Tryz.ntmps19
  go_wp2_with (first
    | (go_at_call 28; refine hs.mono ?_; rintro e w3 ⟨rfl, hk3⟩
       have HI3 : Hid (w3.heap[w.heap.size]? = some (.cells (idC zid) 29 (0, 0))) := hk3.heap HI0.out (by simp)
       have HK3 : Hid (Kept [] w w3) := HKA.out.then hk3
       clear hk3)
    | (refine wpList_store_row rfl 29 (.tmp 2) (.tmp 4) rfl w.heap.size ic rfl rfl 29 _ HI3.out hszi hosi halli ?_))
  refine bodyPost_ret (v := .agg ic) ?_ rfl ⟨by rw [HI.out], kept_setRow HK3.out (Nat.le_refl _) _⟩
  rw [results_cell rfl]
  have hld := run_loadVar_row (P := Tryz.prog) (w3.setRow w.heap.size ic) w.heap.size 29 29 ic (0, 0) _ (setRow_heap _ _ _ _ _ _ HI3.out) Tryz.underlying29 rfl hszi
  exact hld

theorem row_rangeS {w : World} {b : Nat} {cs : List Value} {t : TypeId} {fr : Nat × Nat} (h : w.heap[b]? = some (.cells cs.toArray t fr)) : w.rangeAt b 0 cs := fun j v hj => by
  rw [cell_of_row _ _ _ _ _ _ h, Nat.zero_add, List.getElem?_toArray]; exact hj
/-- What a new variable with an entry in it holds. -/
theorem slR_inj {v v' : Value} {z : DataW Unit × List MemPlace} (h : slR v = some z) (h' : slR v' = some z) : v = v' := by
  unfold slR at h
  split at h
  · injection h with h
    subst h
    exact (slR_inv h').symm
  · injection h with h
    subst h
    unfold slR at h'
    split at h'
    · simp [slD] at h'
    · rfl
    · cases h'
  · cases h
section
variable {w : World} {s b n : Nat} {D : DataW Unit}
/-- The lookup of an id, wherever the store is as it was. -/
theorem St.lookAll (h : St w s b n D) {id : List Int} (hid : GoodID id) : ∃ v, (∀ W, Kept [] w W → (Instr.lookup 68 (.map (some b)) (.agg (idC id)) true).run Tryz.prog W = .ok (.tuple #[v, .bool (Maps.has D (idKey id))]) W) ∧
    slR v = some (D.atKey (idKey id) .nil, []) := by
  have key : ∀ W, Kept [] w W → ∃ v ps, (Instr.lookup 68 (.map (some b)) (.agg (idC id)) true).run Tryz.prog W = .ok (.tuple #[v, .bool (Maps.has D (idKey id))]) W ∧ slR v = some (D.atKey (idKey id) .nil, ps) := fun W k => (h.on k).own.look_ok Tryz.keyId Tryz.underlying68 (Tryz.zeroB W) slR_nil (key_id hid)
  have hps : ∀ v ps d, slR v = some (d, ps) → ps = [] := fun v ps d h => by
    unfold slR at h
    split at h
    · injection h with h; injection h with _ h; exact h.symm
    · injection h with h; injection h with _ h; exact h.symm
    · cases h
  obtain ⟨v, ps, _, hv⟩ := key w (Kept.refl _ _)
  obtain rfl := hps _ _ _ hv
  refine ⟨v, fun W k => ?_, hv⟩
  obtain ⟨v', ps', hr, hv'⟩ := key W k
  obtain rfl := hps _ _ _ hv'
  rw [slR_inj hv hv']
  exact hr
theorem slR_form {v : Value} {z : DataW Unit × List MemPlace} (h : slR v = some z) : ∃ ao m c, v = .slice ao m c := by
  unfold slR at h
  split at h
  · exact ⟨_, _, _, rfl⟩
  · exact ⟨_, _, _, rfl⟩
  · cases h

set_option maxRecDepth 100000 in
set_option maxHeartbeats 2000000 in
theorem New_st (w : World) : Calls Tryz.prog 10 #[] w fun e w' => ∃ s b, e = .returned (.pointer (some ⟨s, 0, none⟩)) ∧ St w' s b 0 (.map []) ∧ w.heap.size ≤ s ∧ w.heap.size ≤ b ∧ Kept [] w w' := by
  have HF : Hid (St ((w.alloc (.map #[] 0)).alloc (.cells #[.map (some w.heap.size)] 70)) (w.heap.size + 1) w.heap.size 0 (.map [])) := by
    have e : (w.alloc (.map #[] 0)).heap.size = w.heap.size + 1 := World.size_alloc _ _
    have h := heap_alloc_new (w.alloc (.map #[] 0)) (.cells #[.map (some w.heap.size)] 70)
    rw [e] at h
    exact ⟨h, (World.ownsMap_made w Tryz.prog 29 slR).alloc _, by omega, fun kl hk => by (cases hk)⟩
  have HK : Hid (Kept [] w ((w.alloc (.map #[] 0)).alloc (.cells #[.map (some w.heap.size)] 70))) := ((Kept.refl _ _).alloc _).alloc _
  have hmm : ∀ W : World, (Instr.makeMap 68 none).run Tryz.prog W = .ok (.map (some W.heap.size)) (W.alloc (.map #[] 0)) := fun W => by kernel_rfl
  go_enter Tryz.func10, Tryz.ntmps10
  go_wp2
  go_ret
  exact ⟨w.heap.size + 1, w.heap.size, rfl, HF.out, by omega, by omega, HK.out⟩
theorem Len_st (h : St w s b n D) : Calls Tryz.prog 14 #[.pointer (some ⟨s, 0, none⟩)] w fun e w' => e = .returned (.int .i64 (Maps.size D)) ∧ w' = w := by
  have hl := fun ty => h.own.len (t := 68) Tryz.underlying68 ty
  have c0 : w.cell? ⟨s, 0, none⟩ = some (.map (some b)) := by rw [cell_of_row _ _ _ _ _ _ h.blk]; rfl
  clear h
  go_enter Tryz.func14, Tryz.ntmps14
  go_wp2
  go_ret
  exact ⟨rfl, rfl⟩
end
end Go.Proofs.YtmhbadkejhbbmaaGreatDoor
