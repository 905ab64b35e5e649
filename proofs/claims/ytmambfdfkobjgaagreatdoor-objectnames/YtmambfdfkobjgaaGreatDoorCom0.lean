/-
  WALKS: slices.Index, slices.Contains of ids; commits: (object.commit).fault.
-/
import Derived.Test.YtmambfdfkobjgaaGreatDoorTag3
import Derived.Test.YtmambfdfkobjgaaGreatDoorWLen
namespace Go.Proofs.YtmambfdfkobjgaaGreatDoor
open Go.RowKit

set_option maxRecDepth 100000 in
set_option maxHeartbeats 1000000 in
theorem Contains_ids (v : Value) (ids : List (List Int)) (id : List Int) (w : World) (hv : IdsAt w v ids) (hg : ∀ o, o ∈ ids → GoodID o) (hid : GoodID id) :
    Calls Tryz.prog 132 #[v, .agg (idC id)] w fun e w' => (∃ n : Int, e = .returned (.int .i64 n) ∧ -1 ≤ n ∧ decide (0 ≤ n) = decide (id ∈ ids)) ∧ Kept [] w w' := by
  have hsl : (Tryz.prog.info? 31).map (·.size) = some (id.map (Value.int .u8)).length := by rw [List.length_map, hid.1]; exact Tryz.infoID
  have HR : Hid (∀ W, Kept [] (w.alloc (.cells (idC id) 31)) W → W.rangeAt w.heap.size 0 (id.map (Value.int .u8))) := fun W k => range_kept (range_box w id 31) k (by simp)
  have HV : Hid (∀ W, Kept [] w W → IdsAt W v ids) := fun W k => hv.keep k (fun _ _ _ => by simp)
  have HG : Hid (∀ o, o ∈ ids → GoodID o) := hg
  have HD : Hid (GoodID id) := hid
  have hun := Tryz.underlying31
  obtain ⟨ao, cap, rfl, hcap, _, hlen, _⟩ := hv
  clear hg hid
  go_enter Tryz.func132, Tryz.ntmps132
  go_wp2
  go_loopw [5, 8] (fun _ s8 wr => ∃ k : Nat, k ≤ ids.length ∧ s8 = .int .i64 k ∧ Hid (∀ (i : Nat) (o : List Int), ids[i]? = some o → i < k → o ≠ id) ∧ Hid (Kept [] (w.alloc (.cells (idC id) 31)) wr)) (fun _ s8 _ => ids.length - (intOf s8).toNat)
  case atStart => exact ⟨0, Nat.zero_le _, rfl, fun i o _ h => absurd h (by omega), Kept.refl _ _⟩
  case round =>
    obtain ⟨k, hk, rfl, HN, HK⟩ := hrel
    by_cases hlt : k < ids.length
    · obtain ⟨o, ho⟩ : ∃ o, ids[k]? = some o := ⟨_, List.getElem?_eq_getElem hlt⟩
      have hgo := HG.out o (List.mem_of_getElem? ho)
      obtain ⟨ao', cap', he, _, _, _, hc⟩ := HV.out w (Kept.refl _ _)
      injection he with e1 e2 e3
      subst e1 e3
      obtain ⟨b, off, rfl, hh⟩ := hc (by rintro rfl; simp at hlt)
      have hr := hh k o ho
      have hso : (Tryz.prog.info? 31).map (·.size) = some (o.map (Value.int .u8)).length := by rw [List.length_map, hgo.1]; exact Tryz.infoID
      have heqf : ∀ W, (Op.equalIn 10000 31 (.agg (id.map (Value.int .u8)).toArray) (.agg (o.map (Value.int .u8)).toArray)).run Tryz.prog W = .ok (decide (id = o)) W := fun W => idEq id o W HD.out.1 hgo.1
      have HR1 : Hid (∀ W, Kept [] (w.alloc (.cells (idC id) 31)) W → W.rangeAt b (off + k * 32) (o.map (Value.int .u8))) := fun W hW => range_kept hr (((Kept.refl [] w).alloc _).then hW) (by simp)
      have HKW : Hid (∀ W, Kept [] (w.alloc (.cells (idC id) 31)) W → Kept [] w W) := fun W hW => ((Kept.refl [] w).alloc _).then hW
      clear hh hc hgo hr
      go_wp2_with fail
      refine region_quiet (Kept [] (w.alloc (.cells (idC id) 31))) (by kernel_rfl) (by kernel_rfl) HK.out.drew ?_
      refine quiet_row (by rfl) _ _ rfl w.heap.size 0 rfl (id.map (Value.int .u8)) _ HR.out hun rfl hsl ?_
      simp only [Act.put, List.setIfInBounds_toArray, List.set_cons_zero, List.set_cons_succ]
      refine quiet_move (by rfl) (.tmp 0) rfl (.slice (some ⟨b, off, none⟩) ids.length cap) rfl ?_
      simp only [Act.put, List.setIfInBounds_toArray, List.set_cons_zero, List.set_cons_succ]
      refine quiet_move (by rfl) (.tmp 5) rfl (.int .i64 k) rfl ?_
      simp only [Act.put, List.setIfInBounds_toArray, List.set_cons_zero, List.set_cons_succ]
      refine quiet_val (by rfl) (.pointer (some ⟨b, off + k * 32, none⟩)) (fun W => by go_simp) ?_
      simp only [Act.put, List.setIfInBounds_toArray, List.set_cons_zero, List.set_cons_succ]
      refine quiet_row (by rfl) _ _ rfl b (off + k * 32) rfl (o.map (Value.int .u8)) _ HR1.out hun rfl hso ?_
      simp only [Act.put, List.setIfInBounds_toArray, List.set_cons_zero, List.set_cons_succ]
      refine quiet_eql (by rfl) (.tmp 11) (.tmp 15) _ rfl _ _ rfl rfl (decide (id = o)) heqf ?_
      simp only [Act.put, List.setIfInBounds_toArray, List.set_cons_zero, List.set_cons_succ]
      refine wpQuiet_nil fun w3 hk3 => ?_
      have HK3 : Hid (Kept [] (w.alloc (.cells (idC id) 31)) w3) := hk3
      have HF3 : Hid (Kept [] w w3) := HKW.out w3 hk3
      clear hk3 heqf HR1
      by_cases hio : id = o
      · have hd : decide (id = o) = true := decide_eq_true hio
        rw [hd]
        have HM : Hid (decide (id ∈ ids) = true) := decide_eq_true (by rw [hio]; exact List.mem_of_getElem? ho)
        clear hio hd ho
        go_wp2
        go_ret
        exact ⟨⟨(k : Int), rfl, by omega, by rw [HM.out]; exact decide_eq_true (by omega)⟩, HF3.out⟩
      · have hd : decide (id = o) = false := decide_eq_false hio
        rw [hd]
        have HN' : Hid (∀ (i : Nat) (o : List Int), ids[i]? = some o → i < k + 1 → o ≠ id) := fun i x hx hi => by
          by_cases hik : i = k
          · subst hik
            rw [ho] at hx
            cases hx
            exact Ne.symm hio
          · exact HN.out i x hx (by omega)
        clear hio hd ho
        go_wp2
        go_roundw
        case rel => exact ⟨k + 1, by omega, by go_num, HN', HK3⟩
        case measure => simp [intOf]; omega
    · have HM : Hid (decide (id ∈ ids) = false) := decide_eq_false fun hm => by
        obtain ⟨i, hi, he⟩ := List.getElem_of_mem hm
        exact HN.out i id (by rw [List.getElem?_eq_getElem hi, he]) (by omega) rfl
      have HF3 : Hid (Kept [] w wr) := ((Kept.refl [] w).alloc _).then HK.out
      go_wp2
      go_ret
      exact ⟨⟨-1, rfl, by omega, by rw [HM.out]; rfl⟩, HF3.out⟩

set_option maxRecDepth 100000 in
set_option maxHeartbeats 1000000 in
theorem ContainsIDs_any (v : Value) (ids : List (List Int)) (id : List Int) (w : World) (hv : IdsAt w v ids) (hg : ∀ o, o ∈ ids → GoodID o) (hid : GoodID id) :
    Calls Tryz.prog 129 #[v, .agg (idC id)] w fun e w' => e = .returned (.bool (decide (id ∈ ids))) ∧ Kept [] w w' := by
  have hk0 : Kept [] w (w.alloc (.cells (idC id) 31)) := (Kept.refl _ _).alloc _
  have hcall := Contains_ids v ids id (w.alloc (.cells (idC id) 31)) (hv.keep hk0 (fun _ _ _ => by simp)) hg hid
  have hsz : (Tryz.prog.info? 31).map (·.size) = some (idC id).size := by rw [idC_size hid.1]; exact Tryz.infoID
  have HB : Hid ((w.alloc (.cells (idC id) 31)).heap[w.heap.size]? = some (.cells (idC id) 31 (0, 0))) := heap_alloc_new w _
  obtain ⟨ao, cap, rfl, _⟩ := hv
  clear hg hid
  generalize idC id = ic at *
  go_enter Tryz.func129, Tryz.ntmps129
  go_wp2_with (first
    | (refine wpList_load_row (by rfl) 31 (.tmp 3) (by rfl) w.heap.size (by rfl) 31 ic (0, 0) _ HB.out Tryz.underlying31 rfl hsz ?_)
    | (go_at_call 132; refine hcall.mono ?_; rintro e w2 ⟨⟨n, rfl, hn, hd⟩, hk2⟩
       have HK2 : Hid (Kept [] w w2) := hk0.then hk2
       have HD : Hid _ := hd
       clear hk2 hd))
  go_ret
  exact ⟨by rw [← HD.out]; rfl, HK2.out⟩
end Go.Proofs.YtmambfdfkobjgaaGreatDoor
