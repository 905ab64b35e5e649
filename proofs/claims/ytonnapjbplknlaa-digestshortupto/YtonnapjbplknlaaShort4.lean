/-
  WALK: satchelref2.Short: the same beginning as the program's.
-/
import Derived.Test.YtonnapjbplknlaaShort3
namespace Go.Proofs.Ytonnapjbplknlaa
open Go.RowKit

set_option maxRecDepth 100000 in
set_option maxHeartbeats 1000000 in
theorem RShort_any (v : Value) (ids : List (List Int)) (id : List Int) (w : World) (hv : IdsAt w v ids) (hg : ∀ o, o ∈ ids → GoodID o) (hid : GoodID id) :
    Calls Try.prog 12 #[v, .agg (idC id)] w fun e w' => e = .returned (.string (strOfNums ((hexL id).take (sizeL ids id)))) ∧ Kept [] w w' := by
  have hsz : (Try.prog.info? 24).map (·.size) = some (idC id).size := by rw [idC_size hid.1]; exact Try.infoID
  have hsl : (Try.prog.info? 24).map (·.size) = some (id.map (Value.int .u8)).length := by rw [List.length_map, hid.1]; exact Try.infoID
  have HR : Hid (∀ W, Kept [] (w.alloc (.cells (idC id) 24)) W → W.rangeAt w.heap.size 0 (id.map (Value.int .u8))) := fun W k => range_kept (range_box w id 24) k (by simp)
  have HB : Hid ((w.alloc (.cells (idC id) 24)).heap[w.heap.size]? = some (.cells (idC id) 24 (0, 0))) := heap_alloc_new w _
  have hhex := fun W => RHex_any id W hid
  have HV : Hid (∀ W, Kept [] w W → IdsAt W v ids) := fun W k => hv.keep k (fun _ _ _ => by simp)
  have HG : Hid (∀ o, o ∈ ids → GoodID o) := hg
  have HD : Hid (GoodID id) := hid
  have hfit := sizeL_fits id hid ids hg
  have hhs : (strOfNums (hexL id)).size = 64 := by rw [strOfNums_size, hexL_len]
  have hun := Try.underlying24
  obtain ⟨ao, cap, rfl, hcap, _, hlen, _⟩ := hv
  clear hg hid
  go_enter Try.func12, Try.ntmps12
  go_wp2_with (first
    | (refine wpList_load_row (by rfl) 24 (.tmp 3) (by rfl) w.heap.size (by rfl) 24 (idC id) (0, 0) _ HB.out Try.underlying24 rfl hsz ?_)
    | (go_at_call 13; refine (hhex _).mono ?_; rintro e w2 ⟨rfl, hk2⟩; have HK2 : Hid (Kept [] (w.alloc (.cells (idC id) 24)) w2) := hk2; clear hk2))
  go_loopw [6, 7, 8] (fun s6 _ _ wr => ∃ n : Nat, 4 ≤ n ∧ n ≤ 64 ∧ s6 = .int .i64 n ∧ Hid (n ≤ sizeL ids id) ∧ Hid (Kept [] (w.alloc (.cells (idC id) 24)) wr)) (fun s6 _ _ _ => 64 - (intOf s6).toNat)
  case atStart => exact ⟨4, by omega, by omega, rfl, hfit.1, HK2⟩
  case round =>
    obtain ⟨n, hn4, hn64, rfl, HN, HK⟩ := hrel
    by_cases hlt : n < 64
    · obtain ⟨wo, hwo⟩ : ∃ x, x = wr := ⟨_, rfl⟩
      subst hwo
      have hdn : decide ((n : Int) < 64) = true := decide_eq_true (by omega)
      go_wp2
      go_loopw [7, 8] (fun s7 s8 wq => ∃ k : Nat, k ≤ ids.length ∧ s8 = .int .i64 k ∧ s7 = .bool ((ids.take k).all fun o => apartB o id n) ∧ Hid (Kept [] (w.alloc (.cells (idC id) 24)) wq)) (fun _ s8 _ => ids.length - (intOf s8).toNat)
      case atStart => exact ⟨0, Nat.zero_le _, rfl, rfl, HK⟩
      case round =>
        clear HK
        obtain ⟨k, hk, rfl, rfl, HK⟩ := hrel
        have HKW : Hid (Kept [] w wr) := ((Kept.refl [] w).alloc _).then HK.out
        rcases hall : ((ids.take k).all fun o => apartB o id n) with _ | _
        · have HN1 : Hid (n + 1 ≤ sizeL ids id) := by
            have h : ¬ sizeL ids id ≤ n := by
              rw [sizeL_le id ids n hn4]
              intro hh
              have h2 : ((ids.take k).all fun o => apartB o id n) = true := List.all_eq_true.2 fun o ho => List.all_eq_true.1 hh o (List.mem_of_mem_take ho)
              rw [hall] at h2
              cases h2
            have : n + 1 ≤ sizeL ids id := (by omega)
            exact this
          clear hall
          by_cases hkl : k < ids.length
          all_goals go_wp2
          all_goals go_roundw
          all_goals first
            | exact ⟨n + 1, by omega, by omega, by go_num, HN1, HK⟩
            | (simp [intOf]; omega)
        · by_cases hkl : k < ids.length
          · obtain ⟨o, ho⟩ : ∃ o, ids[k]? = some o := ⟨_, List.getElem?_eq_getElem hkl⟩
            have hgo := HG.out o (List.mem_of_getElem? ho)
            obtain ⟨ao', cap', he, _, _, _, hc⟩ := HV.out w (Kept.refl _ _)
            injection he with e1 e2 e3
            subst e1 e3
            obtain ⟨b, off, rfl, hh⟩ := hc (by rintro rfl; simp at hkl)
            have hr := hh k o ho
            have hso : (Try.prog.info? 24).map (·.size) = some (o.map (Value.int .u8)).length := by rw [List.length_map, hgo.1]; exact Try.infoID
            have heqf : ∀ W, (Op.equalIn 10000 24 (.agg (o.map (Value.int .u8)).toArray) (.agg (id.map (Value.int .u8)).toArray)).run Try.prog W = .ok (decide (o = id)) W := fun W => idEq o id W hgo.1 HD.out.1
            have HAL : Hid (((ids.take (k + 1)).all fun o => apartB o id n) = apartB o id n) := by
              have h := all_take_succ ids (fun o => apartB o id n) k o ho
              rw [hall, Bool.true_and] at h
              exact h
            have hbeg : ∀ W, Calls Try.prog 14 #[.agg (o.map (Value.int .u8)).toArray, .string ((strOfNums (hexL id)).extract 0 n)] W fun e w' => e = .returned (.bool (decide (n ≤ comL o id))) ∧ Kept [] W w' := fun W => by
              have h := RBegins_any o ((hexL id).take n) W hgo (octs_take' (fun u hu => (hexL_mem id HD.out.2 u hu).2) n)
              rw [begB_com o id hgo.2 HD.out.2 n hn64, ← str_take] at h
              exact h
            have hn64i : (n : Int) ≤ 64 := by omega
            clear hall hc hh ho hgo
            have HEQ : Hid (o = id ∨ o ≠ id) := Classical.em _
            rcases HEQ.out with heq | heq
            · have hd : decide (o = id) = true := decide_eq_true heq
              rw [hd] at heqf
              have HAP : Hid (apartB o id n = true) := by unfold apartB; rw [hd]; rfl
              clear hd heq HEQ hbeg
              go_wp2_with fail
              refine region_quiet (Kept [] (w.alloc (.cells (idC id) 24))) (by kernel_rfl) (by kernel_rfl) HK.out.drew ?_
              refine quiet_move (by rfl) (.tmp 0) rfl (.slice (some ⟨b, off, none⟩) ids.length cap) rfl ?_
              simp only [Act.put, List.setIfInBounds_toArray, List.set_cons_zero, List.set_cons_succ]
              refine quiet_move (by rfl) (.tmp 8) rfl (.int .i64 k) rfl ?_
              simp only [Act.put, List.setIfInBounds_toArray, List.set_cons_zero, List.set_cons_succ]
              refine quiet_val (by rfl) (.pointer (some ⟨b, off + k * 32, none⟩)) (fun W => by go_simp) ?_
              simp only [Act.put, List.setIfInBounds_toArray, List.set_cons_zero, List.set_cons_succ]
              refine quiet_row (by rfl) _ _ rfl b (off + k * 32) rfl (o.map (Value.int .u8)) _ (fun W hW => range_kept hr (((Kept.refl [] w).alloc _).then hW) (by simp)) hun rfl hso ?_
              simp only [Act.put, List.setIfInBounds_toArray, List.set_cons_zero, List.set_cons_succ]
              refine quiet_row (by rfl) _ _ rfl w.heap.size 0 rfl (id.map (Value.int .u8)) _ HR.out hun rfl hsl ?_
              simp only [Act.put, List.setIfInBounds_toArray, List.set_cons_zero, List.set_cons_succ]
              refine quiet_eql (by rfl) (.tmp 27) (.tmp 28) _ rfl _ _ rfl rfl true heqf ?_
              simp only [Act.put, List.setIfInBounds_toArray, List.set_cons_zero, List.set_cons_succ]
              with_reducible refine wpQuiet_step ?_
              intro K hK
              rw [if_pos (by rfl)]
              refine ⟨.bool true, fun W _ => ⟨rfl, rfl⟩, hK _ ?_⟩
              clear hK K
              simp only [Act.put, List.setIfInBounds_toArray, List.set_cons_zero, List.set_cons_succ]
              with_reducible refine wpQuiet_step ?_
              intro K hK
              rw [if_neg (by go_simp)]
              refine hK _ ?_
              clear hK K
              simp only [Act.put, List.setIfInBounds_toArray, List.set_cons_zero, List.set_cons_succ]
              with_reducible refine wpQuiet_step ?_
              intro K hK
              rw [if_neg (by go_simp)]
              refine hK _ ?_
              clear hK K
              simp only [Act.put, List.setIfInBounds_toArray, List.set_cons_zero, List.set_cons_succ]
              with_reducible refine wpQuiet_step ?_
              intro K hK
              rw [if_neg (by go_simp)]
              refine hK _ ?_
              clear hK K
              simp only [Act.put, List.setIfInBounds_toArray, List.set_cons_zero, List.set_cons_succ]
              with_reducible refine wpQuiet_step ?_
              intro K hK
              rw [if_neg (by go_simp)]
              refine hK _ ?_
              clear hK K
              simp only [Act.put, List.setIfInBounds_toArray, List.set_cons_zero, List.set_cons_succ]
              with_reducible refine wpQuiet_step ?_
              intro K hK
              rw [if_neg (by go_simp)]
              refine hK _ ?_
              clear hK K
              simp only [Act.put, List.setIfInBounds_toArray, List.set_cons_zero, List.set_cons_succ]
              with_reducible refine wpQuiet_step ?_
              intro K hK
              rw [if_neg (by go_simp)]
              refine hK _ ?_
              clear hK K
              simp only [Act.put, List.setIfInBounds_toArray, List.set_cons_zero, List.set_cons_succ]
              with_reducible refine wpQuiet_step ?_
              intro K hK
              rw [if_neg (by go_simp)]
              refine hK _ ?_
              clear hK K
              simp only [Act.put, List.setIfInBounds_toArray, List.set_cons_zero, List.set_cons_succ]
              with_reducible refine wpQuiet_step ?_
              intro K hK
              rw [if_neg (by go_simp)]
              refine hK _ ?_
              clear hK K
              simp only [Act.put, List.setIfInBounds_toArray, List.set_cons_zero, List.set_cons_succ]
              with_reducible refine wpQuiet_step ?_
              intro K hK
              rw [if_neg (by go_simp)]
              refine hK _ ?_
              clear hK K
              simp only [Act.put, List.setIfInBounds_toArray, List.set_cons_zero, List.set_cons_succ]
              with_reducible refine wpQuiet_step ?_
              intro K hK
              rw [if_pos (by rfl)]
              refine ⟨.bool true, fun W _ => (by unfold Oper.quietAt; go_simp), hK _ ?_⟩
              clear hK K
              simp only [Act.put, List.setIfInBounds_toArray, List.set_cons_zero, List.set_cons_succ]
              with_reducible refine wpQuiet_step ?_
              intro K hK
              rw [if_pos (by rfl)]
              refine ⟨.bool true, fun W _ => ⟨rfl, rfl⟩, hK _ ?_⟩
              clear hK K
              simp only [Act.put, List.setIfInBounds_toArray, List.set_cons_zero, List.set_cons_succ]
              refine wpQuiet_nil fun w3 hk3 => ?_
              have HK3 : Hid _ := hk3
              clear hk3
              go_wp2
              go_roundw
              case rel => exact ⟨k + 1, by omega, by go_num, by rw [HAL.out, HAP.out], HK3⟩
              case measure => simp [intOf]; omega
            · have hd : decide (o = id) = false := decide_eq_false heq
              rw [hd] at heqf
              have HAP : Hid (apartB o id n = !decide (n ≤ comL o id)) := by unfold apartB; rw [hd]; rfl
              clear hd heq HEQ
              go_wp2_with fail
              refine region_quiet (Kept [] (w.alloc (.cells (idC id) 24))) (by kernel_rfl) (by kernel_rfl) HK.out.drew ?_
              refine quiet_move (by rfl) (.tmp 0) rfl (.slice (some ⟨b, off, none⟩) ids.length cap) rfl ?_
              simp only [Act.put, List.setIfInBounds_toArray, List.set_cons_zero, List.set_cons_succ]
              refine quiet_move (by rfl) (.tmp 8) rfl (.int .i64 k) rfl ?_
              simp only [Act.put, List.setIfInBounds_toArray, List.set_cons_zero, List.set_cons_succ]
              refine quiet_val (by rfl) (.pointer (some ⟨b, off + k * 32, none⟩)) (fun W => by go_simp) ?_
              simp only [Act.put, List.setIfInBounds_toArray, List.set_cons_zero, List.set_cons_succ]
              refine quiet_row (by rfl) _ _ rfl b (off + k * 32) rfl (o.map (Value.int .u8)) _ (fun W hW => range_kept hr (((Kept.refl [] w).alloc _).then hW) (by simp)) hun rfl hso ?_
              simp only [Act.put, List.setIfInBounds_toArray, List.set_cons_zero, List.set_cons_succ]
              refine quiet_row (by rfl) _ _ rfl w.heap.size 0 rfl (id.map (Value.int .u8)) _ HR.out hun rfl hsl ?_
              simp only [Act.put, List.setIfInBounds_toArray, List.set_cons_zero, List.set_cons_succ]
              refine quiet_eql (by rfl) (.tmp 27) (.tmp 28) _ rfl _ _ rfl rfl false heqf ?_
              simp only [Act.put, List.setIfInBounds_toArray, List.set_cons_zero, List.set_cons_succ]
              with_reducible refine wpQuiet_step ?_
              intro K hK
              rw [if_pos (by rfl)]
              refine ⟨.bool false, fun W _ => ⟨rfl, rfl⟩, hK _ ?_⟩
              clear hK K
              simp only [Act.put, List.setIfInBounds_toArray, List.set_cons_zero, List.set_cons_succ]
              with_reducible refine wpQuiet_step ?_
              intro K hK
              rw [if_pos (by go_simp)]
              refine ⟨.slice (some ⟨b, off, none⟩) ids.length cap, fun W _ => ⟨rfl, rfl⟩, hK _ ?_⟩
              clear hK K
              simp only [Act.put, List.setIfInBounds_toArray, List.set_cons_zero, List.set_cons_succ]
              with_reducible refine wpQuiet_step ?_
              intro K hK
              rw [if_pos (by go_simp)]
              refine ⟨.int .i64 k, fun W _ => ⟨rfl, rfl⟩, hK _ ?_⟩
              clear hK K
              simp only [Act.put, List.setIfInBounds_toArray, List.set_cons_zero, List.set_cons_succ]
              with_reducible refine wpQuiet_step ?_
              intro K hK
              rw [if_pos (by go_simp)]
              refine ⟨.pointer (some ⟨b, off + k * 32, none⟩), fun W _ => (by unfold Oper.quietAt; go_simp), hK _ ?_⟩
              clear hK K
              simp only [Act.put, List.setIfInBounds_toArray, List.set_cons_zero, List.set_cons_succ]
              with_reducible refine wpQuiet_step ?_
              intro K hK
              rw [if_pos (by go_simp)]
              refine row_at _ _ rfl b (off + k * 32) rfl (o.map (Value.int .u8)) _ (fun W hW => range_kept hr (((Kept.refl [] w).alloc _).then hW) (by simp)) hun rfl hso (hK _ ?_)
              clear hK K
              simp only [Act.put, List.setIfInBounds_toArray, List.set_cons_zero, List.set_cons_succ]
              with_reducible refine wpQuiet_step ?_
              intro K hK
              rw [if_pos (by go_simp)]
              refine ⟨.string (strOfNums (hexL id)), fun W _ => ⟨rfl, rfl⟩, hK _ ?_⟩
              clear hK K
              simp only [Act.put, List.setIfInBounds_toArray, List.set_cons_zero, List.set_cons_succ]
              with_reducible refine wpQuiet_step ?_
              intro K hK
              rw [if_pos (by go_simp)]
              refine ⟨.int .i64 n, fun W _ => ⟨rfl, rfl⟩, hK _ ?_⟩
              clear hK K
              simp only [Act.put, List.setIfInBounds_toArray, List.set_cons_zero, List.set_cons_succ]
              with_reducible refine wpQuiet_step ?_
              intro K hK
              rw [if_pos (by go_simp)]
              refine ⟨.string ((strOfNums (hexL id)).extract 0 n), fun W _ => (by unfold Oper.quietAt; go_simp), hK _ ?_⟩
              clear hK K
              simp only [Act.put, List.setIfInBounds_toArray, List.set_cons_zero, List.set_cons_succ]
              with_reducible refine wpQuiet_step ?_
              intro K hK
              rw [if_pos (by go_simp)]
              refine call_at 14 #[.agg (o.map (Value.int .u8)).toArray, .string ((strOfNums (hexL id)).extract 0 n)] (.bool (decide (n ≤ comL o id))) (fun W => by go_simp) (fun W hW => (hbeg W).mono fun e w' h => ⟨h.1, hW.then h.2⟩) (hK _ ?_)
              clear hK K
              simp only [Act.put, List.setIfInBounds_toArray, List.set_cons_zero, List.set_cons_succ]
              with_reducible refine wpQuiet_step ?_
              intro K hK
              rw [if_pos (by go_simp)]
              refine ⟨.bool (!decide (n ≤ comL o id)), fun W _ => (by unfold Oper.quietAt; go_simp), hK _ ?_⟩
              clear hK K
              simp only [Act.put, List.setIfInBounds_toArray, List.set_cons_zero, List.set_cons_succ]
              with_reducible refine wpQuiet_step ?_
              intro K hK
              rw [if_pos (by go_simp)]
              refine ⟨.bool (!decide (n ≤ comL o id)), fun W _ => (by unfold Oper.quietAt; go_simp), hK _ ?_⟩
              clear hK K
              simp only [Act.put, List.setIfInBounds_toArray, List.set_cons_zero, List.set_cons_succ]
              with_reducible refine wpQuiet_step ?_
              intro K hK
              rw [if_pos (by go_simp)]
              refine ⟨.bool (!decide (n ≤ comL o id)), fun W _ => ⟨rfl, rfl⟩, hK _ ?_⟩
              clear hK K
              simp only [Act.put, List.setIfInBounds_toArray, List.set_cons_zero, List.set_cons_succ]
              refine wpQuiet_nil fun w3 hk3 => ?_
              have HK3 : Hid _ := hk3
              clear hk3
              go_wp2
              go_roundw
              case rel => exact ⟨k + 1, by omega, by go_num, by rw [HAL.out, HAP.out], HK3⟩
              case measure => simp [intOf]; omega
          · have hfull : ids.take k = ids := List.take_of_length_le (by omega)
            rw [hfull] at hall
            have hs := (sizeL_le id ids n hn4).2 hall
            have HS : Hid (sizeL ids id = n) := by
              have h := HN.out
              have : sizeL ids id = n := (by omega)
              exact this
            clear hall hfull hs
            go_wp2
            go_ret
            refine ⟨?_, HKW.out⟩
            rw [HS.out, ← str_take]
            rfl
    · obtain rfl : n = 64 := by omega
      have e64 : ((64 : Nat) : Int) = 64 := rfl
      rw [e64]
      have HKW : Hid (Kept [] w wr) := ((Kept.refl [] w).alloc _).then HK.out
      have HS : Hid (sizeL ids id = 64) := by
        have h := HN.out
        have : sizeL ids id = 64 := (by omega)
        exact this
      go_wp2
      go_ret
      refine ⟨?_, HKW.out⟩
      rw [HS.out, List.take_of_length_le (by rw [hexL_len]; exact Nat.le_refl _)]
      rfl
end Go.Proofs.Ytonnapjbplknlaa
