/-
  WALK: object.readTag.
  WALKS: slices.Index, slices.Contains of ids; commits: (object.commit).fault.
  Commits; WALK: (object.commit).fault.
-/
import Derived.Test.YtnfbiemmdaenpaaDoorTag2
import Derived.Test.YtnfbiemmdaenpaaDoorOpenB
namespace Go.Proofs.YtnfbiemmdaenpaaDoor
open Go.RowKit

set_option maxRecDepth 100000 in
set_option maxHeartbeats 2000000 in
theorem readTag_any {w : World} {r g : Nat} {xs : List Int} {pl f : Nat} (R : Rdr w r g xs pl f) (y1 y2 y3 y4 y5 y6 : Took) (h1 : Hid (y1 = takeL xs pl f 3 32 0)) (h2 : Hid (y2 = takeL xs y1.pl y1.f 0 1 0)) (h3 : Hid (y3 = takeL xs y2.pl y2.f 2 0 255))
    (h4 : Hid (y4 = takeL xs y3.pl y3.f 2 0 255)) (h5 : Hid (y5 = takeL xs y4.pl y4.f 0 8 0)) (h6 : Hid (y6 = takeL xs y5.pl y5.f 2 0 4096)) :
    Calls Tryd.prog 47 #[.pointer (some ⟨r, 0, none⟩)] w fun e w' => e = .returned (.agg (TagL.mk (idOf y1.text) y2.n y3.text y4.text y5.n y6.text).row.toArray) ∧ Rdr w' r g xs y6.pl y6.f ∧ Kept [r] w w' := by
  have hl1 : (idOf y1.text).length = 32 := by rw [h1.out]; exact idOf_len (raw32_len _ _ _)
  have hb2 : 0 ≤ y2.n ∧ y2.n < 256 := by rw [h2.out]; exact take_lt xs R.oct _ _ 1
  have C1 : Hid (∀ W, Rdr W r g xs pl f → Calls Tryd.prog 60 #[.pointer (some ⟨r, 0, none⟩)] W fun e w' => e = .returned (.agg (idC (idOf y1.text))) ∧ Rdr w' r g xs y1.pl y1.f ∧ Kept [r] W w') := fun W hW => readID_any hW y1 h1
  have C2 : Hid (∀ W, Rdr W r g xs y1.pl y1.f → Calls Tryd.prog 42 #[.pointer (some ⟨r, 0, none⟩)] W fun e w' => e = .returned (.int .u8 y2.n) ∧ Rdr w' r g xs y2.pl y2.f ∧ Kept [r] W w') := fun W hW => U8_any hW y2 h2
  have C3 : Hid (∀ W, Rdr W r g xs y2.pl y2.f → Calls Tryd.prog 59 #[.pointer (some ⟨r, 0, none⟩), .int .i64 255] W fun e w' => e = .returned (.string (strOfNums y3.text)) ∧ Rdr w' r g xs y3.pl y3.f ∧ Kept [r] W w') := fun W hW => readText_any hW 255 (by decide) (by decide) y3 h3
  have C4 : Hid (∀ W, Rdr W r g xs y3.pl y3.f → Calls Tryd.prog 59 #[.pointer (some ⟨r, 0, none⟩), .int .i64 255] W fun e w' => e = .returned (.string (strOfNums y4.text)) ∧ Rdr w' r g xs y4.pl y4.f ∧ Kept [r] W w') := fun W hW => readText_any hW 255 (by decide) (by decide) y4 h4
  have C5 : Hid (∀ W, Rdr W r g xs y4.pl y4.f → Calls Tryd.prog 61 #[.pointer (some ⟨r, 0, none⟩)] W fun e w' => e = .returned (.int .u64 y5.n) ∧ Rdr w' r g xs y5.pl y5.f ∧ Kept [r] W w') := fun W hW => U64_any hW y5 h5
  have C6 : Hid (∀ W, Rdr W r g xs y5.pl y5.f → Calls Tryd.prog 59 #[.pointer (some ⟨r, 0, none⟩), .int .i64 4096] W fun e w' => e = .returned (.string (strOfNums y6.text)) ∧ Rdr w' r g xs y6.pl y6.f ∧ Kept [r] W w') := fun W hW => readText_any hW 4096 (by decide) (by decide) y6 h6
  have hrl := lt_of_block R.blk
  have hgl := lt_of_block R.row
  have HRa : Hid (Rdr (w.alloc (.cells zeroG.row.toArray 83)) r g xs pl f) := R.alloc _
  have HZ : Hid ((w.alloc (.cells zeroG.row.toArray 83)).heap[w.heap.size]? = some (.cells zeroG.row.toArray 83 (0, 0))) := heap_alloc_new w _
  have HKa : Hid (Kept [r] w (w.alloc (.cells zeroG.row.toArray 83))) := (Kept.refl _ _).alloc _
  have hbt := built_tag (idOf y1.text) hl1
  have hone1 : (TagL.mk (idOf y1.text) 0 [] [] 0 []).row.toArray.all (·.oneCell') = true := tag_one _
  have hone6 : (TagL.mk (idOf y1.text) y2.n y3.text y4.text y5.n y6.text).row.toArray.all (·.oneCell') = true := tag_one _
  have hs1 : (Tryd.prog.info? 83).map (·.size) = some (TagL.mk (idOf y1.text) 0 [] [] 0 []).row.toArray.size := by rw [tag_len _ hl1]; kernel_rfl
  have hs6 : (Tryd.prog.info? 83).map (·.size) = some (TagL.mk (idOf y1.text) y2.n y3.text y4.text y5.n y6.text).row.toArray.size := by rw [tag_len _ hl1]; kernel_rfl
  have hz1 : (TagL.mk (idOf y1.text) 0 [] [] 0 []).row.toArray.size = 37 := tag_len _ hl1
  have hz6 : zeroG.row.toArray.size = (TagL.mk (idOf y1.text) y2.n y3.text y4.text y5.n y6.text).row.toArray.size := by rw [tag_len (TagL.mk (idOf y1.text) y2.n y3.text y4.text y5.n y6.text) hl1]; rfl
  clear R h1 h2 h3 h4 h5 h6
  go_enter Tryd.func47, Tryd.ntmps47
  go_wp2_with (first
    | (go_at_call 60; refine (C1.out _ HRa.out).mono ?_; rintro e w1 ⟨rfl, hr1, hk1⟩
       have HZ1 : Hid (w1.heap[w.heap.size]? = some (.cells zeroG.row.toArray 83 (0, 0))) := hk1.heap HZ.out (by simp; omega)
       have HR1 : Hid (Rdr w1 r g xs y1.pl y1.f) := hr1
       have HK1 : Hid (Kept [r] (w.alloc (.cells zeroG.row.toArray 83)) w1) := hk1
       clear hr1 hk1)
    | (refine wpList_build_some (by rfl) 83 _ (by rfl) (TagL.mk (idOf y1.text) 0 [] [] 0 []).row.toArray (by simp; exact hbt) ?_)
    | (refine wpList_store_new (by rfl) 83 (.tmp 3) (.tmp 6) (by rfl) w1 _ (TagL.mk (idOf y1.text) 0 [] [] 0 []).row.toArray (by rfl) (by rfl) hs1 (by rw [hz1]; rfl) hone1 ?_
       have HV1 : Hid (RV w (w1.alloc (.cells (TagL.mk (idOf y1.text) 0 [] [] 0 []).row.toArray 83)) r g xs y1.pl y1.f w.heap.size w1.heap.size zeroG.row.toArray (TagL.mk (idOf y1.text) 0 [] [] 0 []).row.toArray 83) :=
         ⟨HR1.out.alloc _, (Below.heap_alloc _ _ _ (lt_of_block HZ1.out)).trans HZ1.out, heap_alloc_new w1 _, (HKa.out.then HK1.out).alloc _, Nat.le_refl _, lt_of_block HZ1.out, hrl, hgl⟩)
    | (go_at_call 42; (with_reducible refine (C2.out _ HV1.out.rd).mono ?_); rintro e w2 ⟨rfl, hr2, hk2⟩
       have hv2 := HV1.out.step hr2 hk2
       have d2 := (tag_cells (b := w1.heap.size) (t := TagL.mk (idOf y1.text) 0 [] [] 0 []) hl1 hv2.v1).2.1
       have f2 := frozen_of_row _ _ 32 _ _ hv2.v1
       have HV2 : Hid (RV w (w2.setCell ⟨w1.heap.size, 32, none⟩ (.int .i64 y2.n)) r g xs y2.pl y2.f w.heap.size w1.heap.size zeroG.row.toArray (TagL.mk (idOf y1.text) y2.n [] [] 0 []).row.toArray 83) := by
         have h := hv2.set 32 (.int .i64 y2.n)
         rw [(tag_set (TagL.mk (idOf y1.text) 0 [] [] 0 []) hl1).1] at h
         exact h
       clear hr2 hk2 hv2)
    | (go_at_call 59; (with_reducible refine (C3.out _ HV2.out.rd).mono ?_); rintro e w3 ⟨rfl, hr3, hk3⟩
       have hv3 := HV2.out.step hr3 hk3
       have d3 := (tag_cells (b := w1.heap.size) (t := TagL.mk (idOf y1.text) y2.n [] [] 0 []) hl1 hv3.v1).2.2.1
       have f3 := frozen_of_row _ _ 33 _ _ hv3.v1
       have HV3 : Hid (RV w (w3.setCell ⟨w1.heap.size, 33, none⟩ (.string (strOfNums y3.text))) r g xs y3.pl y3.f w.heap.size w1.heap.size zeroG.row.toArray (TagL.mk (idOf y1.text) y2.n y3.text [] 0 []).row.toArray 83) := by
         have h := hv3.set 33 (.string (strOfNums y3.text))
         rw [(tag_set (TagL.mk (idOf y1.text) y2.n [] [] 0 []) hl1).2.1] at h
         exact h
       clear hr3 hk3 hv3)
    | (go_at_call 59; (with_reducible refine (C4.out _ HV3.out.rd).mono ?_); rintro e w4 ⟨rfl, hr4, hk4⟩
       have hv4 := HV3.out.step hr4 hk4
       have d4 := (tag_cells (b := w1.heap.size) (t := TagL.mk (idOf y1.text) y2.n y3.text [] 0 []) hl1 hv4.v1).2.2.2.1
       have f4 := frozen_of_row _ _ 34 _ _ hv4.v1
       have HV4 : Hid (RV w (w4.setCell ⟨w1.heap.size, 34, none⟩ (.string (strOfNums y4.text))) r g xs y4.pl y4.f w.heap.size w1.heap.size zeroG.row.toArray (TagL.mk (idOf y1.text) y2.n y3.text y4.text 0 []).row.toArray 83) := by
         have h := hv4.set 34 (.string (strOfNums y4.text))
         rw [(tag_set (TagL.mk (idOf y1.text) y2.n y3.text [] 0 []) hl1).2.2.1] at h
         exact h
       clear hr4 hk4 hv4)
    | (go_at_call 61; (with_reducible refine (C5.out _ HV4.out.rd).mono ?_); rintro e w5 ⟨rfl, hr5, hk5⟩
       have hv5 := HV4.out.step hr5 hk5
       have d5 := (tag_cells (b := w1.heap.size) (t := TagL.mk (idOf y1.text) y2.n y3.text y4.text 0 []) hl1 hv5.v1).2.2.2.2.1
       have f5 := frozen_of_row _ _ 35 _ _ hv5.v1
       have HV5 : Hid (RV w (w5.setCell ⟨w1.heap.size, 35, none⟩ (.int .u64 y5.n)) r g xs y5.pl y5.f w.heap.size w1.heap.size zeroG.row.toArray (TagL.mk (idOf y1.text) y2.n y3.text y4.text y5.n []).row.toArray 83) := by
         have h := hv5.set 35 (.int .u64 y5.n)
         rw [(tag_set (TagL.mk (idOf y1.text) y2.n y3.text y4.text 0 []) hl1).2.2.2.1] at h
         exact h
       clear hr5 hk5 hv5)
    | (go_at_call 59; (with_reducible refine (C6.out _ HV5.out.rd).mono ?_); rintro e w6 ⟨rfl, hr6, hk6⟩
       have hv6 := HV5.out.step hr6 hk6
       have d6 := (tag_cells (b := w1.heap.size) (t := TagL.mk (idOf y1.text) y2.n y3.text y4.text y5.n []) hl1 hv6.v1).2.2.2.2.2
       have f6 := frozen_of_row _ _ 36 _ _ hv6.v1
       have HV6 : Hid (RV w (w6.setCell ⟨w1.heap.size, 36, none⟩ (.string (strOfNums y6.text))) r g xs y6.pl y6.f w.heap.size w1.heap.size zeroG.row.toArray (TagL.mk (idOf y1.text) y2.n y3.text y4.text y5.n y6.text).row.toArray 83) := by
         have h := hv6.set 36 (.string (strOfNums y6.text))
         rw [(tag_set (TagL.mk (idOf y1.text) y2.n y3.text y4.text y5.n []) hl1).2.2.2.2] at h
         exact h
       clear hr6 hk6 hv6)
    | (refine wpList_load_row (by rfl) 83 (.tmp 3) (by rfl) w1.heap.size (by rfl) 83 (TagL.mk (idOf y1.text) y2.n y3.text y4.text y5.n y6.text).row.toArray (0, 0) _ HV6.out.v1 Tryd.underlying83 rfl hs6 ?_)
    | (refine wpList_store_row (by rfl) 83 (.tmp 2) (.tmp 23) (by rfl) w.heap.size (TagL.mk (idOf y1.text) y2.n y3.text y4.text y5.n y6.text).row.toArray (by rfl) (by rfl) 83 _ HV6.out.v0 hs6 hz6 hone6 ?_))
  refine bodyPost_ret (v := .agg (TagL.mk (idOf y1.text) y2.n y3.text y4.text y5.n y6.text).row.toArray) ?_ rfl ⟨rfl, ?_, ?_⟩
  · rw [results_cell1 rfl]
    have hld := run_loadVar_row (P := Tryd.prog) ((w6.setCell ⟨w1.heap.size, 36, none⟩ (.string (strOfNums y6.text))).setRow w.heap.size (TagL.mk (idOf y1.text) y2.n y3.text y4.text y5.n y6.text).row.toArray) w.heap.size 83 83 (TagL.mk (idOf y1.text) y2.n y3.text y4.text y5.n y6.text).row.toArray (0, 0) _ (setRow_heap _ _ _ _ _ _ HV6.out.v0) Tryd.underlying83 rfl hs6
    exact hld
  · exact HV6.out.rd.below (below_setRow (Below.refl w.heap.size _) (Nat.le_refl _) _) hrl hgl
  · exact kept_below HV6.out.keep (below_setRow (Below.refl w.heap.size _) (Nat.le_refl _) _) (Nat.le_refl _)
end Go.Proofs.YtnfbiemmdaenpaaDoor

namespace Go.Proofs.YtnfbiemmdaenpaaDoor
open Go.RowKit

set_option maxRecDepth 100000 in
set_option maxHeartbeats 1000000 in
theorem Contains_ids (v : Value) (ids : List (List Int)) (id : List Int) (w : World) (hv : IdsAt w v ids) (hg : ∀ o, o ∈ ids → GoodID o) (hid : GoodID id) :
    Calls Tryd.prog 114 #[v, .agg (idC id)] w fun e w' => (∃ n : Int, e = .returned (.int .i64 n) ∧ -1 ≤ n ∧ decide (0 ≤ n) = decide (id ∈ ids)) ∧ Kept [] w w' := by
  have hsl : (Tryd.prog.info? 25).map (·.size) = some (id.map (Value.int .u8)).length := by rw [List.length_map, hid.1]; exact Tryd.infoID
  have HR : Hid (∀ W, Kept [] (w.alloc (.cells (idC id) 25)) W → W.rangeAt w.heap.size 0 (id.map (Value.int .u8))) := fun W k => range_kept (range_box w id 25) k (by simp)
  have HV : Hid (∀ W, Kept [] w W → IdsAt W v ids) := fun W k => hv.keep k (fun _ _ _ => by simp)
  have HG : Hid (∀ o, o ∈ ids → GoodID o) := hg
  have HD : Hid (GoodID id) := hid
  have hun := Tryd.underlying25
  obtain ⟨ao, cap, rfl, hcap, _, hlen, _⟩ := hv
  clear hg hid
  go_enter Tryd.func114, Tryd.ntmps114
  go_wp2
  go_loopw [5, 8] (fun _ s8 wr => ∃ k : Nat, k ≤ ids.length ∧ s8 = .int .i64 k ∧ Hid (∀ (i : Nat) (o : List Int), ids[i]? = some o → i < k → o ≠ id) ∧ Hid (Kept [] (w.alloc (.cells (idC id) 25)) wr)) (fun _ s8 _ => ids.length - (intOf s8).toNat)
  case atStart => exact ⟨0, Nat.zero_le _, rfl, fun i o _ h => absurd h (by omega), Kept.refl _ _⟩
  case round =>
    obtain ⟨k, hk, rfl, HN, HK⟩ := hrel
    by_cases hlt : k < ids.length
    · obtain ⟨o, ho⟩ : ∃ o, ids[k]? = some o := ⟨_, List.getElem?_eq_getElem hlt⟩
      have hgo := HG.out o (List.mem_of_getElem? ho)
      obtain ⟨ao', cap', he, _, _, _, hc⟩ := HV.out w (Kept.refl _ _)
      injection he with e1 e2 e3
      subst e1 e3
      obtain ⟨b, off, rfl, hh⟩ := hc (by rintro rfl; simp at hlt)
      have hr := hh k o ho
      have hso : (Tryd.prog.info? 25).map (·.size) = some (o.map (Value.int .u8)).length := by rw [List.length_map, hgo.1]; exact Tryd.infoID
      have heqf : ∀ W, (Op.equalIn 10000 25 (.agg (id.map (Value.int .u8)).toArray) (.agg (o.map (Value.int .u8)).toArray)).run Tryd.prog W = .ok (decide (id = o)) W := fun W => idEq id o W HD.out.1 hgo.1
      have HR1 : Hid (∀ W, Kept [] (w.alloc (.cells (idC id) 25)) W → W.rangeAt b (off + k * 32) (o.map (Value.int .u8))) := fun W hW => range_kept hr (((Kept.refl [] w).alloc _).then hW) (by simp)
      have HKW : Hid (∀ W, Kept [] (w.alloc (.cells (idC id) 25)) W → Kept [] w W) := fun W hW => ((Kept.refl [] w).alloc _).then hW
      clear hh hc hgo hr
      go_wp2_with fail
      refine region_quiet (Kept [] (w.alloc (.cells (idC id) 25))) (by kernel_rfl) (by kernel_rfl) HK.out.drew ?_
      refine quiet_row (by rfl) _ _ rfl w.heap.size 0 rfl (id.map (Value.int .u8)) _ HR.out hun rfl hsl ?_
      simp only [Act.put, List.setIfInBounds_toArray, List.set_cons_zero, List.set_cons_succ]
      refine quiet_move (by rfl) (.tmp 0) rfl (.slice (some ⟨b, off, none⟩) ids.length cap) rfl ?_
      simp only [Act.put, List.setIfInBounds_toArray, List.set_cons_zero, List.set_cons_succ]
      refine quiet_move (by rfl) (.tmp 5) rfl (.int .i64 k) rfl ?_
      simp only [Act.put, List.setIfInBounds_toArray, List.set_cons_zero, List.set_cons_succ]
      refine quiet_val (by rfl) (.pointer (some ⟨b, off + k * 32, none⟩)) (fun W => by go_simp) ?_
      simp only [Act.put, List.setIfInBounds_toArray, List.set_cons_zero, List.set_cons_succ]
      refine quiet_row (by rfl) _ _ rfl b (off + k * 32) rfl (o.map (Value.int .u8)) _ HR1.out hun rfl hso ?_
      simp only [Act.put, List.setIfInBounds_toArray, List.set_cons_zero, List.set_cons_succ]
      refine quiet_eql (by rfl) (.tmp 11) (.tmp 15) _ rfl _ _ rfl rfl (decide (id = o)) heqf ?_
      simp only [Act.put, List.setIfInBounds_toArray, List.set_cons_zero, List.set_cons_succ]
      refine wpQuiet_nil fun w3 hk3 => ?_
      have HK3 : Hid (Kept [] (w.alloc (.cells (idC id) 25)) w3) := hk3
      have HF3 : Hid (Kept [] w w3) := HKW.out w3 hk3
      clear hk3 heqf HR1
      by_cases hio : id = o
      · have hd : decide (id = o) = true := decide_eq_true hio
        rw [hd]
        have HM : Hid (decide (id ∈ ids) = true) := decide_eq_true (by rw [hio]; exact List.mem_of_getElem? ho)
        clear hio hd ho
        go_wp2
        go_ret
        exact ⟨⟨(k : Int), rfl, by omega, by rw [HM.out]; exact decide_eq_true (by omega)⟩, HF3.out⟩
      · have hd : decide (id = o) = false := decide_eq_false hio
        rw [hd]
        have HN' : Hid (∀ (i : Nat) (o : List Int), ids[i]? = some o → i < k + 1 → o ≠ id) := fun i x hx hi => by
          by_cases hik : i = k
          · subst hik
            rw [ho] at hx
            cases hx
            exact Ne.symm hio
          · exact HN.out i x hx (by omega)
        clear hio hd ho
        go_wp2
        go_roundw
        case rel => exact ⟨k + 1, by omega, by go_num, HN', HK3⟩
        case measure => simp [intOf]; omega
    · have HM : Hid (decide (id ∈ ids) = false) := decide_eq_false fun hm => by
        obtain ⟨i, hi, he⟩ := List.getElem_of_mem hm
        exact HN.out i id (by rw [List.getElem?_eq_getElem hi, he]) (by omega) rfl
      have HF3 : Hid (Kept [] w wr) := ((Kept.refl [] w).alloc _).then HK.out
      go_wp2
      go_ret
      exact ⟨⟨-1, rfl, by omega, by rw [HM.out]; rfl⟩, HF3.out⟩

set_option maxRecDepth 100000 in
set_option maxHeartbeats 1000000 in
theorem ContainsIDs_any (v : Value) (ids : List (List Int)) (id : List Int) (w : World) (hv : IdsAt w v ids) (hg : ∀ o, o ∈ ids → GoodID o) (hid : GoodID id) :
    Calls Tryd.prog 111 #[v, .agg (idC id)] w fun e w' => e = .returned (.bool (decide (id ∈ ids))) ∧ Kept [] w w' := by
  have hk0 : Kept [] w (w.alloc (.cells (idC id) 25)) := (Kept.refl _ _).alloc _
  have hcall := Contains_ids v ids id (w.alloc (.cells (idC id) 25)) (hv.keep hk0 (fun _ _ _ => by simp)) hg hid
  have hsz : (Tryd.prog.info? 25).map (·.size) = some (idC id).size := by rw [idC_size hid.1]; exact Tryd.infoID
  have HB : Hid ((w.alloc (.cells (idC id) 25)).heap[w.heap.size]? = some (.cells (idC id) 25 (0, 0))) := heap_alloc_new w _
  obtain ⟨ao, cap, rfl, _⟩ := hv
  clear hg hid
  generalize idC id = ic at *
  go_enter Tryd.func111, Tryd.ntmps111
  go_wp2_with (first
    | (refine wpList_load_row (by rfl) 25 (.tmp 3) (by rfl) w.heap.size (by rfl) 25 ic (0, 0) _ HB.out Tryd.underlying25 rfl hsz ?_)
    | (go_at_call 114; refine hcall.mono ?_; rintro e w2 ⟨⟨n, rfl, hn, hd⟩, hk2⟩
       have HK2 : Hid (Kept [] w w2) := hk0.then hk2
       have HD : Hid _ := hd
       clear hk2 hd))
  go_ret
  exact ⟨by rw [← HD.out]; rfl, HK2.out⟩
end Go.Proofs.YtnfbiemmdaenpaaDoor

namespace Go.Proofs.YtnfbiemmdaenpaaDoor
open Go.RowKit

structure ComL where
  tree : List Int
  parents : List (List Int)
  who : List Int
  time : Int
  text : List Int
def ComL.row (c : ComL) (pv : Value) : List Value := c.tree.map (Value.int .u8) ++ [pv, .string (strOfNums c.who), .int .u64 c.time, .string (strOfNums c.text)]
structure ComL.Good (c : ComL) : Prop where
  tree : GoodID c.tree
  parents : ∀ o, o ∈ c.parents → GoodID o
  who : GoodText c.who
  t0 : 0 ≤ c.time
  t1 : c.time ≤ 18446744073709551615
  text : GoodText c.text
theorem com_cells {w : World} {b : Nat} {c : ComL} {pv : Value} {ty : TypeId} {fr : Nat × Nat} (hl : c.tree.length = 32) (h : w.heap[b]? = some (.cells (c.row pv).toArray ty fr)) :
    w.rangeAt b 0 (c.tree.map (Value.int .u8)) ∧ w.cell? ⟨b, 32, none⟩ = some pv ∧ w.cell? ⟨b, 33, none⟩ = some (.string (strOfNums c.who)) ∧ w.cell? ⟨b, 34, none⟩ = some (.int .u64 c.time) ∧ w.cell? ⟨b, 35, none⟩ = some (.string (strOfNums c.text)) := by
  have hr := row_range h
  have hlm : (c.tree.map (Value.int .u8)).length = 32 := by rw [List.length_map, hl]
  have key : ∀ j v, [pv, Value.string (strOfNums c.who), .int .u64 c.time, .string (strOfNums c.text)][j]? = some v → w.cell? ⟨b, 32 + j, none⟩ = some v := fun j v hj => by
    have := hr (32 + j) v (by unfold ComL.row; rw [List.getElem?_append_right (by omega), hlm, Nat.add_sub_cancel_left]; exact hj)
    rwa [Nat.zero_add] at this
  refine ⟨fun j v hj => hr j v ?_, key 0 _ rfl, key 1 _ rfl, key 2 _ rfl, key 3 _ rfl⟩
  unfold ComL.row
  rw [List.getElem?_append_left (List.getElem?_eq_some_iff.1 hj).1]
  exact hj
theorem IdsAt.front {w : World} {ao : Option Addr} {n cap : Nat} {ids : List (List Int)} (h : IdsAt w (.slice ao n cap) ids) (k : Nat) (hk : k ≤ ids.length) : IdsAt w (.slice ao k cap) (ids.take k) := by
  obtain ⟨ao', cap', he, h1, h0, h2, hc⟩ := h
  injection he with e1 e2 e3
  subst e1 e3
  have hl : (ids.take k).length = k := by rw [List.length_take]; omega
  refine ⟨ao, cap, by rw [hl], by omega, h0, by omega, fun hne => ?_⟩
  obtain ⟨b, off, hb, hh⟩ := hc (by rintro rfl; simp at hne)
  refine ⟨b, off, hb, fun i xs hi => hh i xs ?_⟩
  have hik : i < k := by have := (List.getElem?_eq_some_iff.1 hi).1; omega
  rwa [List.getElem?_take_of_lt hik] at hi

def dupB (ids : List (List Int)) : Bool := (List.range ids.length).any fun i => decide ((ids[i]?.getD []) ∈ ids.take i)
def faultC (c : ComL) : Int := if 8 < c.parents.length then 35 else if dupB c.parents = true then 36 else if signB c.who c.time c.text = false then 36 else 0

set_option maxRecDepth 100000 in
set_option maxHeartbeats 2000000 in
theorem comFault_any (c : ComL) (pv : Value) (w : World) (hT : Tabs w) (hp : IdsAt w pv c.parents) (hg : c.Good) :
    Calls Tryd.prog 109 #[.agg (c.row pv).toArray] w fun e w' => e = .returned (.int .i64 (faultC c)) ∧ Kept [] w w' := by
  have HK0 : Hid (Kept [] w (w.alloc (.cells (c.row pv).toArray 82))) := (Kept.refl _ _).alloc _
  have HB : Hid ((w.alloc (.cells (c.row pv).toArray 82)).heap[w.heap.size]? = some (.cells (c.row pv).toArray 82 (0, 0))) := heap_alloc_new w _
  have HTC : Hid (∀ W : World, W.heap[w.heap.size]? = some (.cells (c.row pv).toArray 82 (0, 0)) → W.cell? ⟨w.heap.size, 32, none⟩ = some pv ∧ W.cell? ⟨w.heap.size, 33, none⟩ = some (.string (strOfNums c.who)) ∧ W.cell? ⟨w.heap.size, 34, none⟩ = some (.int .u64 c.time) ∧ W.cell? ⟨w.heap.size, 35, none⟩ = some (.string (strOfNums c.text))) := fun W hW => (com_cells hg.tree.1 hW).2
  have HSG : Hid (∀ W, Kept [] w W → Calls Tryd.prog 112 #[.string (strOfNums c.who), .int .u64 c.time, .string (strOfNums c.text)] W fun e w' => e = .returned (.int .i64 (if signB c.who c.time c.text = false then 36 else 0)) ∧ Kept [] W w') := fun W hW => signFault_any c.who c.time c.text W (hT.kept hW) hg.who hg.t0 hg.t1
  have HV : Hid (∀ W, Kept [] w W → IdsAt W pv c.parents) := fun W k => hp.keep k (fun _ _ _ => by simp)
  have HG : Hid (∀ o, o ∈ c.parents → GoodID o) := hg.parents
  have hun := Tryd.underlying25
  obtain ⟨ao, cap, rfl, hcap, _, hlen, _⟩ := hp
  obtain ⟨c1, c2, c3, c4⟩ := HTC.out _ HB.out
  obtain ⟨rv, hrv⟩ : ∃ rv : Int, rv = faultC c := ⟨_, rfl⟩
  rw [← hrv]
  obtain ⟨sv, hsv⟩ : ∃ sv : Int, sv = if signB c.who c.time c.text = false then 36 else 0 := ⟨_, rfl⟩
  have HRV : Hid (rv = if 8 < c.parents.length then 35 else if dupB c.parents = true then 36 else sv) := by rw [hsv]; exact hrv
  rw [← hsv] at HSG
  clear hrv hsv hg hT
  generalize (c.row (.slice ao c.parents.length cap)).toArray = tr at *
  generalize strOfNums c.who = sw at *
  generalize strOfNums c.text = st at *
  generalize c.time = tm at *
  generalize c.parents = ids at *
  by_cases hm : 8 < ids.length
  · have hd : decide (8 < (ids.length : Int)) = true := decide_eq_true (by omega)
    have HR : Hid (rv = 35) := by have h := HRV.out; rw [if_pos hm] at h; exact h
    go_enter Tryd.func109, Tryd.ntmps109
    go_wp2
    go_ret
    exact ⟨by rw [HR.out]; rfl, HK0.out⟩
  · have hd8 : decide (8 < (ids.length : Int)) = false := decide_eq_false (by omega)
    have HR : Hid (rv = if dupB ids = true then 36 else sv) := by have h := HRV.out; rw [if_neg hm] at h; exact h
    clear HRV
    go_enter Tryd.func109, Tryd.ntmps109
    go_wp2
    go_loopw [3, 4, 12] (fun _ _ s12 wr => ∃ k : Nat, k ≤ ids.length ∧ s12 = .int .i64 k ∧ Hid (∀ (i : Nat), i < k → decide ((ids[i]?.getD []) ∈ ids.take i) = false) ∧ Hid (wr.heap[w.heap.size]? = some (.cells tr 82 (0, 0))) ∧ Hid (Kept [] w wr)) (fun _ _ s12 _ => ids.length - (intOf s12).toNat)
    case atStart => exact ⟨0, Nat.zero_le _, rfl, fun i h => absurd h (by omega), HB, HK0⟩
    case round =>
      obtain ⟨k, hk, rfl, HN, HBx, HK⟩ := hrel
      obtain ⟨x1, x2, x3, x4⟩ := HTC.out wr HBx.out
      by_cases hlt : k < ids.length
      · obtain ⟨o, ho⟩ : ∃ o, ids[k]? = some o := ⟨_, List.getElem?_eq_getElem hlt⟩
        have hgo := HG.out o (List.mem_of_getElem? ho)
        obtain ⟨ao', cap', he, _, _, _, hc⟩ := HV.out wr HK.out
        injection he with e1 e2 e3
        subst e1 e3
        obtain ⟨b, off, rfl, hh⟩ := hc (by rintro rfl; simp at hlt)
        have hr := hh k o ho
        have hso : (Tryd.prog.info? 25).map (·.size) = some (o.map (Value.int .u8)).length := by rw [List.length_map, hgo.1]; exact Tryd.infoID
        have hsoc : (Tryd.prog.info? 25).map (·.size) = some (idC o).size := by rw [idC_size hgo.1]; exact Tryd.infoID
        have hao : (idC o).all (·.oneCell') = true := all_oneCell_toArray (map_oneCell _)
        have ho32 : (idC o).size = 32 := idC_size hgo.1
        have hoc : (o.map (Value.int .u8)).toArray = idC o := rfl
        have hbw := lt_of_block HBx.out
        have HKA : Hid (Kept [] wr (wr.alloc (.cells (idC o) 25))) := (Kept.refl _ _).alloc _
        have HRo : Hid (∀ W, Kept [] (wr.alloc (.cells (idC o) 25)) W → W.rangeAt wr.heap.size 0 (o.map (Value.int .u8))) := fun W hW => range_kept (range_box wr o 25) hW (by simp)
        have HC1 : Hid (∀ W, Kept [] (wr.alloc (.cells (idC o) 25)) W → W.cell? ⟨w.heap.size, 32, none⟩ = some (.slice (some ⟨b, off, none⟩) ids.length cap)) := fun W hW => hW.cell (HKA.out.cell x1 (by simp)) (by simp)
        have HCT : Hid (∀ W, Kept [] (wr.alloc (.cells (idC o) 25)) W → Calls Tryd.prog 111 #[.slice (some ⟨b, off, none⟩) k cap, .agg (o.map (Value.int .u8)).toArray] W fun e w' => e = .returned (.bool (decide (o ∈ ids.take k))) ∧ Kept [] W w') := fun W hW => ContainsIDs_any _ (ids.take k) o W (IdsAt.front (HV.out W (HK.out.then (HKA.out.then hW))) k (by omega)) (fun x hx => HG.out x (List.mem_of_mem_take hx)) hgo
        have HX : Hid (∀ W, Kept [] (wr.alloc (.cells (idC o) 25)) W → W.heap[w.heap.size]? = some (.cells tr 82 (0, 0)) ∧ Kept [] w W) := fun W hW => ⟨hW.heap (HKA.out.heap HBx.out (by simp)) (by simp), HK.out.then (HKA.out.then hW)⟩
        have HOD : Hid (ids[k]?.getD [] = o) := by rw [ho]; exact rfl
        clear hh hc ho hgo
        generalize hoi : idC o = oc at *
        go_wp2_with (first
          | (refine wpList_load_mid (by rfl) 25 (.tmp 15) (by rfl) b (off + k * 32) (by rfl) (o.map (Value.int .u8)) _ hr hun rfl hso ?_; rw [hoc])
          | (refine wpList_store_new (by rfl) 25 (.tmp 4) (.tmp 16) (by rfl) wr _ oc (by rfl) (by rfl) hsoc (by rw [ho32]; rfl) hao ?_)
          | fail)
        refine region_quiet (Kept [] (wr.alloc (.cells oc 25))) (by kernel_rfl) (by kernel_rfl) (Kept.refl [] _).drew ?_
        refine quiet_val (by rfl) (.pointer (some ⟨w.heap.size, 32, none⟩)) (fun W => by go_simp) ?_
        simp only [Act.put, List.setIfInBounds_toArray, List.set_cons_zero, List.set_cons_succ]
        refine valC (by rfl) (.slice (some ⟨b, off, none⟩) ids.length cap) (fun W hW => by have hcc := HC1.out W hW; go_simp) ?_
        simp only [Act.put, List.setIfInBounds_toArray, List.set_cons_zero, List.set_cons_succ]
        refine quiet_move (by rfl) (.tmp 3) rfl (.int .i64 k) rfl ?_
        simp only [Act.put, List.setIfInBounds_toArray, List.set_cons_zero, List.set_cons_succ]
        refine quiet_val (by rfl) (.slice (some ⟨b, off, none⟩) k cap) (fun W => by go_simp; intro h; omega) ?_
        simp only [Act.put, List.setIfInBounds_toArray, List.set_cons_zero, List.set_cons_succ]
        refine quiet_row (by rfl) _ _ rfl wr.heap.size 0 rfl (o.map (Value.int .u8)) _ HRo.out hun rfl hso ?_
        simp only [Act.put, List.setIfInBounds_toArray, List.set_cons_zero, List.set_cons_succ]
        refine quiet_call (by rfl) 111 #[.slice (some ⟨b, off, none⟩) k cap, .agg (o.map (Value.int .u8)).toArray] (.bool (decide (o ∈ ids.take k))) (fun W => by go_simp) (fun W hW => (HCT.out W hW).mono fun e w' h => ⟨h.1, hW.then h.2⟩) ?_
        simp only [Act.put, List.setIfInBounds_toArray, List.set_cons_zero, List.set_cons_succ]
        refine wpQuiet_nil fun w3 hk3 => ?_
        obtain ⟨hb3, hkw3⟩ := HX.out w3 hk3
        have HB3 : Hid (w3.heap[w.heap.size]? = some (.cells tr 82 (0, 0))) := hb3
        have HK3 : Hid (Kept [] w w3) := hkw3
        clear hb3 hkw3 hk3 HX HCT HC1 HRo x1 x2 x3 x4 hr
        by_cases hin : o ∈ ids.take k
        · have hd : decide (o ∈ ids.take k) = true := decide_eq_true hin
          rw [hd]
          have HD : Hid (rv = 36) := by
            have h := HR.out
            have hdup : dupB ids = true := by
              unfold dupB
              rw [List.any_eq_true]
              exact ⟨k, List.mem_range.2 hlt, by rw [HOD.out]; exact hd⟩
            rw [if_pos hdup] at h
            exact h
          clear hin hd
          go_wp2
          go_ret
          exact ⟨by rw [HD.out]; rfl, HK3.out⟩
        · have hd : decide (o ∈ ids.take k) = false := decide_eq_false hin
          rw [hd]
          have HN' : Hid (∀ (i : Nat), i < k + 1 → decide ((ids[i]?.getD []) ∈ ids.take i) = false) := fun i hi => by
            by_cases hik : i = k
            · subst hik; rw [HOD.out]; exact hd
            · exact HN.out i (by omega)
          clear hin hd
          go_wp2
          go_roundw
          case rel => exact ⟨k + 1, by omega, by go_num, HN', HB3, HK3⟩
          case measure => simp [intOf]; omega
      · obtain rfl : k = ids.length := by omega
        have HD : Hid (rv = sv) := by
          have h := HR.out
          have hdup : dupB ids = false := by
            unfold dupB
            rw [List.any_eq_false]
            intro i hi
            rw [HN.out i (List.mem_range.1 hi)]
            simp
          rw [hdup, if_neg (by decide)] at h
          exact h
        clear HN
        go_wp2_with (go_at_call 112; refine (HSG.out _ HK.out).mono ?_; rintro e w2 ⟨rfl, hk2⟩; have HK2 : Hid (Kept [] w w2) := HK.out.then hk2; clear hk2)
        go_ret
        exact ⟨by rw [HD.out]; rfl, HK2.out⟩
end Go.Proofs.YtnfbiemmdaenpaaDoor
