/-
  WALK: object.readTag.
  WALKS: slices.Index, slices.Contains of ids; commits: (object.commit).fault.
-/
import Derived.Test.YtddhhjgegkkjbaaGreatDoorAppK
import Derived.Test.YtddhhjgegkkjbaaGreatDoorPb0
namespace Go.Proofs.YtddhhjgegkkjbaaGreatDoor
open Go.RowKit

set_option maxRecDepth 100000 in
set_option maxHeartbeats 2000000 in
theorem readTag_any {w : World} {r g : Nat} {xs : List Int} {pl f : Nat} (R : Rdr w r g xs pl f) (y1 y2 y3 y4 y5 y6 : Took) (h1 : Hid (y1 = takeL xs pl f 3 32 0)) (h2 : Hid (y2 = takeL xs y1.pl y1.f 0 1 0)) (h3 : Hid (y3 = takeL xs y2.pl y2.f 2 0 255))
    (h4 : Hid (y4 = takeL xs y3.pl y3.f 2 0 255)) (h5 : Hid (y5 = takeL xs y4.pl y4.f 0 8 0)) (h6 : Hid (y6 = takeL xs y5.pl y5.f 2 0 4096)) :
    Calls Tryz.prog 53 #[.pointer (some ⟨r, 0, none⟩)] w fun e w' => e = .returned (.agg (TagL.mk (idOf y1.text) y2.n y3.text y4.text y5.n y6.text).row.toArray) ∧ Rdr w' r g xs y6.pl y6.f ∧ Kept [r] w w' := by
  have hl1 : (idOf y1.text).length = 32 := by rw [h1.out]; exact idOf_len (raw32_len _ _ _)
  have hb2 : 0 ≤ y2.n ∧ y2.n < 256 := by rw [h2.out]; exact take_lt xs R.oct _ _ 1
  have C1 : Hid (∀ W, Rdr W r g xs pl f → Calls Tryz.prog 66 #[.pointer (some ⟨r, 0, none⟩)] W fun e w' => e = .returned (.agg (idC (idOf y1.text))) ∧ Rdr w' r g xs y1.pl y1.f ∧ Kept [r] W w') := fun W hW => readID_any hW y1 h1
  have C2 : Hid (∀ W, Rdr W r g xs y1.pl y1.f → Calls Tryz.prog 48 #[.pointer (some ⟨r, 0, none⟩)] W fun e w' => e = .returned (.int .u8 y2.n) ∧ Rdr w' r g xs y2.pl y2.f ∧ Kept [r] W w') := fun W hW => U8_any hW y2 h2
  have C3 : Hid (∀ W, Rdr W r g xs y2.pl y2.f → Calls Tryz.prog 65 #[.pointer (some ⟨r, 0, none⟩), .int .i64 255] W fun e w' => e = .returned (.string (strOfNums y3.text)) ∧ Rdr w' r g xs y3.pl y3.f ∧ Kept [r] W w') := fun W hW => readText_any hW 255 (by decide) (by decide) y3 h3
  have C4 : Hid (∀ W, Rdr W r g xs y3.pl y3.f → Calls Tryz.prog 65 #[.pointer (some ⟨r, 0, none⟩), .int .i64 255] W fun e w' => e = .returned (.string (strOfNums y4.text)) ∧ Rdr w' r g xs y4.pl y4.f ∧ Kept [r] W w') := fun W hW => readText_any hW 255 (by decide) (by decide) y4 h4
  have C5 : Hid (∀ W, Rdr W r g xs y4.pl y4.f → Calls Tryz.prog 67 #[.pointer (some ⟨r, 0, none⟩)] W fun e w' => e = .returned (.int .u64 y5.n) ∧ Rdr w' r g xs y5.pl y5.f ∧ Kept [r] W w') := fun W hW => U64_any hW y5 h5
  have C6 : Hid (∀ W, Rdr W r g xs y5.pl y5.f → Calls Tryz.prog 65 #[.pointer (some ⟨r, 0, none⟩), .int .i64 4096] W fun e w' => e = .returned (.string (strOfNums y6.text)) ∧ Rdr w' r g xs y6.pl y6.f ∧ Kept [r] W w') := fun W hW => readText_any hW 4096 (by decide) (by decide) y6 h6
  have hrl := lt_of_block R.blk
  have hgl := lt_of_block R.row
  have HRa : Hid (Rdr (w.alloc (.cells zeroG.row.toArray 104)) r g xs pl f) := R.alloc _
  have HZ : Hid ((w.alloc (.cells zeroG.row.toArray 104)).heap[w.heap.size]? = some (.cells zeroG.row.toArray 104 (0, 0))) := heap_alloc_new w _
  have HKa : Hid (Kept [r] w (w.alloc (.cells zeroG.row.toArray 104))) := (Kept.refl _ _).alloc _
  have hbt := built_tag (idOf y1.text) hl1
  have hone1 : (TagL.mk (idOf y1.text) 0 [] [] 0 []).row.toArray.all (·.oneCell') = true := tag_one _
  have hone6 : (TagL.mk (idOf y1.text) y2.n y3.text y4.text y5.n y6.text).row.toArray.all (·.oneCell') = true := tag_one _
  have hs1 : (Tryz.prog.info? 104).map (·.size) = some (TagL.mk (idOf y1.text) 0 [] [] 0 []).row.toArray.size := by rw [tag_len _ hl1]; kernel_rfl
  have hs6 : (Tryz.prog.info? 104).map (·.size) = some (TagL.mk (idOf y1.text) y2.n y3.text y4.text y5.n y6.text).row.toArray.size := by rw [tag_len _ hl1]; kernel_rfl
  have hz1 : (TagL.mk (idOf y1.text) 0 [] [] 0 []).row.toArray.size = 37 := tag_len _ hl1
  have hz6 : zeroG.row.toArray.size = (TagL.mk (idOf y1.text) y2.n y3.text y4.text y5.n y6.text).row.toArray.size := by rw [tag_len (TagL.mk (idOf y1.text) y2.n y3.text y4.text y5.n y6.text) hl1]; rfl
  clear R h1 h2 h3 h4 h5 h6
  go_enter Tryz.func53, Tryz.ntmps53
  go_wp2_with (first
    | (go_at_call 66; refine (C1.out _ HRa.out).mono ?_; rintro e w1 ⟨rfl, hr1, hk1⟩
       have HZ1 : Hid (w1.heap[w.heap.size]? = some (.cells zeroG.row.toArray 104 (0, 0))) := hk1.heap HZ.out (by simp; omega)
       have HR1 : Hid (Rdr w1 r g xs y1.pl y1.f) := hr1
       have HK1 : Hid (Kept [r] (w.alloc (.cells zeroG.row.toArray 104)) w1) := hk1
       clear hr1 hk1)
    | (refine wpList_build_some (by rfl) 104 _ (by rfl) (TagL.mk (idOf y1.text) 0 [] [] 0 []).row.toArray (by simp; exact hbt) ?_)
    | (refine wpList_store_new (by rfl) 104 (.tmp 3) (.tmp 6) (by rfl) w1 _ (TagL.mk (idOf y1.text) 0 [] [] 0 []).row.toArray (by rfl) (by rfl) hs1 (by rw [hz1]; rfl) hone1 ?_
       have HV1 : Hid (RV w (w1.alloc (.cells (TagL.mk (idOf y1.text) 0 [] [] 0 []).row.toArray 104)) r g xs y1.pl y1.f w.heap.size w1.heap.size zeroG.row.toArray (TagL.mk (idOf y1.text) 0 [] [] 0 []).row.toArray 104) :=
         ⟨HR1.out.alloc _, (Below.heap_alloc _ _ _ (lt_of_block HZ1.out)).trans HZ1.out, heap_alloc_new w1 _, (HKa.out.then HK1.out).alloc _, Nat.le_refl _, lt_of_block HZ1.out, hrl, hgl⟩)
    | (go_at_call 48; (with_reducible refine (C2.out _ HV1.out.rd).mono ?_); rintro e w2 ⟨rfl, hr2, hk2⟩
       have hv2 := HV1.out.step hr2 hk2
       have d2 := (tag_cells (b := w1.heap.size) (t := TagL.mk (idOf y1.text) 0 [] [] 0 []) hl1 hv2.v1).2.1
       have f2 := frozen_of_row _ _ 32 _ _ hv2.v1
       have HV2 : Hid (RV w (w2.setCell ⟨w1.heap.size, 32, none⟩ (.int .i64 y2.n)) r g xs y2.pl y2.f w.heap.size w1.heap.size zeroG.row.toArray (TagL.mk (idOf y1.text) y2.n [] [] 0 []).row.toArray 104) := by
         have h := hv2.set 32 (.int .i64 y2.n)
         rw [(tag_set (TagL.mk (idOf y1.text) 0 [] [] 0 []) hl1).1] at h
         exact h
       clear hr2 hk2 hv2)
    | (go_at_call 65; (with_reducible refine (C3.out _ HV2.out.rd).mono ?_); rintro e w3 ⟨rfl, hr3, hk3⟩
       have hv3 := HV2.out.step hr3 hk3
       have d3 := (tag_cells (b := w1.heap.size) (t := TagL.mk (idOf y1.text) y2.n [] [] 0 []) hl1 hv3.v1).2.2.1
       have f3 := frozen_of_row _ _ 33 _ _ hv3.v1
       have HV3 : Hid (RV w (w3.setCell ⟨w1.heap.size, 33, none⟩ (.string (strOfNums y3.text))) r g xs y3.pl y3.f w.heap.size w1.heap.size zeroG.row.toArray (TagL.mk (idOf y1.text) y2.n y3.text [] 0 []).row.toArray 104) := by
         have h := hv3.set 33 (.string (strOfNums y3.text))
         rw [(tag_set (TagL.mk (idOf y1.text) y2.n [] [] 0 []) hl1).2.1] at h
         exact h
       clear hr3 hk3 hv3)
    | (go_at_call 65; (with_reducible refine (C4.out _ HV3.out.rd).mono ?_); rintro e w4 ⟨rfl, hr4, hk4⟩
       have hv4 := HV3.out.step hr4 hk4
       have d4 := (tag_cells (b := w1.heap.size) (t := TagL.mk (idOf y1.text) y2.n y3.text [] 0 []) hl1 hv4.v1).2.2.2.1
       have f4 := frozen_of_row _ _ 34 _ _ hv4.v1
       have HV4 : Hid (RV w (w4.setCell ⟨w1.heap.size, 34, none⟩ (.string (strOfNums y4.text))) r g xs y4.pl y4.f w.heap.size w1.heap.size zeroG.row.toArray (TagL.mk (idOf y1.text) y2.n y3.text y4.text 0 []).row.toArray 104) := by
         have h := hv4.set 34 (.string (strOfNums y4.text))
         rw [(tag_set (TagL.mk (idOf y1.text) y2.n y3.text [] 0 []) hl1).2.2.1] at h
         exact h
       clear hr4 hk4 hv4)
    | (go_at_call 67; (with_reducible refine (C5.out _ HV4.out.rd).mono ?_); rintro e w5 ⟨rfl, hr5, hk5⟩
       have hv5 := HV4.out.step hr5 hk5
       have d5 := (tag_cells (b := w1.heap.size) (t := TagL.mk (idOf y1.text) y2.n y3.text y4.text 0 []) hl1 hv5.v1).2.2.2.2.1
       have f5 := frozen_of_row _ _ 35 _ _ hv5.v1
       have HV5 : Hid (RV w (w5.setCell ⟨w1.heap.size, 35, none⟩ (.int .u64 y5.n)) r g xs y5.pl y5.f w.heap.size w1.heap.size zeroG.row.toArray (TagL.mk (idOf y1.text) y2.n y3.text y4.text y5.n []).row.toArray 104) := by
         have h := hv5.set 35 (.int .u64 y5.n)
         rw [(tag_set (TagL.mk (idOf y1.text) y2.n y3.text y4.text 0 []) hl1).2.2.2.1] at h
         exact h
       clear hr5 hk5 hv5)
    | (go_at_call 65; (with_reducible refine (C6.out _ HV5.out.rd).mono ?_); rintro e w6 ⟨rfl, hr6, hk6⟩
       have hv6 := HV5.out.step hr6 hk6
       have d6 := (tag_cells (b := w1.heap.size) (t := TagL.mk (idOf y1.text) y2.n y3.text y4.text y5.n []) hl1 hv6.v1).2.2.2.2.2
       have f6 := frozen_of_row _ _ 36 _ _ hv6.v1
       have HV6 : Hid (RV w (w6.setCell ⟨w1.heap.size, 36, none⟩ (.string (strOfNums y6.text))) r g xs y6.pl y6.f w.heap.size w1.heap.size zeroG.row.toArray (TagL.mk (idOf y1.text) y2.n y3.text y4.text y5.n y6.text).row.toArray 104) := by
         have h := hv6.set 36 (.string (strOfNums y6.text))
         rw [(tag_set (TagL.mk (idOf y1.text) y2.n y3.text y4.text y5.n []) hl1).2.2.2.2] at h
         exact h
       clear hr6 hk6 hv6)
    | (refine wpList_load_row (by rfl) 104 (.tmp 3) (by rfl) w1.heap.size (by rfl) 104 (TagL.mk (idOf y1.text) y2.n y3.text y4.text y5.n y6.text).row.toArray (0, 0) _ HV6.out.v1 Tryz.underlying104 rfl hs6 ?_)
    | (refine wpList_store_row (by rfl) 104 (.tmp 2) (.tmp 23) (by rfl) w.heap.size (TagL.mk (idOf y1.text) y2.n y3.text y4.text y5.n y6.text).row.toArray (by rfl) (by rfl) 104 _ HV6.out.v0 hs6 hz6 hone6 ?_))
  refine bodyPost_ret (v := .agg (TagL.mk (idOf y1.text) y2.n y3.text y4.text y5.n y6.text).row.toArray) ?_ rfl ⟨rfl, ?_, ?_⟩
  · rw [results_cell1 rfl]
    have hld := run_loadVar_row (P := Tryz.prog) ((w6.setCell ⟨w1.heap.size, 36, none⟩ (.string (strOfNums y6.text))).setRow w.heap.size (TagL.mk (idOf y1.text) y2.n y3.text y4.text y5.n y6.text).row.toArray) w.heap.size 104 104 (TagL.mk (idOf y1.text) y2.n y3.text y4.text y5.n y6.text).row.toArray (0, 0) _ (setRow_heap _ _ _ _ _ _ HV6.out.v0) Tryz.underlying104 rfl hs6
    exact hld
  · exact HV6.out.rd.below (below_setRow (Below.refl w.heap.size _) (Nat.le_refl _) _) hrl hgl
  · exact kept_below HV6.out.keep (below_setRow (Below.refl w.heap.size _) (Nat.le_refl _) _) (Nat.le_refl _)
end Go.Proofs.YtddhhjgegkkjbaaGreatDoor

namespace Go.Proofs.YtddhhjgegkkjbaaGreatDoor
open Go.RowKit

set_option maxRecDepth 100000 in
set_option maxHeartbeats 1000000 in
theorem Contains_ids (v : Value) (ids : List (List Int)) (id : List Int) (w : World) (hv : IdsAt w v ids) (hg : ∀ o, o ∈ ids → GoodID o) (hid : GoodID id) :
    Calls Tryz.prog 147 #[v, .agg (idC id)] w fun e w' => (∃ n : Int, e = .returned (.int .i64 n) ∧ -1 ≤ n ∧ decide (0 ≤ n) = decide (id ∈ ids)) ∧ Kept [] w w' := by
  have hsl : (Tryz.prog.info? 36).map (·.size) = some (id.map (Value.int .u8)).length := by rw [List.length_map, hid.1]; exact Tryz.infoID
  have HR : Hid (∀ W, Kept [] (w.alloc (.cells (idC id) 36)) W → W.rangeAt w.heap.size 0 (id.map (Value.int .u8))) := fun W k => range_kept (range_box w id 36) k (by simp)
  have HV : Hid (∀ W, Kept [] w W → IdsAt W v ids) := fun W k => hv.keep k (fun _ _ _ => by simp)
  have HG : Hid (∀ o, o ∈ ids → GoodID o) := hg
  have HD : Hid (GoodID id) := hid
  have hun := Tryz.underlying36
  obtain ⟨ao, cap, rfl, hcap, _, hlen, _⟩ := hv
  clear hg hid
  go_enter Tryz.func147, Tryz.ntmps147
  go_wp2
  go_loopw [5, 8] (fun _ s8 wr => ∃ k : Nat, k ≤ ids.length ∧ s8 = .int .i64 k ∧ Hid (∀ (i : Nat) (o : List Int), ids[i]? = some o → i < k → o ≠ id) ∧ Hid (Kept [] (w.alloc (.cells (idC id) 36)) wr)) (fun _ s8 _ => ids.length - (intOf s8).toNat)
  case atStart => exact ⟨0, Nat.zero_le _, rfl, fun i o _ h => absurd h (by omega), Kept.refl _ _⟩
  case round =>
    obtain ⟨k, hk, rfl, HN, HK⟩ := hrel
    by_cases hlt : k < ids.length
    · obtain ⟨o, ho⟩ : ∃ o, ids[k]? = some o := ⟨_, List.getElem?_eq_getElem hlt⟩
      have hgo := HG.out o (List.mem_of_getElem? ho)
      obtain ⟨ao', cap', he, _, _, _, hc⟩ := HV.out w (Kept.refl _ _)
      injection he with e1 e2 e3
      subst e1 e3
      obtain ⟨b, off, rfl, hh⟩ := hc (by rintro rfl; simp at hlt)
      have hr := hh k o ho
      have hso : (Tryz.prog.info? 36).map (·.size) = some (o.map (Value.int .u8)).length := by rw [List.length_map, hgo.1]; exact Tryz.infoID
      have heqf : ∀ W, (Op.equalIn 10000 36 (.agg (id.map (Value.int .u8)).toArray) (.agg (o.map (Value.int .u8)).toArray)).run Tryz.prog W = .ok (decide (id = o)) W := fun W => idEq id o W HD.out.1 hgo.1
      have HR1 : Hid (∀ W, Kept [] (w.alloc (.cells (idC id) 36)) W → W.rangeAt b (off + k * 32) (o.map (Value.int .u8))) := fun W hW => range_kept hr (((Kept.refl [] w).alloc _).then hW) (by simp)
      have HKW : Hid (∀ W, Kept [] (w.alloc (.cells (idC id) 36)) W → Kept [] w W) := fun W hW => ((Kept.refl [] w).alloc _).then hW
      clear hh hc hgo hr
      go_wp2_with fail
      refine region_quiet (Kept [] (w.alloc (.cells (idC id) 36))) (by kernel_rfl) (by kernel_rfl) HK.out.drew ?_
      refine quiet_row (by rfl) _ _ rfl w.heap.size 0 rfl (id.map (Value.int .u8)) _ HR.out hun rfl hsl ?_
      simp only [Act.put, List.setIfInBounds_toArray, List.set_cons_zero, List.set_cons_succ]
      refine quiet_move (by rfl) (.tmp 0) rfl (.slice (some ⟨b, off, none⟩) ids.length cap) rfl ?_
      simp only [Act.put, List.setIfInBounds_toArray, List.set_cons_zero, List.set_cons_succ]
      refine quiet_move (by rfl) (.tmp 5) rfl (.int .i64 k) rfl ?_
      simp only [Act.put, List.setIfInBounds_toArray, List.set_cons_zero, List.set_cons_succ]
      refine quiet_val (by rfl) (.pointer (some ⟨b, off + k * 32, none⟩)) (fun W => by go_simp) ?_
      simp only [Act.put, List.setIfInBounds_toArray, List.set_cons_zero, List.set_cons_succ]
      refine quiet_row (by rfl) _ _ rfl b (off + k * 32) rfl (o.map (Value.int .u8)) _ HR1.out hun rfl hso ?_
      simp only [Act.put, List.setIfInBounds_toArray, List.set_cons_zero, List.set_cons_succ]
      refine quiet_eql (by rfl) (.tmp 11) (.tmp 15) _ rfl _ _ rfl rfl (decide (id = o)) heqf ?_
      simp only [Act.put, List.setIfInBounds_toArray, List.set_cons_zero, List.set_cons_succ]
      refine wpQuiet_nil fun w3 hk3 => ?_
      have HK3 : Hid (Kept [] (w.alloc (.cells (idC id) 36)) w3) := hk3
      have HF3 : Hid (Kept [] w w3) := HKW.out w3 hk3
      clear hk3 heqf HR1
      by_cases hio : id = o
      · have hd : decide (id = o) = true := decide_eq_true hio
        rw [hd]
        have HM : Hid (decide (id ∈ ids) = true) := decide_eq_true (by rw [hio]; exact List.mem_of_getElem? ho)
        clear hio hd ho
        go_wp2
        go_ret
        exact ⟨⟨(k : Int), rfl, by omega, by rw [HM.out]; exact decide_eq_true (by omega)⟩, HF3.out⟩
      · have hd : decide (id = o) = false := decide_eq_false hio
        rw [hd]
        have HN' : Hid (∀ (i : Nat) (o : List Int), ids[i]? = some o → i < k + 1 → o ≠ id) := fun i x hx hi => by
          by_cases hik : i = k
          · subst hik
            rw [ho] at hx
            cases hx
            exact Ne.symm hio
          · exact HN.out i x hx (by omega)
        clear hio hd ho
        go_wp2
        go_roundw
        case rel => exact ⟨k + 1, by omega, by go_num, HN', HK3⟩
        case measure => simp [intOf]; omega
    · have HM : Hid (decide (id ∈ ids) = false) := decide_eq_false fun hm => by
        obtain ⟨i, hi, he⟩ := List.getElem_of_mem hm
        exact HN.out i id (by rw [List.getElem?_eq_getElem hi, he]) (by omega) rfl
      have HF3 : Hid (Kept [] w wr) := ((Kept.refl [] w).alloc _).then HK.out
      go_wp2
      go_ret
      exact ⟨⟨-1, rfl, by omega, by rw [HM.out]; rfl⟩, HF3.out⟩

set_option maxRecDepth 100000 in
set_option maxHeartbeats 1000000 in
theorem ContainsIDs_any (v : Value) (ids : List (List Int)) (id : List Int) (w : World) (hv : IdsAt w v ids) (hg : ∀ o, o ∈ ids → GoodID o) (hid : GoodID id) :
    Calls Tryz.prog 145 #[v, .agg (idC id)] w fun e w' => e = .returned (.bool (decide (id ∈ ids))) ∧ Kept [] w w' := by
  have hk0 : Kept [] w (w.alloc (.cells (idC id) 36)) := (Kept.refl _ _).alloc _
  have hcall := Contains_ids v ids id (w.alloc (.cells (idC id) 36)) (hv.keep hk0 (fun _ _ _ => by simp)) hg hid
  have hsz : (Tryz.prog.info? 36).map (·.size) = some (idC id).size := by rw [idC_size hid.1]; exact Tryz.infoID
  have HB : Hid ((w.alloc (.cells (idC id) 36)).heap[w.heap.size]? = some (.cells (idC id) 36 (0, 0))) := heap_alloc_new w _
  obtain ⟨ao, cap, rfl, _⟩ := hv
  clear hg hid
  generalize idC id = ic at *
  go_enter Tryz.func145, Tryz.ntmps145
  go_wp2_with (first
    | (refine wpList_load_row (by rfl) 36 (.tmp 3) (by rfl) w.heap.size (by rfl) 36 ic (0, 0) _ HB.out Tryz.underlying36 rfl hsz ?_)
    | (go_at_call 147; refine hcall.mono ?_; rintro e w2 ⟨⟨n, rfl, hn, hd⟩, hk2⟩
       have HK2 : Hid (Kept [] w w2) := hk0.then hk2
       have HD : Hid _ := hd
       clear hk2 hd))
  go_ret
  exact ⟨by rw [← HD.out]; rfl, HK2.out⟩
end Go.Proofs.YtddhhjgegkkjbaaGreatDoor
