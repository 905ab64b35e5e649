/-
  WALK: satchellaw3.ObjectNamed.
-/
import Derived.Test.YtmambfdfkobjgaaDoorNm1
import Derived.Test.YtmambfdfkobjgaaDoorWk2
namespace Go.Proofs.YtmambfdfkobjgaaDoor
open Go.RowKit

theorem worldRow {ops : Array Oper} {rest : List Oper} {a : Act} {Q : Exit → Act → World → Prop} {w : World} {F A : Array Value} {t : TypeId} (h : F = A) (hh : wpList Tryd.prog ops Q rest a (w.alloc (.cells A t))) : wpList Tryd.prog ops Q rest a (w.alloc (.cells F t)) := h ▸ hh

set_option maxRecDepth 100000 in
set_option maxHeartbeats 4000000 in
theorem Named_any (av : Array Value) (w : World) (xs : List Int) (hT : Tabs w) (hx : GoodText xs) (hc : ∀ W : World, W.heap[w.heap.size]? = some (.cells av 35 (0, 0)) → W.cell? ⟨w.heap.size, 78, none⟩ = some (.string (strOfNums xs))) :
    Calls Tryd.prog 3 #[.agg av] w fun e w' => e = .returned (.bool true) ∧ Kept [] w w' := by
  obtain ⟨w0, hw0⟩ : ∃ x, x = w.alloc (.cells av 35) := ⟨_, rfl⟩
  have HK0 : Hid (Kept [] w w0) := by rw [hw0]; exact (Kept.refl _ _).alloc _
  have HN : Hid (∀ W, Kept [] w0 W → W.cell? ⟨w.heap.size, 78, none⟩ = some (.string (strOfNums xs))) := fun W hW => hc W (hW.heap (by rw [hw0]; exact heap_alloc_new w _) (by simp))
  have HTT : Hid (∀ W, Kept [] w0 W → Tabs W) := fun W hW => hT.kept (HK0.out.then hW)
  have HW0 : Hid (w0 = w.alloc (.cells av 35)) := hw0
  have HX : Hid (GoodText xs) := hx
  clear hw0 hc hT hx
  go_enter Tryd.func3, Tryd.ntmps3
  go_wp2_with (go_at_call 4; rw [← HW0.out]; refine (wakes_any w0 (HTT.out w0 (Kept.refl _ _))).mono ?_; rintro e w1 ⟨rfl, hk1⟩; have k1 : Hid (Kept [] w0 w1) := hk1; clear hk1)
  go_loopw [3] (fun s3 wr => ∃ m : Int, 1 ≤ m ∧ m ≤ 5 ∧ s3 = .int .i64 m ∧ Hid (Kept [] w0 wr)) (fun s3 _ => (5 - intOf s3).toNat)
  case atStart => exact ⟨1, by decide, by decide, rfl, k1⟩
  case round =>
    obtain ⟨m, hm1, hm5, rfl, hk⟩ := hrel
    by_cases hm : m ≤ 4
    · have hm256 : m % 256 = m := by omega
      obtain ⟨I, hI⟩ : ∃ A, A = idC (nId m) := ⟨_, rfl⟩
      obtain ⟨RE, hRE⟩ : ∃ A, A = (nE m xs).row.toArray := ⟨_, rfl⟩
      have HI : Hid (I = idC (nId m)) := hI
      have HRE : Hid (RE = (nE m xs).row.toArray) := hRE
      have hsI : (Tryd.prog.info? 25).map (·.size) = some I.size := by rw [hI]; kernel_rfl
      have hzI : Hid (I.size = 32) := by rw [hI]; rfl
      have hoI : I.all (·.oneCell') = true := by rw [hI]; kernel_rfl
      have huI := Tryd.underlying25
      obtain ⟨wa, hwa⟩ : ∃ x, x = wr.alloc (.cells I 25) := ⟨_, rfl⟩
      have HWA : Hid (wa = wr.alloc (.cells I 25)) := hwa
      have ka : Hid (Kept [] wr wa) := by rw [hwa]; exact (Kept.refl _ _).alloc _
      have PA : Hid (wa.heap[wr.heap.size]? = some (.cells I 25 (0, 0))) := by rw [hwa]; exact heap_alloc_new wr _
      obtain ⟨OO, hOO⟩ : ∃ A, A = (treO (.slice (some ⟨wa.heap.size, 0, none⟩) 1 1) [nE m xs]).row.toArray := ⟨_, rfl⟩
      have HOO : Hid (OO = (treO (.slice (some ⟨wa.heap.size, 0, none⟩) 1 1) [nE m xs]).row.toArray) := hOO
      obtain ⟨wb, hwb⟩ : ∃ x, x = wa.alloc (.cells RE 41) := ⟨_, rfl⟩
      have HWB : Hid (wb = wa.alloc (.cells RE 41)) := hwb
      have kb : Hid (Kept [] wa wb) := by rw [hwb]; exact (Kept.refl _ _).alloc _
      have hEs : RE.size = 34 := by rw [hRE]; rfl
      have hgE : ∀ e, e ∈ [nE m xs] → e.Good := fun e he => by rw [List.mem_singleton.1 he]; exact nE_good m xs (by omega) (by omega) HX.out
      have EB : Hid (EntsAt wb (.slice (some ⟨wa.heap.size, 0, none⟩) 1 1) [nE m xs]) := EntsAt.of_rows (es := [nE m xs]) (by
        unfold RowsIn
        rw [hwb, heap_alloc_new wa, hRE]
        show some (Obj.cells (nE m xs).row.toArray 41 (0, 0)) = some (Obj.cells ((nE m xs).row ++ []).toArray 41 (0, 0))
        rw [List.append_nil]) hgE (by simp)
      have kwb : Hid (Kept [] w0 wb) := hk.out.then (ka.out.then kb.out)
      have PB : Hid (wb.heap[wr.heap.size]? = some (.cells I 25 (0, 0))) := kb.out.heap PA.out (by simp)
      have hnm := HN.out wa (hk.out.then ka.out)
      clear hI hRE hwa hOO hwb hgE
      go_wp2_with (first
        | (refine wpList_built (by rfl) 25 #[(0, .tmp 21), (1, .const (.int .u8 7))] (by rfl) I (by rw [HI.out]; kernel_rfl) ?_)
        | (refine wpList_store_new (by rfl) 25 (.tmp 4) (.tmp 22) (by rfl) wr _ I (by rfl) (by rfl) hsI (Eq.trans rfl hzI.out.symm) hoI ?_; rw [← HWA.out])
        | (refine wpList_load_row (by rfl) 25 (.tmp 4) (by rfl) wr.heap.size (by rfl) 25 I (0, 0) _ PA.out huI rfl hsI ?_)
        | (refine wpList_built (by rfl) 41 #[(0, .tmp 24), (1, .tmp 26), (2, .tmp 27)] (by rfl) RE (by rw [HRE.out, HI.out]; kernel_rfl) ?_)
        | (refine wpList_built (by rfl) 33 #[(0, .const (.int .i64 2)), (2, .tmp 29)] (by rfl) OO (by rw [HOO.out]; kernel_rfl) ?_; refine worldRow (A := RE) (by rw [HRE.out]; kernel_rfl) ?_; rw [← HWB.out]))
      clear hnm hm256 ka kb PA hsI hzI hoI hEs
      cases hnb : nameB xs
      · have HE : Hid (Calls Tryd.prog 5 #[.agg OO] wb fun e w' => e = .returned (.tuple #[.slice none 0 0, .int .i64 32]) ∧ Kept [] wb w') := by
          rw [HOO.out]; exact nEncBad _ m xs wb (HTT.out _ kwb.out) EB.out hm1 hm HX.out hnb
        have HNM : Hid (∀ W, Kept [] w0 W → Calls Tryd.prog 6 #[.string (strOfNums xs)] W fun e w' => e = .returned (.bool false) ∧ Kept [] W w') := fun W hW => by
          have h := Name_any xs HX.out.1 W (Nat.le_trans HX.out.2 (by decide)) (HTT.out W hW)
          rwa [hnb] at h
        clear hnb
        refine HE.out.mono ?_
        rintro e wc ⟨rfl, hkc⟩
        have kc : Hid (Kept [] w0 wc) := kwb.out.then hkc
        clear hkc
        have hnm := HN.out wc kc.out
        go_wp2_with fail
        refine (HNM.out _ kc.out).mono ?_
        rintro e wd ⟨rfl, hkd⟩
        have kd : Hid (Kept [] w0 wd) := kc.out.then hkd
        clear hkd hnm
        go_wp2
        go_roundw
        case rel => exact ⟨m + 1, by omega, by omega, by go_num, kd⟩
        case measure => simp [intOf]; omega
      · have HE : Hid (Calls Tryd.prog 5 #[.agg OO] wb fun e w' => ∃ b n, e = .returned (.tuple #[.slice (some ⟨b, 0, none⟩) n n, .int .i64 0]) ∧ BytesAt w' (.slice (some ⟨b, 0, none⟩) n n) (encT [nE m xs]) ∧ Kept [] wb w') := by
          rw [HOO.out]; exact nEnc _ m xs wb (HTT.out _ kwb.out) EB.out hm1 hm HX.out hnb
        have HNM : Hid (∀ W, Kept [] w0 W → Calls Tryd.prog 6 #[.string (strOfNums xs)] W fun e w' => e = .returned (.bool true) ∧ Kept [] W w') := fun W hW => by
          have h := Name_any xs HX.out.1 W (Nat.le_trans HX.out.2 (by decide)) (HTT.out W hW)
          rwa [hnb] at h
        have HCH : Hid (∀ W v, Kept [] w0 W → BytesAt W v (encT [nE m xs]) → Calls Tryd.prog 7 #[v] W fun e w' => Kept [] W w' ∧ ∃ b, e = .returned (.tuple #[.slice (some ⟨b, 0, none⟩) 1 1, .int .i64 0]) ∧ w'.rangeAt b 0 ((nId m).map (Value.int .u8)) ∧ w'.cell? ⟨b, 32, none⟩ = some (.int .i64 (if m = 4 then 2 else 1))) := fun W v hW hv => nChil v m xs W (HTT.out W hW) hv hm1 hm HX.out hnb
        clear hnb
        refine HE.out.mono ?_
        rintro e wc ⟨gb, nb, rfl, hbb, hkc⟩
        have kc : Hid (Kept [] w0 wc) := kwb.out.then hkc
        have PC : Hid (wc.heap[wr.heap.size]? = some (.cells I 25 (0, 0))) := hkc.heap PB.out (by simp)
        have BC : Hid (BytesAt wc (.slice (some ⟨gb, 0, none⟩) nb nb) (encT [nE m xs])) := hbb
        clear hkc hbb
        have hnm := HN.out wc kc.out
        go_wp2_with fail
        refine (HNM.out _ kc.out).mono ?_
        rintro e wd ⟨rfl, hkd⟩
        have kd : Hid (Kept [] w0 wd) := kc.out.then hkd
        have PD : Hid (wd.heap[wr.heap.size]? = some (.cells I 25 (0, 0))) := hkd.heap PC.out (by simp)
        have BD : Hid (BytesAt wd (.slice (some ⟨gb, 0, none⟩) nb nb) (encT [nE m xs])) := BC.out.kept hkd (fun _ _ => by simp)
        clear hkd hnm BC PC
        go_wp2_with fail
        refine (HCH.out _ _ kd.out BD.out).mono ?_
        rintro e we ⟨hke, gl, rfl, hrl, hcl⟩
        have ke : Hid (Kept [] w0 we) := kd.out.then hke
        have PE : Hid (we.heap[wr.heap.size]? = some (.cells I 25 (0, 0))) := hke.heap PD.out (by simp)
        have RL : Hid (we.rangeAt gl 0 ((nId m).map (Value.int .u8))) := hrl
        obtain ⟨kd4, hkd4⟩ : ∃ k : Int, k = if m = 4 then 2 else 1 := ⟨_, rfl⟩
        rw [← hkd4] at hcl
        have CL : Hid (we.cell? ⟨gl, 32, none⟩ = some (.int .i64 kd4)) := hcl
        clear hke hrl hcl PD BD kd
        by_cases hm4 : m = 4
        · obtain rfl : kd4 = 2 := by rw [hkd4, if_pos hm4]
          clear hkd4
          go_wp2_with fail
          have huI := Tryd.underlying25
          have hgi : GoodID (nId m) := nId_good m (by omega) (by omega)
          have hso : (Tryd.prog.info? 25).map (·.size) = some ((nId m).map (Value.int .u8)).length := by rw [List.length_map, hgi.1]; exact Tryd.infoID
          have heqf : ∀ W, (Op.equalIn 10000 25 (.agg ((nId m).map (Value.int .u8)).toArray) (.agg ((nId m).map (Value.int .u8)).toArray)).run Tryd.prog W = .ok true W := fun W => by
            have := idEq (nId m) (nId m) W hgi.1 hgi.1
            rwa [decide_eq_true rfl] at this
          have HR1 : Hid (∀ W, Kept [] we W → W.rangeAt gl 0 ((nId m).map (Value.int .u8))) := fun W hW => range_kept RL.out hW (by simp)
          have HR2 : Hid (∀ W, Kept [] we W → W.rangeAt wr.heap.size 0 ((nId m).map (Value.int .u8))) := fun W hW => row_range (hW.heap (HI.out ▸ PE.out) (by simp))
          have HR3 : Hid (∀ W, Kept [] we W → W.cell? ⟨gl, 32, none⟩ = some (.int .i64 2)) := fun W hW => hW.cell CL.out (by simp)
          refine region_quiet (Kept [] we) (by kernel_rfl) (by kernel_rfl) (Kept.refl [] we).drew ?_
          (with_reducible refine wpQuiet_step ?_)
          intro K hK
          rw [if_pos (by rfl)]
          refine move_at (.tmp 8) rfl (.int .i64 0) rfl (hK _ ?_)
          clear hK K
          simp only [Act.put, List.setIfInBounds_toArray, List.set_cons_zero, List.set_cons_succ]
          (with_reducible refine wpQuiet_step ?_)
          intro K hK
          rw [if_pos (by rfl)]
          refine val_at (.bool false) (fun W => by go_simp) (hK _ ?_)
          clear hK K
          simp only [Act.put, List.setIfInBounds_toArray, List.set_cons_zero, List.set_cons_succ]
          (with_reducible refine wpQuiet_step ?_)
          intro K hK
          rw [if_pos (by rfl)]
          refine move_at (.tmp 58) rfl (.bool false) rfl (hK _ ?_)
          clear hK K
          simp only [Act.put, List.setIfInBounds_toArray, List.set_cons_zero, List.set_cons_succ]
          (with_reducible refine wpQuiet_step ?_)
          intro K hK
          rw [if_pos (by rfl)]
          refine move_at (.tmp 7) rfl (.slice (some ⟨gl, 0, none⟩) 1 1) rfl (hK _ ?_)
          clear hK K
          simp only [Act.put, List.setIfInBounds_toArray, List.set_cons_zero, List.set_cons_succ]
          (with_reducible refine wpQuiet_step ?_)
          intro K hK
          rw [if_pos (by rfl)]
          refine val_at (.int .i64 1) (fun W => by go_simp) (hK _ ?_)
          clear hK K
          simp only [Act.put, List.setIfInBounds_toArray, List.set_cons_zero, List.set_cons_succ]
          (with_reducible refine wpQuiet_step ?_)
          intro K hK
          rw [if_pos (by rfl)]
          refine val_at (.bool false) (fun W => by go_simp) (hK _ ?_)
          clear hK K
          simp only [Act.put, List.setIfInBounds_toArray, List.set_cons_zero, List.set_cons_succ]
          (with_reducible refine wpQuiet_step ?_)
          intro K hK
          rw [if_pos (by rfl)]
          refine val_at (.bool false) (fun W => by go_simp) (hK _ ?_)
          clear hK K
          simp only [Act.put, List.setIfInBounds_toArray, List.set_cons_zero, List.set_cons_succ]
          (with_reducible refine wpQuiet_step ?_)
          intro K hK
          rw [if_pos (by rfl)]
          refine move_at (.tmp 63) rfl (.bool false) rfl (hK _ ?_)
          clear hK K
          simp only [Act.put, List.setIfInBounds_toArray, List.set_cons_zero, List.set_cons_succ]
          (with_reducible refine wpQuiet_step ?_)
          intro K hK
          rw [if_pos (by rfl)]
          refine move_at (.tmp 7) rfl (.slice (some ⟨gl, 0, none⟩) 1 1) rfl (hK _ ?_)
          clear hK K
          simp only [Act.put, List.setIfInBounds_toArray, List.set_cons_zero, List.set_cons_succ]
          (with_reducible refine wpQuiet_step ?_)
          intro K hK
          rw [if_pos (by rfl)]
          refine val_at (.pointer (some ⟨gl, 0, none⟩)) (fun W => by go_simp) (hK _ ?_)
          clear hK K
          simp only [Act.put, List.setIfInBounds_toArray, List.set_cons_zero, List.set_cons_succ]
          (with_reducible refine wpQuiet_step ?_)
          intro K hK
          rw [if_pos (by rfl)]
          refine val_at (.pointer (some ⟨gl, 0, none⟩)) (fun W => by go_simp) (hK _ ?_)
          clear hK K
          simp only [Act.put, List.setIfInBounds_toArray, List.set_cons_zero, List.set_cons_succ]
          (with_reducible refine wpQuiet_step ?_)
          intro K hK
          rw [if_pos (by rfl)]
          refine row_at 25 (.tmp 67) rfl gl 0 rfl ((nId m).map (Value.int .u8)) _ HR1.out huI rfl hso (hK _ ?_)
          clear hK K
          simp only [Act.put, List.setIfInBounds_toArray, List.set_cons_zero, List.set_cons_succ]
          (with_reducible refine wpQuiet_step ?_)
          intro K hK
          rw [if_pos (by rfl)]
          refine row_at 25 (.tmp 4) rfl wr.heap.size 0 rfl ((nId m).map (Value.int .u8)) _ HR2.out huI rfl hso (hK _ ?_)
          clear hK K
          simp only [Act.put, List.setIfInBounds_toArray, List.set_cons_zero, List.set_cons_succ]
          (with_reducible refine wpQuiet_step ?_)
          intro K hK
          rw [if_pos (by rfl)]
          refine neq_at (.tmp 68) (.tmp 69) _ rfl _ _ rfl rfl true heqf (hK _ ?_)
          clear hK K
          simp only [Act.put, List.setIfInBounds_toArray, List.set_cons_zero, List.set_cons_succ, Bool.not_true]
          (with_reducible refine wpQuiet_step ?_)
          intro K hK
          rw [if_pos (by rfl)]
          refine val_at (.bool false) (fun W => by go_simp) (hK _ ?_)
          clear hK K
          simp only [Act.put, List.setIfInBounds_toArray, List.set_cons_zero, List.set_cons_succ]
          (with_reducible refine wpQuiet_step ?_)
          intro K hK
          rw [if_pos (by rfl)]
          refine move_at (.tmp 71) rfl (.bool false) rfl (hK _ ?_)
          clear hK K
          simp only [Act.put, List.setIfInBounds_toArray, List.set_cons_zero, List.set_cons_succ]
          (with_reducible refine wpQuiet_step ?_)
          intro K hK
          rw [if_pos (by rfl)]
          refine move_at (.tmp 7) rfl (.slice (some ⟨gl, 0, none⟩) 1 1) rfl (hK _ ?_)
          clear hK K
          simp only [Act.put, List.setIfInBounds_toArray, List.set_cons_zero, List.set_cons_succ]
          (with_reducible refine wpQuiet_step ?_)
          intro K hK
          rw [if_pos (by rfl)]
          refine val_at (.pointer (some ⟨gl, 0, none⟩)) (fun W => by go_simp) (hK _ ?_)
          clear hK K
          simp only [Act.put, List.setIfInBounds_toArray, List.set_cons_zero, List.set_cons_succ]
          (with_reducible refine wpQuiet_step ?_)
          intro K hK
          rw [if_pos (by rfl)]
          refine val_at (.pointer (some ⟨gl, 32, none⟩)) (fun W => by go_simp) (hK _ ?_)
          clear hK K
          simp only [Act.put, List.setIfInBounds_toArray, List.set_cons_zero, List.set_cons_succ]
          (with_reducible refine wpQuiet_step ?_)
          intro K hK
          rw [if_pos (by rfl)]
          refine valC_at (.int .i64 2) (fun W hW => by have hcc := HR3.out W hW; go_simp) (hK _ ?_)
          clear hK K
          simp only [Act.put, List.setIfInBounds_toArray, List.set_cons_zero, List.set_cons_succ]
          (with_reducible refine wpQuiet_step ?_)
          intro K hK
          rw [if_pos (by rfl)]
          refine move_at (.tmp 9) rfl (.int .i64 2) rfl (hK _ ?_)
          clear hK K
          simp only [Act.put, List.setIfInBounds_toArray, List.set_cons_zero, List.set_cons_succ]
          (with_reducible refine wpQuiet_step ?_)
          intro K hK
          rw [if_pos (by rfl)]
          refine val_at (.bool false) (fun W => by go_simp) (hK _ ?_)
          clear hK K
          simp only [Act.put, List.setIfInBounds_toArray, List.set_cons_zero, List.set_cons_succ]
          (with_reducible refine wpQuiet_step ?_)
          intro K hK
          rw [if_pos (by rfl)]
          refine val_at (.bool false) (fun W => by go_simp) (hK _ ?_)
          clear hK K
          simp only [Act.put, List.setIfInBounds_toArray, List.set_cons_zero, List.set_cons_succ]
          refine wpQuiet_nil fun w3 hk3 => ?_
          have k3 : Hid (Kept [] w0 w3) := ke.out.then hk3
          clear hk3
          go_wp2
          go_roundw
          case rel => exact ⟨m + 1, by omega, by omega, by go_num, k3⟩
          case measure => simp [intOf]; omega
        · obtain rfl : kd4 = 1 := by rw [hkd4, if_neg hm4]
          clear hkd4
          go_wp2_with fail
          have huI := Tryd.underlying25
          have hgi : GoodID (nId m) := nId_good m (by omega) (by omega)
          have hso : (Tryd.prog.info? 25).map (·.size) = some ((nId m).map (Value.int .u8)).length := by rw [List.length_map, hgi.1]; exact Tryd.infoID
          have heqf : ∀ W, (Op.equalIn 10000 25 (.agg ((nId m).map (Value.int .u8)).toArray) (.agg ((nId m).map (Value.int .u8)).toArray)).run Tryd.prog W = .ok true W := fun W => by
            have := idEq (nId m) (nId m) W hgi.1 hgi.1
            rwa [decide_eq_true rfl] at this
          have HR1 : Hid (∀ W, Kept [] we W → W.rangeAt gl 0 ((nId m).map (Value.int .u8))) := fun W hW => range_kept RL.out hW (by simp)
          have HR2 : Hid (∀ W, Kept [] we W → W.rangeAt wr.heap.size 0 ((nId m).map (Value.int .u8))) := fun W hW => row_range (hW.heap (HI.out ▸ PE.out) (by simp))
          have HR3 : Hid (∀ W, Kept [] we W → W.cell? ⟨gl, 32, none⟩ = some (.int .i64 1)) := fun W hW => hW.cell CL.out (by simp)
          refine region_quiet (Kept [] we) (by kernel_rfl) (by kernel_rfl) (Kept.refl [] we).drew ?_
          (with_reducible refine wpQuiet_step ?_)
          intro K hK
          rw [if_pos (by rfl)]
          refine move_at (.tmp 8) rfl (.int .i64 0) rfl (hK _ ?_)
          clear hK K
          simp only [Act.put, List.setIfInBounds_toArray, List.set_cons_zero, List.set_cons_succ]
          (with_reducible refine wpQuiet_step ?_)
          intro K hK
          rw [if_pos (by rfl)]
          refine val_at (.bool false) (fun W => by go_simp) (hK _ ?_)
          clear hK K
          simp only [Act.put, List.setIfInBounds_toArray, List.set_cons_zero, List.set_cons_succ]
          (with_reducible refine wpQuiet_step ?_)
          intro K hK
          rw [if_pos (by rfl)]
          refine move_at (.tmp 58) rfl (.bool false) rfl (hK _ ?_)
          clear hK K
          simp only [Act.put, List.setIfInBounds_toArray, List.set_cons_zero, List.set_cons_succ]
          (with_reducible refine wpQuiet_step ?_)
          intro K hK
          rw [if_pos (by rfl)]
          refine move_at (.tmp 7) rfl (.slice (some ⟨gl, 0, none⟩) 1 1) rfl (hK _ ?_)
          clear hK K
          simp only [Act.put, List.setIfInBounds_toArray, List.set_cons_zero, List.set_cons_succ]
          (with_reducible refine wpQuiet_step ?_)
          intro K hK
          rw [if_pos (by rfl)]
          refine val_at (.int .i64 1) (fun W => by go_simp) (hK _ ?_)
          clear hK K
          simp only [Act.put, List.setIfInBounds_toArray, List.set_cons_zero, List.set_cons_succ]
          (with_reducible refine wpQuiet_step ?_)
          intro K hK
          rw [if_pos (by rfl)]
          refine val_at (.bool false) (fun W => by go_simp) (hK _ ?_)
          clear hK K
          simp only [Act.put, List.setIfInBounds_toArray, List.set_cons_zero, List.set_cons_succ]
          (with_reducible refine wpQuiet_step ?_)
          intro K hK
          rw [if_pos (by rfl)]
          refine val_at (.bool false) (fun W => by go_simp) (hK _ ?_)
          clear hK K
          simp only [Act.put, List.setIfInBounds_toArray, List.set_cons_zero, List.set_cons_succ]
          (with_reducible refine wpQuiet_step ?_)
          intro K hK
          rw [if_pos (by rfl)]
          refine move_at (.tmp 63) rfl (.bool false) rfl (hK _ ?_)
          clear hK K
          simp only [Act.put, List.setIfInBounds_toArray, List.set_cons_zero, List.set_cons_succ]
          (with_reducible refine wpQuiet_step ?_)
          intro K hK
          rw [if_pos (by rfl)]
          refine move_at (.tmp 7) rfl (.slice (some ⟨gl, 0, none⟩) 1 1) rfl (hK _ ?_)
          clear hK K
          simp only [Act.put, List.setIfInBounds_toArray, List.set_cons_zero, List.set_cons_succ]
          (with_reducible refine wpQuiet_step ?_)
          intro K hK
          rw [if_pos (by rfl)]
          refine val_at (.pointer (some ⟨gl, 0, none⟩)) (fun W => by go_simp) (hK _ ?_)
          clear hK K
          simp only [Act.put, List.setIfInBounds_toArray, List.set_cons_zero, List.set_cons_succ]
          (with_reducible refine wpQuiet_step ?_)
          intro K hK
          rw [if_pos (by rfl)]
          refine val_at (.pointer (some ⟨gl, 0, none⟩)) (fun W => by go_simp) (hK _ ?_)
          clear hK K
          simp only [Act.put, List.setIfInBounds_toArray, List.set_cons_zero, List.set_cons_succ]
          (with_reducible refine wpQuiet_step ?_)
          intro K hK
          rw [if_pos (by rfl)]
          refine row_at 25 (.tmp 67) rfl gl 0 rfl ((nId m).map (Value.int .u8)) _ HR1.out huI rfl hso (hK _ ?_)
          clear hK K
          simp only [Act.put, List.setIfInBounds_toArray, List.set_cons_zero, List.set_cons_succ]
          (with_reducible refine wpQuiet_step ?_)
          intro K hK
          rw [if_pos (by rfl)]
          refine row_at 25 (.tmp 4) rfl wr.heap.size 0 rfl ((nId m).map (Value.int .u8)) _ HR2.out huI rfl hso (hK _ ?_)
          clear hK K
          simp only [Act.put, List.setIfInBounds_toArray, List.set_cons_zero, List.set_cons_succ]
          (with_reducible refine wpQuiet_step ?_)
          intro K hK
          rw [if_pos (by rfl)]
          refine neq_at (.tmp 68) (.tmp 69) _ rfl _ _ rfl rfl true heqf (hK _ ?_)
          clear hK K
          simp only [Act.put, List.setIfInBounds_toArray, List.set_cons_zero, List.set_cons_succ, Bool.not_true]
          (with_reducible refine wpQuiet_step ?_)
          intro K hK
          rw [if_pos (by rfl)]
          refine val_at (.bool false) (fun W => by go_simp) (hK _ ?_)
          clear hK K
          simp only [Act.put, List.setIfInBounds_toArray, List.set_cons_zero, List.set_cons_succ]
          (with_reducible refine wpQuiet_step ?_)
          intro K hK
          rw [if_pos (by rfl)]
          refine move_at (.tmp 71) rfl (.bool false) rfl (hK _ ?_)
          clear hK K
          simp only [Act.put, List.setIfInBounds_toArray, List.set_cons_zero, List.set_cons_succ]
          (with_reducible refine wpQuiet_step ?_)
          intro K hK
          rw [if_pos (by rfl)]
          refine move_at (.tmp 7) rfl (.slice (some ⟨gl, 0, none⟩) 1 1) rfl (hK _ ?_)
          clear hK K
          simp only [Act.put, List.setIfInBounds_toArray, List.set_cons_zero, List.set_cons_succ]
          (with_reducible refine wpQuiet_step ?_)
          intro K hK
          rw [if_pos (by rfl)]
          refine val_at (.pointer (some ⟨gl, 0, none⟩)) (fun W => by go_simp) (hK _ ?_)
          clear hK K
          simp only [Act.put, List.setIfInBounds_toArray, List.set_cons_zero, List.set_cons_succ]
          (with_reducible refine wpQuiet_step ?_)
          intro K hK
          rw [if_pos (by rfl)]
          refine val_at (.pointer (some ⟨gl, 32, none⟩)) (fun W => by go_simp) (hK _ ?_)
          clear hK K
          simp only [Act.put, List.setIfInBounds_toArray, List.set_cons_zero, List.set_cons_succ]
          (with_reducible refine wpQuiet_step ?_)
          intro K hK
          rw [if_pos (by rfl)]
          refine valC_at (.int .i64 1) (fun W hW => by have hcc := HR3.out W hW; go_simp) (hK _ ?_)
          clear hK K
          simp only [Act.put, List.setIfInBounds_toArray, List.set_cons_zero, List.set_cons_succ]
          (with_reducible refine wpQuiet_step ?_)
          intro K hK
          rw [if_pos (by rfl)]
          refine move_at (.tmp 9) rfl (.int .i64 1) rfl (hK _ ?_)
          clear hK K
          simp only [Act.put, List.setIfInBounds_toArray, List.set_cons_zero, List.set_cons_succ]
          (with_reducible refine wpQuiet_step ?_)
          intro K hK
          rw [if_pos (by rfl)]
          refine val_at (.bool false) (fun W => by go_simp) (hK _ ?_)
          clear hK K
          simp only [Act.put, List.setIfInBounds_toArray, List.set_cons_zero, List.set_cons_succ]
          (with_reducible refine wpQuiet_step ?_)
          intro K hK
          rw [if_pos (by rfl)]
          refine val_at (.bool false) (fun W => by go_simp) (hK _ ?_)
          clear hK K
          simp only [Act.put, List.setIfInBounds_toArray, List.set_cons_zero, List.set_cons_succ]
          refine wpQuiet_nil fun w3 hk3 => ?_
          have k3 : Hid (Kept [] w0 w3) := ke.out.then hk3
          clear hk3
          go_wp2
          go_roundw
          case rel => exact ⟨m + 1, by omega, by omega, by go_num, k3⟩
          case measure => simp [intOf]; omega
    · obtain rfl : m = 5 := by omega
      clear hm hm1 hm5
      have hnm := HN.out wr hk.out
      obtain ⟨RT, hRT⟩ : ∃ A, A = (nT xs).row.toArray := ⟨_, rfl⟩
      obtain ⟨OT, hOT⟩ : ∃ A, A = (tagO (nT xs)).row.toArray := ⟨_, rfl⟩
      have HRT : Hid (RT = (nT xs).row.toArray) := hRT
      have HOT : Hid (OT = (tagO (nT xs)).row.toArray) := hOT
      have hs1 : (Tryd.prog.info? 33).map (·.size) = some OT.size := by rw [hOT]; kernel_rfl
      have ho1 : OT.all (·.oneCell') = true := by rw [hOT]; exact tagO_one _
      have hz' : Tryd.zeroCells33.size = OT.size := by rw [hOT]; kernel_rfl
      have hz1 : Hid (Tryd.zeroCells33.size = OT.size) := hz'
      have hs2 : (Tryd.prog.info? 33).map (·.size) = some Tryd.zeroCells33.size := by kernel_rfl
      have ho2 : Tryd.zeroCells33.all (·.oneCell') = true := by kernel_rfl
      have h72 : Hid (OT[72]? = some (.string (strOfNums xs))) := by rw [hOT]; rfl
      clear hRT hOT hz'
      cases hnb : nameB xs
      · have HE : Hid (∀ W, Kept [] w0 W → Calls Tryd.prog 5 #[.agg OT] W fun e w' => e = .returned (.tuple #[.slice none 0 0, .int .i64 32]) ∧ Kept [] W w') := fun W hW => by
          rw [HOT.out]; exact nEncTBad xs W (HTT.out _ hW) HX.out hnb
        have HNM : Hid (∀ W, Kept [] w0 W → Calls Tryd.prog 6 #[.string (strOfNums xs)] W fun e w' => e = .returned (.bool false) ∧ Kept [] W w') := fun W hW => by
          have h := Name_any xs HX.out.1 W (Nat.le_trans HX.out.2 (by decide)) (HTT.out W hW)
          rwa [hnb] at h
        clear hnb
        go_wp2_with (first
          | (refine wpList_built (by rfl) 31 #[(1, .const (.int .i64 2)), (2, .tmp 82)] (by rfl) RT (by rw [HRT.out]; kernel_rfl) ?_)
          | (refine wpList_built (by rfl) 33 #[(0, .const (.int .i64 4)), (4, .tmp 83)] (by rfl) OT (by rw [HOT.out, HRT.out]; kernel_rfl) ?_))
        refine (HE.out _ hk.out).mono ?_
        rintro e wc ⟨rfl, hkc⟩
        have kc : Hid (Kept [] w0 wc) := hk.out.then hkc
        clear hkc hnm
        have hnm := HN.out wc kc.out
        go_wp2_with fail
        refine (HNM.out _ kc.out).mono ?_
        rintro e wd ⟨rfl, hkd⟩
        have kd : Hid (Kept [] w0 wd) := kc.out.then hkd
        clear hkd hnm
        go_wp2_with fail
        refine (parseNil _).mono ?_
        rintro e we ⟨hke, rfl⟩
        obtain ⟨wf, hwf⟩ : ∃ x, x = we.alloc (.cells Tryd.zeroCells33 33) := ⟨_, rfl⟩
        have HWF : Hid (wf = we.alloc (.cells Tryd.zeroCells33 33)) := hwf
        have kf : Hid (Kept [] w wf) := by rw [hwf]; exact (HK0.out.then (kd.out.then hke)).alloc _
        clear hke hwf
        go_wp2_with (refine wpList_store_new (by rfl) 33 (.tmp 12) (.tmp 97) (by rfl) we _ Tryd.zeroCells33 (by rfl) (by rfl) hs2 rfl ho2 ?_; rw [← HWF.out])
        go_ret
        exact ⟨rfl, kf.out⟩
      · have HE : Hid (∀ W, Kept [] w0 W → Calls Tryd.prog 5 #[.agg OT] W fun e w' => ∃ b n, e = .returned (.tuple #[.slice (some ⟨b, 0, none⟩) n n, .int .i64 0]) ∧ BytesAt w' (.slice (some ⟨b, 0, none⟩) n n) (encG (nT xs)) ∧ Kept [] W w') := fun W hW => by
          rw [HOT.out]; exact nEncT xs W (HTT.out _ hW) HX.out hnb
        have HNM : Hid (∀ W, Kept [] w0 W → Calls Tryd.prog 6 #[.string (strOfNums xs)] W fun e w' => e = .returned (.bool true) ∧ Kept [] W w') := fun W hW => by
          have h := Name_any xs HX.out.1 W (Nat.le_trans HX.out.2 (by decide)) (HTT.out W hW)
          rwa [hnb] at h
        have HPA : Hid (∀ W v, Kept [] w0 W → BytesAt W v (encG (nT xs)) → Calls Tryd.prog 8 #[v] W fun e w' => Kept [] W w' ∧ e = .returned (.tuple #[.agg OT, .int .i64 0])) := fun W v hW hv => by
          rw [HOT.out]; exact nParse v xs W (HTT.out _ hW) HX.out hv hnb
        clear hnb
        go_wp2_with (first
          | (refine wpList_built (by rfl) 31 #[(1, .const (.int .i64 2)), (2, .tmp 82)] (by rfl) RT (by rw [HRT.out]; kernel_rfl) ?_)
          | (refine wpList_built (by rfl) 33 #[(0, .const (.int .i64 4)), (4, .tmp 83)] (by rfl) OT (by rw [HOT.out, HRT.out]; kernel_rfl) ?_))
        refine (HE.out _ hk.out).mono ?_
        rintro e wc ⟨gb, nb, rfl, hbb, hkc⟩
        have kc : Hid (Kept [] w0 wc) := hk.out.then hkc
        have BC : Hid (BytesAt wc (.slice (some ⟨gb, 0, none⟩) nb nb) (encG (nT xs))) := hbb
        clear hkc hnm hbb
        have hnm := HN.out wc kc.out
        go_wp2_with fail
        refine (HNM.out _ kc.out).mono ?_
        rintro e wd ⟨rfl, hkd⟩
        have kd : Hid (Kept [] w0 wd) := kc.out.then hkd
        have BD : Hid (BytesAt wd (.slice (some ⟨gb, 0, none⟩) nb nb) (encG (nT xs))) := BC.out.kept hkd (fun _ _ => by simp)
        clear hkd hnm
        go_wp2_with fail
        refine (HPA.out _ _ kd.out BD.out).mono ?_
        rintro e we ⟨hke, rfl⟩
        obtain ⟨wf, hwf⟩ : ∃ x, x = we.alloc (.cells OT 33) := ⟨_, rfl⟩
        have HWF : Hid (wf = we.alloc (.cells OT 33)) := hwf
        have kwf : Hid (Kept [] w0 wf) := by rw [hwf]; exact (kd.out.then hke).alloc _
        have hnm := HN.out wf kwf.out
        have hcf : wf.cell? ⟨we.heap.size, 72, none⟩ = some (.string (strOfNums xs)) := by
          rw [hwf, cell_of_row _ _ _ _ _ _ (heap_alloc_new we _)]
          exact h72.out
        clear hke hwf BC BD
        go_wp2_with (refine wpList_store_new (by rfl) 33 (.tmp 12) (.tmp 97) (by rfl) we _ OT (by rfl) (by rfl) hs1 hz1.out ho1 ?_; rw [← HWF.out])
        go_ret
        exact ⟨rfl, HK0.out.then kwf.out⟩
end Go.Proofs.YtmambfdfkobjgaaDoor
