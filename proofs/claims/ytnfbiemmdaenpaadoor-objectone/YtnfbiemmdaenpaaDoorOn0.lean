/-
  WALK: satchelref3.Only, of an object of one of the four kinds.
-/
import Derived.Test.YtnfbiemmdaenpaaDoorAppR
import Derived.Test.YtnfbiemmdaenpaaDoorRCopy
namespace Go.Proofs.YtnfbiemmdaenpaaDoor
open Go.RowKit

theorem Tw.there {w W : World} {ro rp : Array Value} (h : Tw w W ro rp) {i n : Nat} (hi : i + n ≤ rp.size) : W.there (w.heap.size + 1 + 1) i n := fun j hj => by
  refine ⟨?_, frozen_of_row W _ _ _ _ h.pb⟩
  rw [cell_of_row _ _ _ _ _ _ h.pb, Array.getElem?_eq_getElem (by omega)]
  rfl
theorem Tw.putC {w W : World} {ro rp : Array Value} (h : Tw w W ro rp) (i : Nat) (cs : List Value) : Tw w (W.setCells (w.heap.size + 1 + 1) i cs) ro (setL rp i cs) := by
  have k : Kept [w.heap.size + 1 + 1] W (W.setCells (w.heap.size + 1 + 1) i cs) := Kept.setCells _ (Or.inl (by simp)) cs i W (Kept.refl _ _)
  refine ⟨k.heap h.box (by simp; omega), k.heap h.res (by simp), setCells_heap _ _ cs i W _ h.pb, ?_, Nat.le_trans h.sz k.size⟩
  exact Kept.setCells _ (Or.inr (by omega)) cs i W h.kp
theorem kind_com (o : ObjL) (hc : o.com.tree.length = 32) : putL (kindO 3).row 3 (o.com.row o.pv) = ({ kindO 3 with com := o.com, pv := o.pv } : ObjL).row := by
  have e : (kindO 3).row = [Value.int .i64 3, (kindO 3).bv, (kindO 3).ev] ++ ((kindO 3).com.row (kindO 3).pv ++ (kindO 3).tag.row) := rfl
  have hl := com_len' o.com o.pv hc
  have hl2 : ((kindO 3).com.row (kindO 3).pv).length = 36 := rfl
  have h3 : [Value.int .i64 3, (kindO 3).bv, (kindO 3).ev].length = 3 := rfl
  unfold putL
  rw [e, List.take_left' h3, hl, ← List.drop_drop, List.drop_left' h3, List.drop_left' hl2, List.append_assoc]
  rfl
theorem kind_tag (o : ObjL) (ht : o.tag.target.length = 32) : putL (kindO 4).row 39 o.tag.row = ({ kindO 4 with tag := o.tag } : ObjL).row := by
  have e : (kindO 4).row = ([Value.int .i64 4, (kindO 4).bv, (kindO 4).ev] ++ (kindO 4).com.row (kindO 4).pv) ++ (kindO 4).tag.row := rfl
  have hl : o.tag.row.length = 37 := by simp [TagL.row, ht]
  have h39 : ([Value.int .i64 4, (kindO 4).bv, (kindO 4).ev] ++ (kindO 4).com.row (kindO 4).pv).length = 39 := rfl
  unfold putL
  rw [e, List.take_left' h39, hl, List.drop_eq_nil_of_le (by rw [List.length_append, h39]; decide), List.append_nil]
  rfl

set_option maxRecDepth 100000 in
set_option maxHeartbeats 4000000 in
theorem onlyBlob_any (o : ObjL) (w : World) (hg : ObjL.Good w o) (hk : o.kind = 1) :
    Calls Tryd.prog 11 #[.agg o.row.toArray] w fun e w' => ∃ bv, e = .returned (.agg ({ kindO 1 with bv := bv, blob := o.blob } : ObjL).row.toArray) ∧ ObjL.Good w' ({ kindO 1 with bv := bv, blob := o.blob } : ObjL) ∧ Kept [] w w' := by
  have hoz : o.row.toArray.size = 76 := by rw [List.size_toArray]; exact objL_len hg.com.tree.1 hg.tag.target.1
  have hun := Tryd.underlying33
  have hkz : (kindO 1).row.toArray.size = 76 := by rw [List.size_toArray]; rfl
  have hks : (Tryd.prog.info? 33).map (·.size) = some (kindO 1).row.toArray.size := by rw [hkz]; kernel_rfl
  have hkzz : Tryd.zeroCells33.size = (kindO 1).row.toArray.size := by rw [hkz]; kernel_rfl
  have hk1 : (kindO 1).row.toArray.all (·.oneCell') = true := by kernel_rfl
  have hbl := built_kind 1
  have hin : ((w.alloc (.cells o.row.toArray 33)).alloc (.cells Tryd.zeroCells33 33)).heap.size = w.heap.size + 1 + 1 := by rw [World.size_alloc, World.size_alloc]
  have hb0 : ((w.alloc (.cells o.row.toArray 33)).alloc (.cells Tryd.zeroCells33 33)).heap[w.heap.size]? = some (.cells o.row.toArray 33 (0, 0)) := (Below.heap_alloc _ _ _ (by rw [World.size_alloc]; omega)).trans (heap_alloc_new w _)
  have hc0 := (obj_cells (o := o) hg.com.tree.1 hb0).1
  rw [hk] at hc0
  obtain ⟨W0, hW0⟩ : ∃ W0, W0 = ((w.alloc (.cells o.row.toArray 33)).alloc (.cells Tryd.zeroCells33 33)).alloc (.cells (kindO 1).row.toArray 33) := ⟨_, rfl⟩
  have HW0 : Hid (W0 = ((w.alloc (.cells o.row.toArray 33)).alloc (.cells Tryd.zeroCells33 33)).alloc (.cells (kindO 1).row.toArray 33)) := hW0
  have T0 : Tw w W0 o.row.toArray (kindO 1).row.toArray := by
    rw [hW0]
    refine ⟨(Below.heap_alloc _ _ _ (by omega)).trans hb0, (Below.heap_alloc _ _ _ (by omega)).trans ?_, ?_, (((Kept.refl _ _).alloc _).alloc _).alloc _, by rw [World.size_alloc, hin]; omega⟩
    · have h := heap_alloc_new (w.alloc (.cells o.row.toArray 33)) (.cells Tryd.zeroCells33 33)
      rw [World.size_alloc] at h
      exact h
    · have h := heap_alloc_new ((w.alloc (.cells o.row.toArray 33)).alloc (.cells Tryd.zeroCells33 33)) (.cells (kindO 1).row.toArray 33)
      rw [hin] at h
      exact h
  have HT0 : Hid (Tw w W0 o.row.toArray (kindO 1).row.toArray) := T0
  obtain ⟨q0, q1, q2, q3, q4⟩ := obj_cells (o := o) hg.com.tree.1 T0.box
  rw [hk] at q0
  have HG : Hid (ObjL.Good w o) := hg
  clear T0 hb0 hW0
  obtain ⟨ab, cb, hbv, _⟩ := hg.bv
  have hcopy := Copy_any (.slice ab o.blob.length cb) o.blob W0 (by rw [← hbv]; exact hg.bv.keep HT0.out.kp (fun _ _ _ => by simp)) (Nat.le_trans hg.blob.2 (by decide))
  rw [hbv] at q1
  have HRow : Hid (∀ bv, (kindO 1).row.toArray.setIfInBounds 1 bv = ({ kindO 1 with bv := bv, blob := o.blob } : ObjL).row.toArray) := fun bv => rfl
  clear hg q2 q3 q4
  obtain ⟨ro, hro⟩ : ∃ ro, ro = o.row.toArray := ⟨_, rfl⟩
  obtain ⟨kr, hkr⟩ : ∃ kr, kr = (kindO 1).row.toArray := ⟨_, rfl⟩
  rw [← hro] at hin HW0 HT0 hc0 hoz ⊢
  rw [← hkr] at hks hkzz hk1 hbl HW0 HT0 hkz
  have HKR : Hid (kr = (kindO 1).row.toArray) := hkr
  clear hro hkr
  go_enter Tryd.func11, Tryd.ntmps11
  go_wp2_with (first
    | (refine wpList_build_some (by rfl) 33 _ (by rfl) kr (by simp; exact hbl) ?_)
    | (refine wpList_store_new (by rfl) 33 (.tmp 3) (.tmp 7) (by rfl) ((w.alloc (.cells ro 33)).alloc (.cells Tryd.zeroCells33 33)) _ kr (by rw [hin]; rfl) (by rfl) hks hkzz hk1 ?_; rw [← HW0.out]))
  go_at_call 23
  refine hcopy.mono ?_
  rintro e w1 ⟨rfl, row1, k1⟩
  have T1 := HT0.out.on k1
  have hsz := HT0.out.sz
  have d1 : w1.cell? ⟨w.heap.size + 1 + 1, 1, none⟩ = some (.slice none 0 0) := T1.d (by rw [HKR.out]; rfl)
  have f1 := T1.f 1
  obtain ⟨g9, hg9⟩ : ∃ g, g = W0.heap.size := ⟨_, rfl⟩
  rw [← hg9] at row1 ⊢
  have T2 := T1.put 1 (Value.slice (some ⟨g9, 0, none⟩) o.blob.length o.blob.length)
  have kS : Kept [w.heap.size + 1 + 1] w1 (w1.setCell ⟨w.heap.size + 1 + 1, 1, none⟩ (Value.slice (some ⟨g9, 0, none⟩) o.blob.length o.blob.length)) := (Kept.refl _ _).setCell (Or.inl (by simp)) _
  have nb : ∀ b, blkOf (Value.slice (some ⟨g9, 0, none⟩) o.blob.length o.blob.length) = some b → w.heap.size + 3 ≤ b := fun b hb => by
    have e : g9 = b := by simpa [blkOf] using hb
    omega
  have hb1 : BytesAt w1 (Value.slice (some ⟨g9, 0, none⟩) o.blob.length o.blob.length) o.blob := row_bytes' row1
  have B2 := hb1.keep kS (fun _ b hb e => by have := nb b hb; simp at e; omega)
  have HX : Hid (∃ wf P, wf = w1.setCell ⟨w.heap.size + 1 + 1, 1, none⟩ (Value.slice (some ⟨g9, 0, none⟩) o.blob.length o.blob.length) ∧ P = ({ kindO 1 with bv := (Value.slice (some ⟨g9, 0, none⟩) o.blob.length o.blob.length), blob := o.blob } : ObjL) ∧ Tw w wf ro P.row.toArray ∧ ObjL.Good wf P ∧ ∀ b, (blkOf P.bv = some b ∨ blkOf P.ev = some b ∨ blkOf P.pv = some b) → w.heap.size + 3 ≤ b) := by
    refine ⟨_, _, rfl, rfl, ?_, ⟨(by decide : (-9223372036854775808 : Int) ≤ 1), (by decide : (1 : Int) ≤ 9223372036854775807), B2, HG.out.blob, ents_nil _, (fun e he => by cases he), ids_nil _, zeroC_good, zeroG_good⟩, fun b hb => ?_⟩
    · rw [HKR.out, HRow.out (Value.slice (some ⟨g9, 0, none⟩) o.blob.length o.blob.length)] at T2
      exact T2
    · rcases hb with h | h | h
      · exact nb b h
      · cases h
      · cases h
  clear hcopy row1 k1 T1 T2 kS nb hb1 B2 hg9
  go_upto_region 14 with fail
  obtain ⟨wf, P, hwf, HPX, TF, GF, NF⟩ := HX.out
  rw [← hwf]
  clear hwf HX d1 f1
  have hpz : P.row.toArray.size = 76 := by rw [List.size_toArray]; exact objL_len GF.com.tree.1 GF.tag.target.1
  have hps : (Tryd.prog.info? 33).map (·.size) = some P.row.toArray.size := by rw [hpz]; kernel_rfl
  have hpz2 : Tryd.zeroCells33.size = P.row.toArray.size := by rw [hpz]; kernel_rfl
  have hp1 := objL_one GF
  have kF : Kept [w.heap.size + 1] wf (wf.setRow (w.heap.size + 1) P.row.toArray) := ⟨rfl, rfl, rfl, by simp [World.setRow], fun j _ hn => setRow_other _ _ j _ (fun e => hn (by simp [e]))⟩
  have HPB : Hid (wf.heap[w.heap.size + 1 + 1]? = some (.cells P.row.toArray 33 (0, 0))) := TF.pb
  have HRS : Hid (wf.heap[w.heap.size + 1]? = some (.cells Tryd.zeroCells33 33 (0, 0))) := TF.res
  have HFin : Hid (Kept [] w (wf.setRow (w.heap.size + 1) P.row.toArray)) := kept_setRow TF.kp (by omega) _
  have HGG : Hid (ObjL.Good (wf.setRow (w.heap.size + 1) P.row.toArray) P) := ⟨GF.lo, GF.hi, GF.bv.keep kF (fun _ b hb e => by have := NF b (Or.inl hb); simp at e; omega), GF.blob, GF.ev.keep kF (fun _ b hb e => by have := NF b (Or.inr (Or.inl hb)); simp at e; omega), GF.es, GF.pv.keep kF (fun _ b hb e => by have := NF b (Or.inr (Or.inr hb)); simp at e; omega), GF.com, GF.tag⟩
  clear TF GF NF kF
  have HPr : Hid (P = ({ kindO 1 with bv := (Value.slice (some ⟨g9, 0, none⟩) o.blob.length o.blob.length), blob := o.blob } : ObjL)) := HPX
  clear HPX
  generalize hpr : P.row.toArray = pr at *
  have HPq : Hid (P.row.toArray = pr) := hpr
  clear hpr
  go_wp2_with (first
    | (refine wpList_load_row (by rfl) 33 (.tmp 3) (by rfl) (w.heap.size + 1 + 1) (by rfl) 33 pr (0, 0) _ HPB.out hun rfl hps ?_)
    | (refine wpList_store_row (by rfl) 33 (.tmp 2) (.tmp 42) (by rfl) (w.heap.size + 1) pr (by rfl) (by rfl) 33 _ HRS.out hps hpz2 hp1 ?_))
  refine bodyPost_ret (v := .agg pr) ?_ rfl ⟨_, by rw [← HPr.out, HPq.out], by rw [← HPr.out]; exact HGG.out, HFin.out⟩
  rw [results_cell1 rfl]
  exact run_loadVar_row (P := Tryd.prog) _ (w.heap.size + 1) 33 33 pr (0, 0) _ (setRow_heap _ _ _ _ _ _ HRS.out) hun rfl hps

set_option maxRecDepth 100000 in
set_option maxHeartbeats 4000000 in
theorem onlyTree_any (o : ObjL) (w : World) (hg : ObjL.Good w o) (hk : o.kind = 2) (hn : o.es.length ≤ 1024) :
    Calls Tryd.prog 11 #[.agg o.row.toArray] w fun e w' => ∃ ev, e = .returned (.agg ({ kindO 2 with ev := ev, es := o.es } : ObjL).row.toArray) ∧ ObjL.Good w' ({ kindO 2 with ev := ev, es := o.es } : ObjL) ∧ Kept [] w w' := by
  have hoz : o.row.toArray.size = 76 := by rw [List.size_toArray]; exact objL_len hg.com.tree.1 hg.tag.target.1
  have hun := Tryd.underlying33
  have hkz : (kindO 2).row.toArray.size = 76 := by rw [List.size_toArray]; rfl
  have hks : (Tryd.prog.info? 33).map (·.size) = some (kindO 2).row.toArray.size := by rw [hkz]; kernel_rfl
  have hkzz : Tryd.zeroCells33.size = (kindO 2).row.toArray.size := by rw [hkz]; kernel_rfl
  have hk1 : (kindO 2).row.toArray.all (·.oneCell') = true := by kernel_rfl
  have hbl := built_kind 2
  have hin : ((w.alloc (.cells o.row.toArray 33)).alloc (.cells Tryd.zeroCells33 33)).heap.size = w.heap.size + 1 + 1 := by rw [World.size_alloc, World.size_alloc]
  have hb0 : ((w.alloc (.cells o.row.toArray 33)).alloc (.cells Tryd.zeroCells33 33)).heap[w.heap.size]? = some (.cells o.row.toArray 33 (0, 0)) := (Below.heap_alloc _ _ _ (by rw [World.size_alloc]; omega)).trans (heap_alloc_new w _)
  have hc0 := (obj_cells (o := o) hg.com.tree.1 hb0).1
  rw [hk] at hc0
  obtain ⟨W0, hW0⟩ : ∃ W0, W0 = ((w.alloc (.cells o.row.toArray 33)).alloc (.cells Tryd.zeroCells33 33)).alloc (.cells (kindO 2).row.toArray 33) := ⟨_, rfl⟩
  have HW0 : Hid (W0 = ((w.alloc (.cells o.row.toArray 33)).alloc (.cells Tryd.zeroCells33 33)).alloc (.cells (kindO 2).row.toArray 33)) := hW0
  have T0 : Tw w W0 o.row.toArray (kindO 2).row.toArray := by
    rw [hW0]
    refine ⟨(Below.heap_alloc _ _ _ (by omega)).trans hb0, (Below.heap_alloc _ _ _ (by omega)).trans ?_, ?_, (((Kept.refl _ _).alloc _).alloc _).alloc _, by rw [World.size_alloc, hin]; omega⟩
    · have h := heap_alloc_new (w.alloc (.cells o.row.toArray 33)) (.cells Tryd.zeroCells33 33)
      rw [World.size_alloc] at h
      exact h
    · have h := heap_alloc_new ((w.alloc (.cells o.row.toArray 33)).alloc (.cells Tryd.zeroCells33 33)) (.cells (kindO 2).row.toArray 33)
      rw [hin] at h
      exact h
  have HT0 : Hid (Tw w W0 o.row.toArray (kindO 2).row.toArray) := T0
  obtain ⟨q0, q1, q2, q3, q4⟩ := obj_cells (o := o) hg.com.tree.1 T0.box
  rw [hk] at q0
  have HG : Hid (ObjL.Good w o) := hg
  clear T0 hb0 hW0
  obtain ⟨ae, ce, hev, _⟩ := hg.ev.form
  rw [hev] at q2
  have d2 : W0.cell? ⟨w.heap.size + 1 + 1, 2, none⟩ = some (.slice none 0 0) := HT0.out.d rfl
  have HOwn : Hid (W0.ownsRow W0.heap.size 74 34 (.slice none 0 0) 0 []) := World.ownsRow_nil _ _ _ _
  have HRows : Hid (RowsAt W0 (.slice ae o.es.length ce) 34 (o.es.map EntL.row)) := by rw [← hev]; exact hg.ev.keep HT0.out.kp (fun _ _ _ => by simp)
  have HLen : Hid (∀ r, r ∈ o.es.map EntL.row → r.length = 34) := fun r hr => by obtain ⟨e, he, rfl⟩ := List.mem_map.1 hr; exact EntL.row_len (hg.es e he).id
  have HOne : Hid (∀ r, r ∈ o.es.map EntL.row → ∀ u, u ∈ r → u.oneCell' = true) := fun r hr u hu => by
    obtain ⟨e, he, rfl⟩ := List.mem_map.1 hr
    unfold EntL.row at hu
    rcases List.mem_cons.1 hu with rfl | hu
    · rfl
    · rcases List.mem_cons.1 hu with rfl | hu
      · rfl
      · exact map_oneCell _ u hu
  have HLim : Hid (0 + (o.es.map EntL.row).length ≤ 1000000) := by rw [List.length_map]; show 0 + o.es.length ≤ 1000000; omega
  have HRow : Hid (∀ ev, (kindO 2).row.toArray.setIfInBounds 2 ev = ({ kindO 2 with ev := ev, es := o.es } : ObjL).row.toArray) := fun ev => rfl
  have HSz : Hid (w.heap.size + 3 ≤ W0.heap.size) := HT0.out.sz
  clear hg q1 q3 q4
  obtain ⟨ro, hro⟩ : ∃ ro, ro = o.row.toArray := ⟨_, rfl⟩
  obtain ⟨kr, hkr⟩ : ∃ kr, kr = (kindO 2).row.toArray := ⟨_, rfl⟩
  rw [← hro] at hin HW0 HT0 hc0 hoz ⊢
  rw [← hkr] at hks hkzz hk1 hbl HW0 HT0 hkz
  have HKR : Hid (kr = (kindO 2).row.toArray) := hkr
  clear hro hkr
  go_enter Tryd.func11, Tryd.ntmps11
  go_upto_region 14 with (first
    | (refine wpList_build_some (by rfl) 33 _ (by rfl) kr (by simp; exact hbl) ?_)
    | (refine wpList_store_new (by rfl) 33 (.tmp 3) (.tmp 7) (by rfl) ((w.alloc (.cells ro 33)).alloc (.cells Tryd.zeroCells33 33)) _ kr (by rw [hin]; rfl) (by rfl) hks hkzz hk1 ?_; rw [← HW0.out])
    | (at_builtin; refine wpList_append_rows (by rfl) (.tmp 19) (.tmp 21) 23 74 (.agg zeroE.row.toArray) 34 56 Tryd.underlying23 Tryd.zeroEnt rfl (by decide) (by rfl) (v := .slice none 0 0) (n := 0) (xs := []) (by rfl) HOwn.out (X := .slice ae o.es.length ce) (rows := o.es.map EntL.row) (by rfl) HRows.out HLen.out HOne.out HLim.out (by decide) (Nat.le_refl _) ?_; intro v1 w1 ho1 k1
       rw [Nat.zero_add, List.nil_append] at ho1
       have k1' : Kept [] W0 w1 := k1
       have hbk := ownsK_blk ho1
       have hrw := ownsK_rows (by decide) HLen.out ho1 (by have := HLim.out; omega)
       obtain ⟨a1, c1, hv1⟩ := own_shape ho1
       subst hv1
       have hrl : (o.es.map EntL.row).length = o.es.length := List.length_map ..
       rw [hrl] at hrw hbk ⊢
       have T1 := HT0.out.on k1'
       have d1 : w1.cell? ⟨w.heap.size + 1 + 1, 2, none⟩ = some (.slice none 0 0) := T1.d (by rw [HKR.out]; rfl)
       have f1 := T1.f 2
       have T2 := T1.put 2 (Value.slice a1 o.es.length c1)
       have kS : Kept [w.heap.size + 1 + 1] w1 (w1.setCell ⟨w.heap.size + 1 + 1, 2, none⟩ (Value.slice a1 o.es.length c1)) := (Kept.refl _ _).setCell (Or.inl (by simp)) _
       have nb : ∀ b, blkOf (Value.slice a1 o.es.length c1) = some b → w.heap.size + 3 ≤ b := fun b hb => Nat.le_trans HSz.out (hbk b hb)
       have hb1 : EntsAt w1 (Value.slice a1 o.es.length c1) o.es := hrw
       have B2 := hb1.keep kS (fun _ b hb e => by have := nb b hb; simp at e; omega)
       have HX : Hid (∃ wf P, wf = w1.setCell ⟨w.heap.size + 1 + 1, 2, none⟩ (Value.slice a1 o.es.length c1) ∧ P = ({ kindO 2 with ev := (Value.slice a1 o.es.length c1), es := o.es } : ObjL) ∧ Tw w wf ro P.row.toArray ∧ ObjL.Good wf P ∧ ∀ b, (blkOf P.bv = some b ∨ blkOf P.ev = some b ∨ blkOf P.pv = some b) → w.heap.size + 3 ≤ b) := by
         refine ⟨_, _, rfl, rfl, ?_, ⟨(by decide : (-9223372036854775808 : Int) ≤ 2), (by decide : (2 : Int) ≤ 9223372036854775807), BytesAt.nil _, goodT_nil, B2, HG.out.es, ids_nil _, zeroC_good, zeroG_good⟩, fun b hb => ?_⟩
         · rw [HKR.out, HRow.out (Value.slice a1 o.es.length c1)] at T2
           exact T2
         · rcases hb with h | h | h
           · cases h
           · exact nb b h
           · cases h
       clear ho1 k1 k1' hbk hrw hrl T1 T2 kS nb hb1 B2 HOwn HRows HLen HOne HLim d2))
  obtain ⟨wf, P, hwf, HPX, TF, GF, NF⟩ := HX.out
  rw [← hwf]
  clear hwf HX d1 f1
  have hpz : P.row.toArray.size = 76 := by rw [List.size_toArray]; exact objL_len GF.com.tree.1 GF.tag.target.1
  have hps : (Tryd.prog.info? 33).map (·.size) = some P.row.toArray.size := by rw [hpz]; kernel_rfl
  have hpz2 : Tryd.zeroCells33.size = P.row.toArray.size := by rw [hpz]; kernel_rfl
  have hp1 := objL_one GF
  have kF : Kept [w.heap.size + 1] wf (wf.setRow (w.heap.size + 1) P.row.toArray) := ⟨rfl, rfl, rfl, by simp [World.setRow], fun j _ hn => setRow_other _ _ j _ (fun e => hn (by simp [e]))⟩
  have HPB : Hid (wf.heap[w.heap.size + 1 + 1]? = some (.cells P.row.toArray 33 (0, 0))) := TF.pb
  have HRS : Hid (wf.heap[w.heap.size + 1]? = some (.cells Tryd.zeroCells33 33 (0, 0))) := TF.res
  have HFin : Hid (Kept [] w (wf.setRow (w.heap.size + 1) P.row.toArray)) := kept_setRow TF.kp (by omega) _
  have HGG : Hid (ObjL.Good (wf.setRow (w.heap.size + 1) P.row.toArray) P) := ⟨GF.lo, GF.hi, GF.bv.keep kF (fun _ b hb e => by have := NF b (Or.inl hb); simp at e; omega), GF.blob, GF.ev.keep kF (fun _ b hb e => by have := NF b (Or.inr (Or.inl hb)); simp at e; omega), GF.es, GF.pv.keep kF (fun _ b hb e => by have := NF b (Or.inr (Or.inr hb)); simp at e; omega), GF.com, GF.tag⟩
  clear TF GF NF kF
  have HPr : Hid (P = ({ kindO 2 with ev := (Value.slice a1 o.es.length c1), es := o.es } : ObjL)) := HPX
  clear HPX
  generalize hpr : P.row.toArray = pr at *
  have HPq : Hid (P.row.toArray = pr) := hpr
  clear hpr
  go_wp2_with (first
    | (refine wpList_load_row (by rfl) 33 (.tmp 3) (by rfl) (w.heap.size + 1 + 1) (by rfl) 33 pr (0, 0) _ HPB.out hun rfl hps ?_)
    | (refine wpList_store_row (by rfl) 33 (.tmp 2) (.tmp 42) (by rfl) (w.heap.size + 1) pr (by rfl) (by rfl) 33 _ HRS.out hps hpz2 hp1 ?_))
  refine bodyPost_ret (v := .agg pr) ?_ rfl ⟨_, by rw [← HPr.out, HPq.out], by rw [← HPr.out]; exact HGG.out, HFin.out⟩
  rw [results_cell1 rfl]
  exact run_loadVar_row (P := Tryd.prog) _ (w.heap.size + 1) 33 33 pr (0, 0) _ (setRow_heap _ _ _ _ _ _ HRS.out) hun rfl hps

set_option maxRecDepth 100000 in
set_option maxHeartbeats 4000000 in
theorem onlyCom_any (o : ObjL) (w : World) (hg : ObjL.Good w o) (hk : o.kind = 3) (hn : o.com.parents.length ≤ 8) :
    Calls Tryd.prog 11 #[.agg o.row.toArray] w fun e w' => ∃ pv, e = .returned (.agg ({ kindO 3 with com := o.com, pv := pv } : ObjL).row.toArray) ∧ ObjL.Good w' ({ kindO 3 with com := o.com, pv := pv } : ObjL) ∧ Kept [] w w' := by
  have hoz : o.row.toArray.size = 76 := by rw [List.size_toArray]; exact objL_len hg.com.tree.1 hg.tag.target.1
  have hun := Tryd.underlying33
  have hkz : (kindO 3).row.toArray.size = 76 := by rw [List.size_toArray]; rfl
  have hks : (Tryd.prog.info? 33).map (·.size) = some (kindO 3).row.toArray.size := by rw [hkz]; kernel_rfl
  have hkzz : Tryd.zeroCells33.size = (kindO 3).row.toArray.size := by rw [hkz]; kernel_rfl
  have hk1 : (kindO 3).row.toArray.all (·.oneCell') = true := by kernel_rfl
  have hbl := built_kind 3
  have hin : ((w.alloc (.cells o.row.toArray 33)).alloc (.cells Tryd.zeroCells33 33)).heap.size = w.heap.size + 1 + 1 := by rw [World.size_alloc, World.size_alloc]
  have hb0 : ((w.alloc (.cells o.row.toArray 33)).alloc (.cells Tryd.zeroCells33 33)).heap[w.heap.size]? = some (.cells o.row.toArray 33 (0, 0)) := (Below.heap_alloc _ _ _ (by rw [World.size_alloc]; omega)).trans (heap_alloc_new w _)
  have hc0 := (obj_cells (o := o) hg.com.tree.1 hb0).1
  rw [hk] at hc0
  obtain ⟨W0, hW0⟩ : ∃ W0, W0 = ((w.alloc (.cells o.row.toArray 33)).alloc (.cells Tryd.zeroCells33 33)).alloc (.cells (kindO 3).row.toArray 33) := ⟨_, rfl⟩
  have HW0 : Hid (W0 = ((w.alloc (.cells o.row.toArray 33)).alloc (.cells Tryd.zeroCells33 33)).alloc (.cells (kindO 3).row.toArray 33)) := hW0
  have T0 : Tw w W0 o.row.toArray (kindO 3).row.toArray := by
    rw [hW0]
    refine ⟨(Below.heap_alloc _ _ _ (by omega)).trans hb0, (Below.heap_alloc _ _ _ (by omega)).trans ?_, ?_, (((Kept.refl _ _).alloc _).alloc _).alloc _, by rw [World.size_alloc, hin]; omega⟩
    · have h := heap_alloc_new (w.alloc (.cells o.row.toArray 33)) (.cells Tryd.zeroCells33 33)
      rw [World.size_alloc] at h
      exact h
    · have h := heap_alloc_new ((w.alloc (.cells o.row.toArray 33)).alloc (.cells Tryd.zeroCells33 33)) (.cells (kindO 3).row.toArray 33)
      rw [hin] at h
      exact h
  have HT0 : Hid (Tw w W0 o.row.toArray (kindO 3).row.toArray) := T0
  obtain ⟨q0, q1, q2, q3, q4⟩ := obj_cells (o := o) hg.com.tree.1 T0.box
  rw [hk] at q0
  have HG : Hid (ObjL.Good w o) := hg
  clear T0 hb0 hW0
  obtain ⟨ap, cp, hpv⟩ : ∃ ao cap, o.pv = .slice ao o.com.parents.length cap := by obtain ⟨a, c, h, _⟩ := hg.pv; exact ⟨a, c, h⟩
  have huc := Tryd.underlying29
  obtain ⟨R, hR⟩ : ∃ R, R = o.com.row o.pv := ⟨_, rfl⟩
  have hRl : R.length = 36 := by rw [hR]; exact com_len' _ _ hg.com.tree.1
  have hsc : (Tryd.prog.info? 29).map (·.size) = some R.length := by rw [hRl]; kernel_rfl
  have hsc2 : (Tryd.prog.info? 29).map (·.size) = some R.toArray.size := by rw [List.size_toArray]; exact hsc
  have hRo : R.toArray.all (·.oneCell') = true := all_oneCell_toArray (by rw [hR, hpv]; exact comL_one rfl)
  rw [← hR] at q3
  have HTH : Hid (W0.there (w.heap.size + 1 + 1) 3 R.toArray.size) := HT0.out.there (by rw [List.size_toArray, hRl, hkz]; decide)
  obtain ⟨W1, hW1⟩ : ∃ W1, W1 = W0.setCells (w.heap.size + 1 + 1) 3 R := ⟨_, rfl⟩
  have HL1 : Hid (W0.setCells (w.heap.size + 1 + 1) 3 R.toArray.toList = W1) := hW1.symm
  have T1 := HT0.out.putC 3 R
  have hfit : 3 + R.length ≤ (kindO 3).row.length := by rw [hRl]; decide
  rw [← hW1, setL_put _ _ _ hfit, hR, kind_com o hg.com.tree.1] at T1
  have HT1 : Hid (Tw w W1 o.row.toArray ({ kindO 3 with com := o.com, pv := o.pv } : ObjL).row.toArray) := T1
  have p35 : W1.cell? ⟨w.heap.size, 35, none⟩ = some (.slice ap o.com.parents.length cp) := by
    have h := (obj_cells (o := o) hg.com.tree.1 T1.box).2.2.2.1 32 o.pv (by
      unfold ComL.row
      rw [List.getElem?_append_right (by rw [List.length_map, hg.com.tree.1]; exact Nat.le_refl _), List.length_map, hg.com.tree.1]
      rfl)
    rw [hpv] at h
    exact h
  have HOwn : Hid (W1.ownsRow W1.heap.size 25 32 (.slice none 0 0) 0 []) := World.ownsRow_nil _ _ _ _
  have HRows : Hid (RowsAt W1 (.slice ap o.com.parents.length cp) 32 (o.com.parents.map fun x => x.map (Value.int .u8))) := by rw [← hpv]; exact IdsAt.rows.1 (hg.pv.keep T1.kp (fun _ _ _ => by simp))
  have HLen : Hid (∀ r, r ∈ (o.com.parents.map fun x => x.map (Value.int .u8)) → r.length = 32) := fun r hr => by obtain ⟨e, he, rfl⟩ := List.mem_map.1 hr; rw [List.length_map]; exact (hg.com.parents e he).1
  have HOne : Hid (∀ r, r ∈ (o.com.parents.map fun x => x.map (Value.int .u8)) → ∀ u, u ∈ r → u.oneCell' = true) := fun r hr u hu => by
    obtain ⟨e, he, rfl⟩ := List.mem_map.1 hr
    exact map_oneCell _ u hu
  have HLim : Hid (0 + (o.com.parents.map fun x => x.map (Value.int .u8)).length ≤ 1000000) := by rw [List.length_map]; show 0 + o.com.parents.length ≤ 1000000; omega
  have HRow : Hid (∀ pv, ({ kindO 3 with com := o.com, pv := o.pv } : ObjL).row.toArray.setIfInBounds 35 pv = ({ kindO 3 with com := o.com, pv := pv } : ObjL).row.toArray) := fun pv => by
    have h := objL_set ({ kindO 3 with com := o.com, pv := o.pv } : ObjL) (kindO 3).bv (kindO 3).ev pv hg.com.tree.1
    rw [set_same (show ({ kindO 3 with com := o.com, pv := o.pv } : ObjL).row.toArray[1]? = some (kindO 3).bv from rfl), set_same (show ({ kindO 3 with com := o.com, pv := o.pv } : ObjL).row.toArray[2]? = some (kindO 3).ev from rfl)] at h
    exact h
  have HSz : Hid (w.heap.size + 3 ≤ W1.heap.size) := T1.sz
  have H35 : Hid (∃ c, ({ kindO 3 with com := o.com, pv := o.pv } : ObjL).row.toArray[35]? = some c) := by
    refine ⟨_, Array.getElem?_eq_getElem ?_⟩
    rw [List.size_toArray, objL_len (o := { kindO 3 with com := o.com, pv := o.pv }) hg.com.tree.1 rfl]
    decide
  clear hg q1 q2 q4 T1 hR hRl hW1 hfit
  obtain ⟨ro, hro⟩ : ∃ ro, ro = o.row.toArray := ⟨_, rfl⟩
  obtain ⟨kr, hkr⟩ : ∃ kr, kr = (kindO 3).row.toArray := ⟨_, rfl⟩
  rw [← hro] at hin HW0 HT0 hc0 hoz ⊢
  rw [← hkr] at hks hkzz hk1 hbl HW0 HT0 hkz
  have HKR : Hid (kr = (kindO 3).row.toArray) := hkr
  have hro3 := hro
  clear hro hkr
  rw [← hro3] at HT1
  clear hro3
  go_enter Tryd.func11, Tryd.ntmps11
  go_upto_region 14 with (first
    | (refine wpList_build_some (by rfl) 33 _ (by rfl) kr (by simp; exact hbl) ?_)
    | (refine wpList_store_new (by rfl) 33 (.tmp 3) (.tmp 7) (by rfl) ((w.alloc (.cells ro 33)).alloc (.cells Tryd.zeroCells33 33)) _ kr (by rw [hin]; rfl) (by rfl) hks hkzz hk1 ?_; rw [← HW0.out])
    | (refine wpList_load_mid (by rfl) 29 (.tmp 26) (by rfl) w.heap.size 3 (by rfl) R _ q3 huc rfl hsc ?_)
    | (refine wpList_store_mid (by rfl) 29 (.tmp 28) (.tmp 27) (by rfl) (w.heap.size + 1 + 1) 3 R.toArray (by rfl) (by rfl) HTH.out hsc2 hRo ?_; rw [HL1.out])
    | (at_builtin; refine wpList_append_rows (by rfl) (.tmp 29) (.tmp 32) 26 25 (.agg (zero32.map (Value.int .u8)).toArray) 32 32 Tryd.underlying26 Tryd.zeroIDs rfl (by decide) (by rfl) (v := .slice none 0 0) (n := 0) (xs := []) (by rfl) HOwn.out (X := .slice ap o.com.parents.length cp) (rows := o.com.parents.map fun x => x.map (Value.int .u8)) (by rfl) HRows.out HLen.out HOne.out HLim.out (by decide) (Nat.le_refl _) ?_; intro v1 w1 ho1 k1
       rw [Nat.zero_add, List.nil_append] at ho1
       have k1' : Kept [] W1 w1 := k1
       have hbk := ownsK_blk ho1
       have hrw := ownsK_rows (by decide) HLen.out ho1 (by have := HLim.out; omega)
       obtain ⟨a1, c1, hv1⟩ := own_shape ho1
       subst hv1
       have hrl : (o.com.parents.map fun x => x.map (Value.int .u8)).length = o.com.parents.length := List.length_map ..
       rw [hrl] at hrw hbk ⊢
       have T1 := HT1.out.on k1'
       obtain ⟨cc, hcc⟩ := H35.out
       have d1 : w1.cell? ⟨w.heap.size + 1 + 1, 35, none⟩ = some cc := T1.d hcc
       have f1 := T1.f 35
       have T2 := T1.put 35 (Value.slice a1 o.com.parents.length c1)
       have kS : Kept [w.heap.size + 1 + 1] w1 (w1.setCell ⟨w.heap.size + 1 + 1, 35, none⟩ (Value.slice a1 o.com.parents.length c1)) := (Kept.refl _ _).setCell (Or.inl (by simp)) _
       have nb : ∀ b, blkOf (Value.slice a1 o.com.parents.length c1) = some b → w.heap.size + 3 ≤ b := fun b hb => Nat.le_trans HSz.out (hbk b hb)
       have hb1 : IdsAt w1 (Value.slice a1 o.com.parents.length c1) o.com.parents := IdsAt.rows.2 hrw
       have B2 := hb1.keep kS (fun _ b hb e => by have := nb b hb; simp at e; omega)
       have HX : Hid (∃ wf P, wf = w1.setCell ⟨w.heap.size + 1 + 1, 35, none⟩ (Value.slice a1 o.com.parents.length c1) ∧ P = ({ kindO 3 with com := o.com, pv := (Value.slice a1 o.com.parents.length c1) } : ObjL) ∧ Tw w wf ro P.row.toArray ∧ ObjL.Good wf P ∧ ∀ b, (blkOf P.bv = some b ∨ blkOf P.ev = some b ∨ blkOf P.pv = some b) → w.heap.size + 3 ≤ b) := by
         refine ⟨_, _, rfl, rfl, ?_, ⟨(by decide : (-9223372036854775808 : Int) ≤ 3), (by decide : (3 : Int) ≤ 9223372036854775807), BytesAt.nil _, goodT_nil, ents_nil _, (fun e he => by cases he), B2, HG.out.com, zeroG_good⟩, fun b hb => ?_⟩
         · rw [HRow.out (Value.slice a1 o.com.parents.length c1)] at T2
           exact T2
         · rcases hb with h | h | h
           · cases h
           · cases h
           · exact nb b h
       clear ho1 k1 k1' hbk hrw hrl T1 T2 kS nb hb1 B2 HOwn HRows HLen HOne HLim hcc H35))
  obtain ⟨wf, P, hwf, HPX, TF, GF, NF⟩ := HX.out
  rw [← hwf]
  clear hwf HX d1 f1
  have hpz : P.row.toArray.size = 76 := by rw [List.size_toArray]; exact objL_len GF.com.tree.1 GF.tag.target.1
  have hps : (Tryd.prog.info? 33).map (·.size) = some P.row.toArray.size := by rw [hpz]; kernel_rfl
  have hpz2 : Tryd.zeroCells33.size = P.row.toArray.size := by rw [hpz]; kernel_rfl
  have hp1 := objL_one GF
  have kF : Kept [w.heap.size + 1] wf (wf.setRow (w.heap.size + 1) P.row.toArray) := ⟨rfl, rfl, rfl, by simp [World.setRow], fun j _ hn => setRow_other _ _ j _ (fun e => hn (by simp [e]))⟩
  have HPB : Hid (wf.heap[w.heap.size + 1 + 1]? = some (.cells P.row.toArray 33 (0, 0))) := TF.pb
  have HRS : Hid (wf.heap[w.heap.size + 1]? = some (.cells Tryd.zeroCells33 33 (0, 0))) := TF.res
  have HFin : Hid (Kept [] w (wf.setRow (w.heap.size + 1) P.row.toArray)) := kept_setRow TF.kp (by omega) _
  have HGG : Hid (ObjL.Good (wf.setRow (w.heap.size + 1) P.row.toArray) P) := ⟨GF.lo, GF.hi, GF.bv.keep kF (fun _ b hb e => by have := NF b (Or.inl hb); simp at e; omega), GF.blob, GF.ev.keep kF (fun _ b hb e => by have := NF b (Or.inr (Or.inl hb)); simp at e; omega), GF.es, GF.pv.keep kF (fun _ b hb e => by have := NF b (Or.inr (Or.inr hb)); simp at e; omega), GF.com, GF.tag⟩
  clear TF GF NF kF
  have HPr : Hid (P = ({ kindO 3 with com := o.com, pv := (Value.slice a1 o.com.parents.length c1) } : ObjL)) := HPX
  clear HPX
  generalize hpr : P.row.toArray = pr at *
  have HPq : Hid (P.row.toArray = pr) := hpr
  clear hpr
  go_wp2_with (first
    | (refine wpList_load_row (by rfl) 33 (.tmp 3) (by rfl) (w.heap.size + 1 + 1) (by rfl) 33 pr (0, 0) _ HPB.out hun rfl hps ?_)
    | (refine wpList_store_row (by rfl) 33 (.tmp 2) (.tmp 42) (by rfl) (w.heap.size + 1) pr (by rfl) (by rfl) 33 _ HRS.out hps hpz2 hp1 ?_))
  refine bodyPost_ret (v := .agg pr) ?_ rfl ⟨_, by rw [← HPr.out, HPq.out], by rw [← HPr.out]; exact HGG.out, HFin.out⟩
  rw [results_cell1 rfl]
  exact run_loadVar_row (P := Tryd.prog) _ (w.heap.size + 1) 33 33 pr (0, 0) _ (setRow_heap _ _ _ _ _ _ HRS.out) hun rfl hps

set_option maxRecDepth 100000 in
set_option maxHeartbeats 4000000 in
theorem onlyTag_any (o : ObjL) (w : World) (hg : ObjL.Good w o) (hk : o.kind = 4) :
    Calls Tryd.prog 11 #[.agg o.row.toArray] w fun e w' => e = .returned (.agg ({ kindO 4 with tag := o.tag } : ObjL).row.toArray) ∧ ObjL.Good w' ({ kindO 4 with tag := o.tag } : ObjL) ∧ Kept [] w w' := by
  have hoz : o.row.toArray.size = 76 := by rw [List.size_toArray]; exact objL_len hg.com.tree.1 hg.tag.target.1
  have hun := Tryd.underlying33
  have hkz : (kindO 4).row.toArray.size = 76 := by rw [List.size_toArray]; rfl
  have hks : (Tryd.prog.info? 33).map (·.size) = some (kindO 4).row.toArray.size := by rw [hkz]; kernel_rfl
  have hkzz : Tryd.zeroCells33.size = (kindO 4).row.toArray.size := by rw [hkz]; kernel_rfl
  have hk1 : (kindO 4).row.toArray.all (·.oneCell') = true := by kernel_rfl
  have hbl := built_kind 4
  have hin : ((w.alloc (.cells o.row.toArray 33)).alloc (.cells Tryd.zeroCells33 33)).heap.size = w.heap.size + 1 + 1 := by rw [World.size_alloc, World.size_alloc]
  have hb0 : ((w.alloc (.cells o.row.toArray 33)).alloc (.cells Tryd.zeroCells33 33)).heap[w.heap.size]? = some (.cells o.row.toArray 33 (0, 0)) := (Below.heap_alloc _ _ _ (by rw [World.size_alloc]; omega)).trans (heap_alloc_new w _)
  have hc0 := (obj_cells (o := o) hg.com.tree.1 hb0).1
  rw [hk] at hc0
  obtain ⟨W0, hW0⟩ : ∃ W0, W0 = ((w.alloc (.cells o.row.toArray 33)).alloc (.cells Tryd.zeroCells33 33)).alloc (.cells (kindO 4).row.toArray 33) := ⟨_, rfl⟩
  have HW0 : Hid (W0 = ((w.alloc (.cells o.row.toArray 33)).alloc (.cells Tryd.zeroCells33 33)).alloc (.cells (kindO 4).row.toArray 33)) := hW0
  have T0 : Tw w W0 o.row.toArray (kindO 4).row.toArray := by
    rw [hW0]
    refine ⟨(Below.heap_alloc _ _ _ (by omega)).trans hb0, (Below.heap_alloc _ _ _ (by omega)).trans ?_, ?_, (((Kept.refl _ _).alloc _).alloc _).alloc _, by rw [World.size_alloc, hin]; omega⟩
    · have h := heap_alloc_new (w.alloc (.cells o.row.toArray 33)) (.cells Tryd.zeroCells33 33)
      rw [World.size_alloc] at h
      exact h
    · have h := heap_alloc_new ((w.alloc (.cells o.row.toArray 33)).alloc (.cells Tryd.zeroCells33 33)) (.cells (kindO 4).row.toArray 33)
      rw [hin] at h
      exact h
  have HT0 : Hid (Tw w W0 o.row.toArray (kindO 4).row.toArray) := T0
  obtain ⟨q0, q1, q2, q3, q4⟩ := obj_cells (o := o) hg.com.tree.1 T0.box
  rw [hk] at q0
  have HG : Hid (ObjL.Good w o) := hg
  clear T0 hb0 hW0
  have hut := Tryd.underlying31
  obtain ⟨R, hR⟩ : ∃ R, R = o.tag.row := ⟨_, rfl⟩
  have hRl : R.length = 37 := by rw [hR]; simp [TagL.row, hg.tag.target.1]
  have hsc : (Tryd.prog.info? 31).map (·.size) = some R.length := by rw [hRl]; kernel_rfl
  have hsc2 : (Tryd.prog.info? 31).map (·.size) = some R.toArray.size := by rw [List.size_toArray]; exact hsc
  have hRo : R.toArray.all (·.oneCell') = true := all_oneCell_toArray (by rw [hR]; exact tagL_one)
  rw [← hR] at q4
  have HTH : Hid (W0.there (w.heap.size + 1 + 1) 39 R.toArray.size) := HT0.out.there (by rw [List.size_toArray, hRl, hkz]; decide)
  obtain ⟨W1, hW1⟩ : ∃ W1, W1 = W0.setCells (w.heap.size + 1 + 1) 39 R := ⟨_, rfl⟩
  have HL1 : Hid (W0.setCells (w.heap.size + 1 + 1) 39 R.toArray.toList = W1) := hW1.symm
  have T1 := HT0.out.putC 39 R
  have hfit : 39 + R.length ≤ (kindO 4).row.length := by rw [hRl]; decide
  rw [← hW1, setL_put _ _ _ hfit, hR, kind_tag o hg.tag.target.1] at T1
  have HX : Hid (∃ wf P, wf = W1 ∧ P = ({ kindO 4 with tag := o.tag } : ObjL) ∧ Tw w wf o.row.toArray P.row.toArray ∧ ObjL.Good wf P ∧ ∀ b, (blkOf P.bv = some b ∨ blkOf P.ev = some b ∨ blkOf P.pv = some b) → w.heap.size + 3 ≤ b) := by
    refine ⟨_, _, rfl, rfl, T1, ⟨(by decide : (-9223372036854775808 : Int) ≤ 4), (by decide : (4 : Int) ≤ 9223372036854775807), BytesAt.nil _, goodT_nil, ents_nil _, (fun e he => by cases he), ids_nil _, zeroC_good, hg.tag⟩, fun b hb => ?_⟩
    rcases hb with h | h | h <;> cases h
  clear hg q1 q2 q3 T1 hR hRl HG hW1 hfit
  obtain ⟨ro, hro⟩ : ∃ ro, ro = o.row.toArray := ⟨_, rfl⟩
  obtain ⟨kr, hkr⟩ : ∃ kr, kr = (kindO 4).row.toArray := ⟨_, rfl⟩
  rw [← hro] at hin HW0 HT0 hc0 hoz ⊢
  rw [← hkr] at hks hkzz hk1 hbl HW0 HT0 hkz
  have HKR : Hid (kr = (kindO 4).row.toArray) := hkr
  clear hro hkr
  clear HKR
  go_enter Tryd.func11, Tryd.ntmps11
  go_upto_region 14 with (first
    | (refine wpList_build_some (by rfl) 33 _ (by rfl) kr (by simp; exact hbl) ?_)
    | (refine wpList_store_new (by rfl) 33 (.tmp 3) (.tmp 7) (by rfl) ((w.alloc (.cells ro 33)).alloc (.cells Tryd.zeroCells33 33)) _ kr (by rw [hin]; rfl) (by rfl) hks hkzz hk1 ?_; rw [← HW0.out])
    | (refine wpList_load_mid (by rfl) 31 (.tmp 39) (by rfl) w.heap.size 39 (by rfl) R _ q4 hut rfl hsc ?_)
    | (refine wpList_store_mid (by rfl) 31 (.tmp 41) (.tmp 40) (by rfl) (w.heap.size + 1 + 1) 39 R.toArray (by rfl) (by rfl) HTH.out hsc2 hRo ?_; rw [HL1.out]))
  obtain ⟨wf, P, hwf, HPX, TF, GF, NF⟩ := HX.out
  rw [← hwf]
  clear hwf HX
  have hpz : P.row.toArray.size = 76 := by rw [List.size_toArray]; exact objL_len GF.com.tree.1 GF.tag.target.1
  have hps : (Tryd.prog.info? 33).map (·.size) = some P.row.toArray.size := by rw [hpz]; kernel_rfl
  have hpz2 : Tryd.zeroCells33.size = P.row.toArray.size := by rw [hpz]; kernel_rfl
  have hp1 := objL_one GF
  have kF : Kept [w.heap.size + 1] wf (wf.setRow (w.heap.size + 1) P.row.toArray) := ⟨rfl, rfl, rfl, by simp [World.setRow], fun j _ hn => setRow_other _ _ j _ (fun e => hn (by simp [e]))⟩
  have HPB : Hid (wf.heap[w.heap.size + 1 + 1]? = some (.cells P.row.toArray 33 (0, 0))) := TF.pb
  have HRS : Hid (wf.heap[w.heap.size + 1]? = some (.cells Tryd.zeroCells33 33 (0, 0))) := TF.res
  have HFin : Hid (Kept [] w (wf.setRow (w.heap.size + 1) P.row.toArray)) := kept_setRow TF.kp (by omega) _
  have HGG : Hid (ObjL.Good (wf.setRow (w.heap.size + 1) P.row.toArray) P) := ⟨GF.lo, GF.hi, GF.bv.keep kF (fun _ b hb e => by have := NF b (Or.inl hb); simp at e; omega), GF.blob, GF.ev.keep kF (fun _ b hb e => by have := NF b (Or.inr (Or.inl hb)); simp at e; omega), GF.es, GF.pv.keep kF (fun _ b hb e => by have := NF b (Or.inr (Or.inr hb)); simp at e; omega), GF.com, GF.tag⟩
  clear TF GF NF kF
  have HPr : Hid (P = ({ kindO 4 with tag := o.tag } : ObjL)) := HPX
  clear HPX
  generalize hpr : P.row.toArray = pr at *
  have HPq : Hid (P.row.toArray = pr) := hpr
  clear hpr
  go_wp2_with (first
    | (refine wpList_load_row (by rfl) 33 (.tmp 3) (by rfl) (w.heap.size + 1 + 1) (by rfl) 33 pr (0, 0) _ HPB.out hun rfl hps ?_)
    | (refine wpList_store_row (by rfl) 33 (.tmp 2) (.tmp 42) (by rfl) (w.heap.size + 1) pr (by rfl) (by rfl) 33 _ HRS.out hps hpz2 hp1 ?_))
  refine bodyPost_ret (v := .agg pr) ?_ rfl ⟨by rw [← HPr.out, HPq.out], by rw [← HPr.out]; exact HGG.out, HFin.out⟩
  rw [results_cell1 rfl]
  exact run_loadVar_row (P := Tryd.prog) _ (w.heap.size + 1) 33 33 pr (0, 0) _ (setRow_heap _ _ _ _ _ _ HRS.out) hun rfl hps

/-- Only, of an object that can be written. -/
theorem Only_any (o : ObjL) (w : World) (hg : ObjL.Good w o) (he : errO o = 0) :
    Calls Tryd.prog 11 #[.agg o.row.toArray] w fun e w' => ∃ bv ev pv, e = .returned (.agg (onlyO o bv ev pv).row.toArray) ∧ ObjL.Good w' (onlyO o bv ev pv) ∧ Kept [] w w' := by
  have hf := (errO_zero he).1
  rcases enc_kind he with k | k | k | k
  · have e : ∀ bv ev pv, onlyO o bv ev pv = { kindO 1 with bv := bv, blob := o.blob } := fun bv ev pv => by unfold onlyO; rw [if_pos k]
    refine (onlyBlob_any o w hg k).mono ?_
    rintro e' w' ⟨bv, h1, h2, h3⟩
    exact ⟨bv, nilV, nilV, by rw [e]; exact h1, by rw [e]; exact h2, h3⟩
  · have e : ∀ bv ev pv, onlyO o bv ev pv = { kindO 2 with ev := ev, es := o.es } := fun bv ev pv => by unfold onlyO; rw [if_neg (by omega), if_pos k]
    have ef : faultO o = faultT o.es := by unfold faultO; rw [if_neg (by omega), if_pos k]
    refine (onlyTree_any o w hg k (faultT_zero (ef ▸ hf)).1).mono ?_
    rintro e' w' ⟨ev, h1, h2, h3⟩
    exact ⟨nilV, ev, nilV, by rw [e]; exact h1, by rw [e]; exact h2, h3⟩
  · have e : ∀ bv ev pv, onlyO o bv ev pv = { kindO 3 with com := o.com, pv := pv } := fun bv ev pv => by unfold onlyO; rw [if_neg (by omega), if_neg (by omega), if_pos k]
    have ef : faultO o = faultC o.com := by unfold faultO; rw [if_neg (by omega), if_neg (by omega), if_pos k]
    refine (onlyCom_any o w hg k (faultC_zero (ef ▸ hf)).1).mono ?_
    rintro e' w' ⟨pv, h1, h2, h3⟩
    exact ⟨nilV, nilV, pv, by rw [e]; exact h1, by rw [e]; exact h2, h3⟩
  · have e : ∀ bv ev pv, onlyO o bv ev pv = { kindO 4 with tag := o.tag } := fun bv ev pv => by unfold onlyO; rw [if_neg (by omega), if_neg (by omega), if_neg (by omega)]
    refine (onlyTag_any o w hg k).mono ?_
    rintro e' w' ⟨h1, h2, h3⟩
    exact ⟨nilV, nilV, nilV, by rw [e]; exact h1, by rw [e]; exact h2, h3⟩
end Go.Proofs.YtnfbiemmdaenpaaDoor
