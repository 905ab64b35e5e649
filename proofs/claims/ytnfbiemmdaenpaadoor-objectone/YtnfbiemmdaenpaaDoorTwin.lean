/-
  WALK: satchellaw3.twin: the same object in memory of its own.
-/
import Derived.Test.YtnfbiemmdaenpaaDoorHd
import Derived.Test.YtnfbiemmdaenpaaDoorRCopy
import Derived.Test.YtnfbiemmdaenpaaDoorOxO
import Derived.Test.YtnfbiemmdaenpaaDoorEnt3
import Derived.Test.YtnfbiemmdaenpaaDoorPar0
import Derived.Deep.CutRange
namespace Go.Proofs.YtnfbiemmdaenpaaDoor
open Go.RowKit

/-- twin between its steps: the object that was handed in, the answer, the copy. -/
structure Tw (w W : World) (ro rp : Array Value) : Prop where
  box : W.heap[w.heap.size]? = some (.cells ro 33 (0, 0))
  res : W.heap[w.heap.size + 1]? = some (.cells Tryd.zeroCells33 33 (0, 0))
  pb : W.heap[w.heap.size + 1 + 1]? = some (.cells rp 33 (0, 0))
  kp : Kept [] w W
  sz : w.heap.size + 3 ≤ W.heap.size
section
variable {w W W' : World} {ro rp : Array Value}
theorem Tw.on (h : Tw w W ro rp) (k : Kept [] W W') : Tw w W' ro rp := ⟨k.heap h.box (by simp), k.heap h.res (by simp), k.heap h.pb (by simp), h.kp.then k, Nat.le_trans h.sz k.size⟩
theorem Tw.c (h : Tw w W ro rp) {i : Nat} {v : Value} (hi : ro[i]? = some v) : W.cell? ⟨w.heap.size, i, none⟩ = some v := by rw [cell_of_row _ _ _ _ _ _ h.box]; exact hi
theorem Tw.d (h : Tw w W ro rp) {i : Nat} {v : Value} (hi : rp[i]? = some v) : W.cell? ⟨w.heap.size + 1 + 1, i, none⟩ = some v := by rw [cell_of_row _ _ _ _ _ _ h.pb]; exact hi
theorem Tw.f (h : Tw w W ro rp) (i : Nat) : W.frozen? ⟨w.heap.size + 1 + 1, i, none⟩ = false := frozen_of_row W _ _ _ _ h.pb
theorem Tw.row (h : Tw w W ro rp) {g : Nat} (hg : w.heap.size + 3 ≤ g) (cs : Array Value) : Tw w (W.setRow g cs) ro rp :=
  ⟨(setRow_other W g _ cs (by omega)).trans h.box, (setRow_other W g _ cs (by omega)).trans h.res, (setRow_other W g _ cs (by omega)).trans h.pb, kept_setRow h.kp (by omega) cs, by rw [show (W.setRow g cs).heap.size = W.heap.size by simp [World.setRow]]; exact h.sz⟩
theorem Tw.put (h : Tw w W ro rp) (i : Nat) (v : Value) : Tw w (W.setCell ⟨w.heap.size + 1 + 1, i, none⟩ v) ro (rp.setIfInBounds i v) := by
  rw [setCell_eq_setRow W _ i rp _ _ v h.pb]
  exact ⟨(setRow_other W _ _ _ (by omega)).trans h.box, (setRow_other W _ _ _ (by omega)).trans h.res, setRow_heap W _ _ _ _ _ h.pb, kept_setRow h.kp (by omega) _, by rw [show (W.setRow (w.heap.size + 1 + 1) (rp.setIfInBounds i v)).heap.size = W.heap.size by simp [World.setRow]]; exact h.sz⟩
theorem Tw.other (h : Tw w W ro rp) (i : Nat) (v : Value) {g : Nat} (hg : g ≠ w.heap.size + 1 + 1) : (W.setCell ⟨w.heap.size + 1 + 1, i, none⟩ v).heap[g]? = W.heap[g]? := by
  rw [setCell_eq_setRow W _ i rp _ _ v h.pb]
  exact setRow_other W _ _ _ hg
theorem set_same {a : Array Value} {i : Nat} {v : Value} (h : a[i]? = some v) : a.setIfInBounds i v = a := by
  refine Array.ext_getElem? fun j => ?_
  rw [Array.getElem?_setIfInBounds]
  split
  · rename_i e; subst e; rw [h]; split
    · rfl
    · rename_i hn; rw [Array.getElem?_eq_none (by omega)] at h; cases h
  · rfl
end

/-- A list of n structs of k cells made anew. -/
theorem made_k {t e : TypeId} {z : List Value} {k bs n : Nat} (ht : Tryd.prog.underlying t = some (.slice e)) (hz : (Tryd.prog.info? e).map (fun i => (i.zero, i.size, i.bytes)) = some (some (.agg z.toArray), k, bs)) (hk : 0 < k) (hzl : z.length = k) (hb : (bs : Int) * n ≤ 281474976710656) (hn : (n : Int) ≤ 9223372036854775807) (W : World) :
    (Instr.makeSlice t (.int .i64 (n : Int)) (.int .i64 (n : Int))).run Tryd.prog W = .ok (.slice (some ⟨W.heap.size, 0, none⟩) n n) (W.alloc (.cells (List.replicate n z).flatten.toArray e)) := by
  obtain ⟨i0, hi, hez⟩ := Option.map_eq_some_iff.1 hz
  simp only [Prod.mk.injEq] at hez
  obtain ⟨hz0, hz1, hz2⟩ := hez
  have h := run_make (P := Tryd.prog) W t e i0 (.agg z.toArray) ht hi hz0 .i64 .i64 (n : Int) (n : Int) (by omega) (Int.le_refl _) (by rw [hz2]; exact hb) hn
  rw [Int.toNat_natCast, hz1] at h
  rw [h, ← made_rows z k n hk hzl]
  rfl
theorem rep_len (z : List Value) (k n : Nat) (hz : z.length = k) : (List.replicate n z).flatten.toArray.size = n * k := by
  rw [List.size_toArray, flat_len k _ (fun r hr => by rw [(List.mem_replicate.1 hr).2]; exact hz), List.length_replicate]

theorem Tryd.zeroIDs : (Tryd.prog.info? 25).map (fun i => (i.zero, i.size, i.bytes)) = some (some (.agg (zero32.map (Value.int .u8)).toArray), 32, 32) := by kernel_rfl

theorem slice_one {w : World} {v : Value} {ys : List Int} (h : BytesAt w v ys) : v.oneCell' = true := by obtain ⟨ao, cap, rfl, _⟩ := h; rfl
theorem objL_one {w : World} {o : ObjL} (hg : ObjL.Good w o) : o.row.toArray.all (·.oneCell') = true := all_oneCell_toArray fun v hv => by
  obtain ⟨_, _, e2, _⟩ := hg.ev.form
  obtain ⟨_, _, e3, _⟩ := hg.pv
  have e1 := slice_one hg.bv
  have h2 : o.ev.oneCell' = true := by rw [e2]; rfl
  have h3 : o.pv.oneCell' = true := by rw [e3]; rfl
  unfold ObjL.row ComL.row TagL.row at hv
  simp only [List.mem_append, List.mem_cons, List.not_mem_nil, or_false] at hv
  rcases hv with (rfl | rfl | rfl) | (hv | rfl | rfl | rfl | rfl) | (hv | rfl | rfl | rfl | rfl | rfl)
  · rfl
  · exact e1
  · exact h2
  · exact map_oneCell _ v hv
  · exact h3
  · rfl
  · rfl
  · rfl
  · exact map_oneCell _ v hv
  · rfl
  · rfl
  · rfl
  · rfl
  · rfl
theorem objL_set (o : ObjL) (bv ev pv : Value) (hl : o.com.tree.length = 32) : ((o.row.toArray.setIfInBounds 1 bv).setIfInBounds 2 ev).setIfInBounds 35 pv = ({ o with bv := bv, ev := ev, pv := pv } : ObjL).row.toArray := by
  have e : ((o.row.toArray.setIfInBounds 1 bv).setIfInBounds 2 ev) = ([Value.int .i64 o.kind, bv, ev] ++ (o.com.row o.pv ++ o.tag.row)).toArray := rfl
  rw [e, List.setIfInBounds_toArray, List.set_append_right _ _ (by show 3 ≤ 35; decide)]
  show ([Value.int .i64 o.kind, bv, ev] ++ (o.com.row o.pv ++ o.tag.row).set 32 pv).toArray = _
  unfold ComL.row
  rw [List.append_assoc, List.set_append_right _ _ (by rw [List.length_map, hl]; exact Nat.le_refl _), List.length_map, hl]
  show ([Value.int .i64 o.kind, bv, ev] ++ (o.com.tree.map (Value.int .u8) ++ ([pv, .string (strOfNums o.com.who), .int .u64 o.com.time, .string (strOfNums o.com.text)] ++ o.tag.row))).toArray = _
  unfold ObjL.row ComL.row
  rw [List.append_assoc]

set_option maxRecDepth 100000 in
set_option maxHeartbeats 4000000 in
theorem twin_any (o : ObjL) (w : World) (hg : ObjL.Good w o) (hf : o.Fits) :
    Calls Tryd.prog 7 #[.agg o.row.toArray] w fun e w' => ∃ bv ev pv, e = .returned (.agg ({ o with bv := bv, ev := ev, pv := pv } : ObjL).row.toArray) ∧ ObjL.Good w' { o with bv := bv, ev := ev, pv := pv } ∧ Kept [] w w' := by
  have hoz : o.row.toArray.size = 76 := by rw [List.size_toArray]; exact objL_len hg.com.tree.1 hg.tag.target.1
  have hos : (Tryd.prog.info? 33).map (·.size) = some o.row.toArray.size := by rw [hoz]; kernel_rfl
  have hzz : Tryd.zeroCells33.size = o.row.toArray.size := by rw [hoz]; kernel_rfl
  have HB : Hid (((w.alloc (.cells o.row.toArray 33)).alloc (.cells Tryd.zeroCells33 33)).heap[w.heap.size]? = some (.cells o.row.toArray 33 (0, 0))) := (Below.heap_alloc _ _ _ (by rw [World.size_alloc]; omega)).trans (heap_alloc_new w _)
  have hun := Tryd.underlying33
  have hro1 : o.row.toArray.all (·.oneCell') = true := objL_one hg
  have hb1 : o.row.toArray[1]? = some o.bv := rfl
  have hb2 : o.row.toArray[2]? = some o.ev := rfl
  have hb3 : o.row.toArray[35]? = some o.pv := by
    rw [List.getElem?_toArray]
    unfold ObjL.row ComL.row
    rw [List.getElem?_append_right (by show 3 ≤ 35; decide), show (35 - [Value.int .i64 o.kind, o.bv, o.ev].length) = 32 from rfl, List.append_assoc, List.getElem?_append_right (by rw [List.length_map, hg.com.tree.1]; exact Nat.le_refl _), List.length_map, hg.com.tree.1]
    rfl
  have HR1 : Hid (o.row.toArray[1]? = some o.bv ∧ o.row.toArray[2]? = some o.ev ∧ o.row.toArray[35]? = some o.pv) := ⟨hb1, hb2, hb3⟩
  have HRow : Hid (∀ bv ev pv, ((o.row.toArray.setIfInBounds 1 bv).setIfInBounds 2 ev).setIfInBounds 35 pv = ({ o with bv := bv, ev := ev, pv := pv } : ObjL).row.toArray) := fun bv ev pv => objL_set o bv ev pv hg.com.tree.1
  generalize o.row.toArray = ro at *
  have hone : ro.all (·.oneCell') = true := hro1
  have HT0 : Hid (Tw w (((w.alloc (.cells ro 33)).alloc (.cells Tryd.zeroCells33 33)).alloc (.cells ro 33)) ro ro) := by
    have e : ((w.alloc (.cells ro 33)).alloc (.cells Tryd.zeroCells33 33)).heap.size = w.heap.size + 1 + 1 := by rw [World.size_alloc, World.size_alloc]
    refine ⟨(Below.heap_alloc _ _ _ (by omega)).trans HB.out, (Below.heap_alloc _ _ _ (by omega)).trans ?_, ?_, (((Kept.refl _ _).alloc _).alloc _).alloc _, by rw [World.size_alloc, e]; omega⟩
    · have h := heap_alloc_new (w.alloc (.cells ro 33)) (.cells Tryd.zeroCells33 33)
      rw [World.size_alloc] at h
      exact h
    · have h := heap_alloc_new ((w.alloc (.cells ro 33)).alloc (.cells Tryd.zeroCells33 33)) (.cells ro 33)
      rw [e] at h
      exact h
  have hin : ((w.alloc (.cells ro 33)).alloc (.cells Tryd.zeroCells33 33)).heap.size = w.heap.size + 1 + 1 := by rw [World.size_alloc, World.size_alloc]
  obtain ⟨ab, cb, hbv, hb0, hbn, _⟩ := hg.bv
  have c1 := HT0.out.c hb1
  rw [hbv] at c1
  have HG : Hid (ObjL.Good w o) := hg
  have HF : Hid o.Fits := hf
  clear hg hf hb1 hb2 hb3
  go_enter Tryd.func7, Tryd.ntmps7
  go_upto_if 7 with (first
    | (refine wpList_load_row (by rfl) 33 (.tmp 1) (by rfl) w.heap.size (by rfl) 33 ro (0, 0) _ HB.out hun rfl hos ?_)
    | (refine wpList_store_new (by rfl) 33 (.tmp 3) (.tmp 4) (by rfl) ((w.alloc (.cells ro 33)).alloc (.cells Tryd.zeroCells33 33)) _ ro (by rw [hin]; rfl) (by rfl) hos hzz hone ?_))
  generalize (((w.alloc (.cells ro 33)).alloc (.cells Tryd.zeroCells33 33)).alloc (.cells ro 33)) = W0 at *
  go_cut [] from 4 to 11 (fun wx => Hid (∃ bv, Tw w wx ro (ro.setIfInBounds 1 bv) ∧ BytesAt wx bv o.blob ∧ ∀ b, blkOf bv = some b → w.heap.size + 3 ≤ b))
  case first =>
    cases ab with
    | none =>
      have e1 : cb = 0 := hbn rfl
      have e2 : o.blob = [] := List.eq_nil_of_length_eq_zero (by omega)
      have HN : Hid (∃ bv, Tw w W0 ro (ro.setIfInBounds 1 bv) ∧ BytesAt W0 bv o.blob ∧ ∀ b, blkOf bv = some b → w.heap.size + 3 ≤ b) := by
        refine ⟨o.bv, by rw [set_same HR1.out.1]; exact HT0.out, HG.out.bv.keep HT0.out.kp (fun _ _ _ => by simp), fun b hb => ?_⟩
        rw [hbv] at hb
        simp [blkOf] at hb
      go_wp2
      go_meet
      exact HN.out
    | some a =>
      have hcopy := Copy_any (.slice (some a) o.blob.length cb) o.blob W0 (by rw [← hbv]; exact HG.out.bv.keep HT0.out.kp (fun _ _ _ => by simp)) (Nat.le_trans HG.out.blob.2 (by decide))
      have hsz := HT0.out.sz
      go_wp2_with fail
      go_at_call 23
      refine hcopy.mono ?_
      rintro e w1 ⟨rfl, row1, k1⟩
      have T1 := HT0.out.on k1
      obtain ⟨cc, d1⟩ : ∃ c, w1.cell? ⟨w.heap.size + 1 + 1, 1, none⟩ = some c := ⟨_, T1.d (Array.getElem?_eq_getElem (by rw [hoz]; decide))⟩
      have f1 := T1.f 1
      have T2 := T1.put 1 (.slice (some ⟨W0.heap.size, 0, none⟩) o.blob.length o.blob.length)
      have kS : Kept [w.heap.size + 1 + 1] w1 (w1.setCell ⟨w.heap.size + 1 + 1, 1, none⟩ (.slice (some ⟨W0.heap.size, 0, none⟩) o.blob.length o.blob.length)) := (Kept.refl _ _).setCell (Or.inl (by simp)) _
      have nb : ∀ b, blkOf (.slice (some ⟨W0.heap.size, 0, none⟩) o.blob.length o.blob.length) = some b → w.heap.size + 3 ≤ b := fun b hb => by
        have e : W0.heap.size = b := by simpa [blkOf] using hb
        omega
      have B2 := (row_bytes' row1).keep kS (fun _ b hb e => by have := nb b hb; simp at e; omega)
      have HN : Hid (∃ bv, Tw w (w1.setCell ⟨w.heap.size + 1 + 1, 1, none⟩ (.slice (some ⟨W0.heap.size, 0, none⟩) o.blob.length o.blob.length)) ro (ro.setIfInBounds 1 bv) ∧ BytesAt (w1.setCell ⟨w.heap.size + 1 + 1, 1, none⟩ (.slice (some ⟨W0.heap.size, 0, none⟩) o.blob.length o.blob.length)) bv o.blob ∧ ∀ b, blkOf bv = some b → w.heap.size + 3 ≤ b) := ⟨_, T2, B2, nb⟩
      clear T1 T2 kS B2 k1 row1 nb hcopy
      go_wp2
      go_meet
      exact HN.out
  case rest =>
  obtain ⟨bv, T1, B1, nb1⟩ := hcut.out
  have c2 := T1.c HR1.out.2.1
  obtain ⟨a2, q2, hv2, hl2, hz2, hm2, hc2⟩ := HG.out.ev
  rw [List.length_map] at hv2 hl2 hm2
  rw [hv2] at c2
  have HP1 : Hid (BytesAt wc bv o.blob ∧ ∀ b, blkOf bv = some b → w.heap.size + 3 ≤ b) := ⟨B1, nb1⟩
  have HT1 : Hid (Tw w wc ro (ro.setIfInBounds 1 bv)) := T1
  have HC2 : Hid (o.es ≠ [] → ∃ b off, a2 = some ⟨b, off, none⟩ ∧ ∀ (i : Nat) (cs : List Value), (o.es.map EntL.row)[i]? = some cs → w.rangeAt b (off + i * 34) cs) := fun hne => hc2 (by simpa using hne)
  clear hcut T1 B1 nb1 hc2 c1
  go_upto_if 14 with fail
  go_cut [] from 12 to 24 (fun wx => Hid (∃ ev, Tw w wx ro ((ro.setIfInBounds 1 bv).setIfInBounds 2 ev) ∧ (BytesAt wx bv o.blob ∧ ∀ b, blkOf bv = some b → w.heap.size + 3 ≤ b) ∧ EntsAt wx ev o.es ∧ ∀ b, blkOf ev = some b → w.heap.size + 3 ≤ b))
  case first =>
    cases a2 with
    | none =>
      have e1 : q2 = 0 := hz2 rfl
      have e2 : o.es = [] := List.eq_nil_of_length_eq_zero (by omega)
      have HN : Hid (∃ ev, Tw w wc ro ((ro.setIfInBounds 1 bv).setIfInBounds 2 ev) ∧ (BytesAt wc bv o.blob ∧ ∀ b, blkOf bv = some b → w.heap.size + 3 ≤ b) ∧ EntsAt wc ev o.es ∧ ∀ b, blkOf ev = some b → w.heap.size + 3 ≤ b) := by
        refine ⟨o.ev, by rw [set_same (by rw [Array.getElem?_setIfInBounds]; simpa using HR1.out.2.1)]; exact HT1.out, HP1.out, HG.out.ev.keep HT1.out.kp (fun _ _ _ => by simp), fun b hb => ?_⟩
        rw [hv2] at hb
        simp [blkOf] at hb
      clear HC2
      go_wp2
      go_meet
      exact HN.out
    | some a =>
      have hmk := made_k (t := 23) (e := 74) Tryd.underlying23 Tryd.zeroEnt (by decide) (by rfl) (n := o.es.length) (by have := HF.out.es; omega) (by omega)
      have hZs := rep_len zeroE.row 34 o.es.length (by rfl)
      generalize (List.replicate o.es.length zeroE.row).flatten.toArray = Z at *
      have kA : Kept [] wc (wc.alloc (.cells Z 74)) := (Kept.refl _ _).alloc _
      have TA := HT1.out.on kA
      obtain ⟨cc, dA⟩ : ∃ c, (wc.alloc (.cells Z 74)).cell? ⟨w.heap.size + 1 + 1, 2, none⟩ = some c := ⟨_, TA.d (Array.getElem?_eq_getElem (by simp [hoz]))⟩
      have fA := TA.f 2
      have cA := TA.c HR1.out.2.1
      rw [hv2] at cA
      have T2 := TA.put 2 (.slice (some ⟨wc.heap.size, 0, none⟩) o.es.length o.es.length)
      have g2 := (TA.other 2 (.slice (some ⟨wc.heap.size, 0, none⟩) o.es.length o.es.length) (g := wc.heap.size) (by have := HT1.out.sz; omega)).trans (heap_alloc_new wc _)
      have kS : Kept [w.heap.size + 1 + 1] (wc.alloc (.cells Z 74)) ((wc.alloc (.cells Z 74)).setCell ⟨w.heap.size + 1 + 1, 2, none⟩ (.slice (some ⟨wc.heap.size, 0, none⟩) o.es.length o.es.length)) := (Kept.refl _ _).setCell (Or.inl (by simp)) _
      have HW2 : Hid (∃ X, X = (wc.alloc (.cells Z 74)).setCell ⟨w.heap.size + 1 + 1, 2, none⟩ (.slice (some ⟨wc.heap.size, 0, none⟩) o.es.length o.es.length)) := ⟨_, rfl⟩
      have d2 := T2.d (i := 2) (v := .slice (some ⟨wc.heap.size, 0, none⟩) o.es.length o.es.length) (by rw [Array.getElem?_setIfInBounds]; simp [hoz])
      have c2 := T2.c HR1.out.2.1
      rw [hv2] at c2
      have hcp := run_copy_k (P := Tryd.prog) _ 23 23 3 74 34 wc.heap.size o.es.length o.es.length a o.es.length q2 Z 74 (o.es.map EntL.row).flatten Tryd.underlying23 Tryd.infoEnt g2
        (by rw [flat_len 34 _ (fun r hr => by obtain ⟨e, he, rfl⟩ := List.mem_map.1 hr; exact EntL.row_len (HG.out.es e he).id), List.length_map]; exact congrArg (· * _) (Nat.min_self _).symm) (by
          by_cases hne : o.es = []
          · rw [hne]
            intro j v hj
            simp at hj
          · obtain ⟨b, off, hao, hh⟩ := HC2.out hne
            obtain rfl : a = ⟨b, off, none⟩ := by simpa using hao
            exact rows_src (by decide) (fun r hr => by obtain ⟨e, he, rfl⟩ := List.mem_map.1 hr; exact EntL.row_len (HG.out.es e he).id) (fun i cs hi => range_kept (hh i cs hi) T2.kp (by simp))) (by rw [hZs, flat_len 34 _ (fun r hr => by obtain ⟨e, he, rfl⟩ := List.mem_map.1 hr; exact EntL.row_len (HG.out.es e he).id), List.length_map]) (fun v hv => by
          obtain ⟨r, hr, hv⟩ := List.mem_flatten.1 hv
          obtain ⟨e, _, rfl⟩ := List.mem_map.1 hr
          have := ent_one e
          rw [Array.all_eq_true'] at this
          exact this v (by simpa using hv))
      rw [show Nat.min o.es.length o.es.length = o.es.length from Nat.min_self _] at hcp
      have T3 := T2.row (g := wc.heap.size) (by have := HT1.out.sz; omega) (o.es.map EntL.row).flatten.toArray
      have HN : Hid (∀ W, W = ((wc.alloc (.cells Z 74)).setCell ⟨w.heap.size + 1 + 1, 2, none⟩ (.slice (some ⟨wc.heap.size, 0, none⟩) o.es.length o.es.length)).setRow wc.heap.size (o.es.map EntL.row).flatten.toArray → ∃ ev, Tw w W ro ((ro.setIfInBounds 1 bv).setIfInBounds 2 ev) ∧ (BytesAt W bv o.blob ∧ ∀ b, blkOf bv = some b → w.heap.size + 3 ≤ b) ∧ EntsAt W ev o.es ∧ ∀ b, blkOf ev = some b → w.heap.size + 3 ≤ b) := fun W hW => by
        subst hW
        have hin2 : RowsIn (((wc.alloc (.cells Z 74)).setCell ⟨w.heap.size + 1 + 1, 2, none⟩ (.slice (some ⟨wc.heap.size, 0, none⟩) o.es.length o.es.length)).setRow wc.heap.size (o.es.map EntL.row).flatten.toArray) wc.heap.size 74 (o.es.map EntL.row) := setRow_heap _ _ _ _ _ _ g2
        have kR : Kept [wc.heap.size] ((wc.alloc (.cells Z 74)).setCell ⟨w.heap.size + 1 + 1, 2, none⟩ (.slice (some ⟨wc.heap.size, 0, none⟩) o.es.length o.es.length)) (((wc.alloc (.cells Z 74)).setCell ⟨w.heap.size + 1 + 1, 2, none⟩ (.slice (some ⟨wc.heap.size, 0, none⟩) o.es.length o.es.length)).setRow wc.heap.size (o.es.map EntL.row).flatten.toArray) := ⟨rfl, rfl, rfl, by simp [World.setRow], fun j _ hn => setRow_other _ _ j _ (fun e => hn (by simp [e]))⟩
        have hK : Kept [w.heap.size + 1 + 1] wc (((wc.alloc (.cells Z 74)).setCell ⟨w.heap.size + 1 + 1, 2, none⟩ (.slice (some ⟨wc.heap.size, 0, none⟩) o.es.length o.es.length)).setRow wc.heap.size (o.es.map EntL.row).flatten.toArray) := (((Kept.refl [w.heap.size + 1 + 1] wc).alloc _).trans kS (fun x hx => Or.inl hx)).trans kR (fun x hx => Or.inr (by rw [List.mem_singleton.1 hx]; exact Nat.le_refl _))
        have hsz := HT1.out.sz
        refine ⟨_, T3, ⟨HP1.out.1.keep hK (fun _ b hb e => by have := HP1.out.2 b hb; simp at e; omega), HP1.out.2⟩, ⟨some ⟨wc.heap.size, 0, none⟩, o.es.length, by rw [List.length_map], by rw [List.length_map]; exact Nat.le_refl _, fun e => by simp at e, by rw [List.length_map]; omega, fun _ => ⟨wc.heap.size, 0, rfl, fun i cs hi => ?_⟩⟩, fun b hb => ?_⟩
        · rw [Nat.zero_add]
          exact hin2.range 34 (by decide) (fun r hr => by obtain ⟨e, he, rfl⟩ := List.mem_map.1 hr; exact EntL.row_len (HG.out.es e he).id) i cs hi
        · have e : wc.heap.size = b := by simpa [blkOf] using hb
          omega
      clear T2 T3 TA kA kS HC2
      go_wp2_with (at_builtin; refine Lib.wpList_copy_run _ rfl (.tmp 21) (.tmp 23) 23 23 rfl _ _ rfl rfl hcp ?_)
      go_meet
      exact HN.out _ rfl
  case rest =>
  obtain ⟨ev, T2, B2, E2, nb2⟩ := hcut.out
  have c3 := T2.c HR1.out.2.2
  obtain ⟨a3, q3, hv3, hl3, hz3, hm3, hc3⟩ := HG.out.pv
  skip
  rw [hv3] at c3
  have HP2 : Hid ((BytesAt wc bv o.blob ∧ ∀ b, blkOf bv = some b → w.heap.size + 3 ≤ b) ∧ EntsAt wc ev o.es ∧ ∀ b, blkOf ev = some b → w.heap.size + 3 ≤ b) := ⟨B2, E2, nb2⟩
  have HT2 : Hid (Tw w wc ro ((ro.setIfInBounds 1 bv).setIfInBounds 2 ev)) := T2
  have HC3 : Hid (o.com.parents ≠ [] → ∃ b off, a3 = some ⟨b, off, none⟩ ∧ ∀ (i : Nat) (cs : List Value), (o.com.parents.map (fun x => x.map (Value.int .u8)))[i]? = some cs → w.rangeAt b (off + i * 32) cs) := fun hne => by
    obtain ⟨b, off, hao, hh⟩ := hc3 hne
    refine ⟨b, off, hao, fun i cs hi => ?_⟩
    rw [List.getElem?_map] at hi
    obtain ⟨x, hx, rfl⟩ := Option.map_eq_some_iff.1 hi
    exact hh i x hx
  clear hcut T2 B2 E2 nb2 hc3 c2
  go_upto_if 28 with fail
  go_cut [] from 25 to 42 (fun wx => Hid (∃ pv, Tw w wx ro (((ro.setIfInBounds 1 bv).setIfInBounds 2 ev).setIfInBounds 35 pv) ∧ BytesAt wx bv o.blob ∧ EntsAt wx ev o.es ∧ IdsAt wx pv o.com.parents ∧ ∀ b, (blkOf bv = some b ∨ blkOf ev = some b ∨ blkOf pv = some b) → w.heap.size + 3 ≤ b))
  case first =>
    cases a3 with
    | none =>
      have e1 : q3 = 0 := hz3 rfl
      have e2 : o.com.parents = [] := List.eq_nil_of_length_eq_zero (by omega)
      have HN : Hid (∃ pv, Tw w wc ro (((ro.setIfInBounds 1 bv).setIfInBounds 2 ev).setIfInBounds 35 pv) ∧ BytesAt wc bv o.blob ∧ EntsAt wc ev o.es ∧ IdsAt wc pv o.com.parents ∧ ∀ b, (blkOf bv = some b ∨ blkOf ev = some b ∨ blkOf pv = some b) → w.heap.size + 3 ≤ b) := by
        exact ⟨o.pv, by rw [set_same (by rw [Array.getElem?_setIfInBounds, Array.getElem?_setIfInBounds]; simpa using HR1.out.2.2)]; exact HT2.out, HP2.out.1.1, HP2.out.2.1, HG.out.pv.keep HT2.out.kp (fun _ _ _ => by simp), fun b hb => by
          rcases hb with hb | hb | hb
          · exact HP2.out.1.2 b hb
          · exact HP2.out.2.2 b hb
          · rw [hv3] at hb; simp [blkOf] at hb⟩
      clear HC3
      go_wp2
      go_meet
      exact HN.out
    | some a =>
      have hmk := made_k (t := 26) (e := 25) Tryd.underlying26 Tryd.zeroIDs (by decide) (by rfl) (n := o.com.parents.length) (by have := HF.out.ps; omega) (by omega)
      have hZs := rep_len (zero32.map (Value.int .u8)) 32 o.com.parents.length (by rfl)
      generalize (List.replicate o.com.parents.length (zero32.map (Value.int .u8))).flatten.toArray = Z at *
      have kA : Kept [] wc (wc.alloc (.cells Z 25)) := (Kept.refl _ _).alloc _
      have TA := HT2.out.on kA
      obtain ⟨cc, dA⟩ : ∃ c, (wc.alloc (.cells Z 25)).cell? ⟨w.heap.size + 1 + 1, 35, none⟩ = some c := ⟨_, TA.d (Array.getElem?_eq_getElem (by simp [hoz]))⟩
      have fA := TA.f 35
      have cA := TA.c HR1.out.2.2
      rw [hv3] at cA
      have T2 := TA.put 35 (.slice (some ⟨wc.heap.size, 0, none⟩) o.com.parents.length o.com.parents.length)
      have g2 := (TA.other 35 (.slice (some ⟨wc.heap.size, 0, none⟩) o.com.parents.length o.com.parents.length) (g := wc.heap.size) (by have := HT2.out.sz; omega)).trans (heap_alloc_new wc _)
      have kS : Kept [w.heap.size + 1 + 1] (wc.alloc (.cells Z 25)) ((wc.alloc (.cells Z 25)).setCell ⟨w.heap.size + 1 + 1, 35, none⟩ (.slice (some ⟨wc.heap.size, 0, none⟩) o.com.parents.length o.com.parents.length)) := (Kept.refl _ _).setCell (Or.inl (by simp)) _
      have HW2 : Hid (∃ X, X = (wc.alloc (.cells Z 25)).setCell ⟨w.heap.size + 1 + 1, 35, none⟩ (.slice (some ⟨wc.heap.size, 0, none⟩) o.com.parents.length o.com.parents.length)) := ⟨_, rfl⟩
      have d2 := T2.d (i := 35) (v := .slice (some ⟨wc.heap.size, 0, none⟩) o.com.parents.length o.com.parents.length) (by rw [Array.getElem?_setIfInBounds]; simp [hoz])
      have c2 := T2.c HR1.out.2.2
      rw [hv3] at c2
      have hcp := run_copy_k (P := Tryd.prog) _ 26 26 3 25 32 wc.heap.size o.com.parents.length o.com.parents.length a o.com.parents.length q3 Z 25 (o.com.parents.map (fun x => x.map (Value.int .u8))).flatten Tryd.underlying26 Tryd.infoID g2
        (by rw [flat_len 32 _ (fun r hr => by obtain ⟨e, he, rfl⟩ := List.mem_map.1 hr; rw [List.length_map]; exact (HG.out.com.parents e he).1), List.length_map]; exact congrArg (· * _) (Nat.min_self _).symm) (by
          by_cases hne : o.com.parents = []
          · rw [hne]
            intro j v hj
            simp at hj
          · obtain ⟨b, off, hao, hh⟩ := HC3.out hne
            obtain rfl : a = ⟨b, off, none⟩ := by simpa using hao
            exact rows_src (by decide) (fun r hr => by obtain ⟨e, he, rfl⟩ := List.mem_map.1 hr; rw [List.length_map]; exact (HG.out.com.parents e he).1) (fun i cs hi => range_kept (hh i cs hi) T2.kp (by simp))) (by rw [hZs, flat_len 32 _ (fun r hr => by obtain ⟨e, he, rfl⟩ := List.mem_map.1 hr; rw [List.length_map]; exact (HG.out.com.parents e he).1), List.length_map]) (fun v hv => by
          obtain ⟨r, hr, hv⟩ := List.mem_flatten.1 hv
          obtain ⟨e, _, rfl⟩ := List.mem_map.1 hr
          exact map_oneCell e v hv)
      rw [show Nat.min o.com.parents.length o.com.parents.length = o.com.parents.length from Nat.min_self _] at hcp
      have T3 := T2.row (g := wc.heap.size) (by have := HT2.out.sz; omega) (o.com.parents.map (fun x => x.map (Value.int .u8))).flatten.toArray
      have HN : Hid (∀ W, W = ((wc.alloc (.cells Z 25)).setCell ⟨w.heap.size + 1 + 1, 35, none⟩ (.slice (some ⟨wc.heap.size, 0, none⟩) o.com.parents.length o.com.parents.length)).setRow wc.heap.size (o.com.parents.map (fun x => x.map (Value.int .u8))).flatten.toArray → ∃ pv, Tw w W ro (((ro.setIfInBounds 1 bv).setIfInBounds 2 ev).setIfInBounds 35 pv) ∧ BytesAt W bv o.blob ∧ EntsAt W ev o.es ∧ IdsAt W pv o.com.parents ∧ ∀ b, (blkOf bv = some b ∨ blkOf ev = some b ∨ blkOf pv = some b) → w.heap.size + 3 ≤ b) := fun W hW => by
        subst hW
        have hin2 : RowsIn (((wc.alloc (.cells Z 25)).setCell ⟨w.heap.size + 1 + 1, 35, none⟩ (.slice (some ⟨wc.heap.size, 0, none⟩) o.com.parents.length o.com.parents.length)).setRow wc.heap.size (o.com.parents.map (fun x => x.map (Value.int .u8))).flatten.toArray) wc.heap.size 25 (o.com.parents.map (fun x => x.map (Value.int .u8))) := setRow_heap _ _ _ _ _ _ g2
        have kR : Kept [wc.heap.size] ((wc.alloc (.cells Z 25)).setCell ⟨w.heap.size + 1 + 1, 35, none⟩ (.slice (some ⟨wc.heap.size, 0, none⟩) o.com.parents.length o.com.parents.length)) (((wc.alloc (.cells Z 25)).setCell ⟨w.heap.size + 1 + 1, 35, none⟩ (.slice (some ⟨wc.heap.size, 0, none⟩) o.com.parents.length o.com.parents.length)).setRow wc.heap.size (o.com.parents.map (fun x => x.map (Value.int .u8))).flatten.toArray) := ⟨rfl, rfl, rfl, by simp [World.setRow], fun j _ hn => setRow_other _ _ j _ (fun e => hn (by simp [e]))⟩
        have hK : Kept [w.heap.size + 1 + 1] wc (((wc.alloc (.cells Z 25)).setCell ⟨w.heap.size + 1 + 1, 35, none⟩ (.slice (some ⟨wc.heap.size, 0, none⟩) o.com.parents.length o.com.parents.length)).setRow wc.heap.size (o.com.parents.map (fun x => x.map (Value.int .u8))).flatten.toArray) := (((Kept.refl [w.heap.size + 1 + 1] wc).alloc _).trans kS (fun x hx => Or.inl hx)).trans kR (fun x hx => Or.inr (by rw [List.mem_singleton.1 hx]; exact Nat.le_refl _))
        have hsz := HT2.out.sz
        refine ⟨_, T3, HP2.out.1.1.keep hK (fun _ b hb e => by have := HP2.out.1.2 b hb; simp at e; omega), HP2.out.2.1.keep hK (fun _ b hb e => by have := HP2.out.2.2 b hb; simp at e; omega), ⟨some ⟨wc.heap.size, 0, none⟩, o.com.parents.length, rfl, Nat.le_refl _, fun e => by simp at e, by omega, fun _ => ⟨wc.heap.size, 0, rfl, fun i x hx => ?_⟩⟩, fun b hb => by
          rcases hb with hb | hb | hb
          · exact HP2.out.1.2 b hb
          · exact HP2.out.2.2 b hb
          · have e : wc.heap.size = b := by simpa [blkOf] using hb
            omega⟩
        rw [Nat.zero_add]
        exact hin2.range 32 (by decide) (fun r hr => by obtain ⟨e, he, rfl⟩ := List.mem_map.1 hr; rw [List.length_map]; exact (HG.out.com.parents e he).1) i _ (by rw [List.getElem?_map, hx]; rfl)
      clear T2 T3 TA kA kS HC3
      go_wp2_with (at_builtin; refine Lib.wpList_copy_run _ rfl (.tmp 38) (.tmp 41) 26 26 rfl _ _ rfl rfl hcp ?_)
      go_meet
      exact HN.out _ rfl
  case rest =>
  obtain ⟨pv, T3, B3, E3, I3, N3⟩ := hcut.out
  have hG3 := HG.out
  rw [HRow.out bv ev pv] at T3
  have hpz : ({ o with bv := bv, ev := ev, pv := pv } : ObjL).row.toArray.size = 76 := by rw [List.size_toArray]; exact objL_len hG3.com.tree.1 hG3.tag.target.1
  have hps : (Tryd.prog.info? 33).map (·.size) = some ({ o with bv := bv, ev := ev, pv := pv } : ObjL).row.toArray.size := by rw [hpz]; kernel_rfl
  have hpz2 : Tryd.zeroCells33.size = ({ o with bv := bv, ev := ev, pv := pv } : ObjL).row.toArray.size := by rw [hpz]; kernel_rfl
  have hgood : ObjL.Good wc { o with bv := bv, ev := ev, pv := pv } := ⟨hG3.lo, hG3.hi, B3, hG3.blob, E3, hG3.es, I3, hG3.com, hG3.tag⟩
  have hp1 := objL_one hgood
  have kF : Kept [w.heap.size + 1] wc (wc.setRow (w.heap.size + 1) ({ o with bv := bv, ev := ev, pv := pv } : ObjL).row.toArray) := ⟨rfl, rfl, rfl, by simp [World.setRow], fun j _ hn => setRow_other _ _ j _ (fun e => hn (by simp [e]))⟩
  have HPB : Hid (wc.heap[w.heap.size + 1 + 1]? = some (.cells ({ o with bv := bv, ev := ev, pv := pv } : ObjL).row.toArray 33 (0, 0))) := T3.pb
  have HRS : Hid (wc.heap[w.heap.size + 1]? = some (.cells Tryd.zeroCells33 33 (0, 0))) := T3.res
  have HFin : Hid (Kept [] w (wc.setRow (w.heap.size + 1) ({ o with bv := bv, ev := ev, pv := pv } : ObjL).row.toArray)) := kept_setRow T3.kp (by omega) _
  have HGG : Hid (ObjL.Good (wc.setRow (w.heap.size + 1) ({ o with bv := bv, ev := ev, pv := pv } : ObjL).row.toArray) { o with bv := bv, ev := ev, pv := pv }) := by
    exact ⟨hG3.lo, hG3.hi, B3.keep kF (fun _ b hb e => by have := N3 b (Or.inl hb); simp at e; omega), hG3.blob, E3.keep kF (fun _ b hb e => by have := N3 b (Or.inr (Or.inl hb)); simp at e; omega), hG3.es, I3.keep kF (fun _ b hb e => by have := N3 b (Or.inr (Or.inr hb)); simp at e; omega), hG3.com, hG3.tag⟩
  clear hcut T3 B3 E3 I3 hG3 hgood kF c3 N3
  generalize hpr : ({ o with bv := bv, ev := ev, pv := pv } : ObjL).row.toArray = pr at *
  have HPr : Hid (({ o with bv := bv, ev := ev, pv := pv } : ObjL).row.toArray = pr) := hpr
  clear hpr
  go_wp2_with (first
    | (refine wpList_load_row (by rfl) 33 (.tmp 3) (by rfl) (w.heap.size + 1 + 1) (by rfl) 33 pr (0, 0) _ HPB.out hun rfl hps ?_)
    | (refine wpList_store_row (by rfl) 33 (.tmp 2) (.tmp 43) (by rfl) (w.heap.size + 1) pr (by rfl) (by rfl) 33 _ HRS.out hps hpz2 hp1 ?_))
  refine bodyPost_ret (v := .agg pr) ?_ rfl ⟨bv, ev, pv, by rw [HPr.out], HGG.out, HFin.out⟩
  rw [results_cell1 rfl]
  exact run_loadVar_row (P := Tryd.prog) _ (w.heap.size + 1) 33 33 pr (0, 0) _ (setRow_heap _ _ _ _ _ _ HRS.out) hun rfl hps
end Go.Proofs.YtnfbiemmdaenpaaDoor
