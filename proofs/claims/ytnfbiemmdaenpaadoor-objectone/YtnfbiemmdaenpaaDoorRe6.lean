/-
  WALKS: satchelref3.lay of a blob, of a commit: their encodings.
  WALK: satchelref3.Wrong of all but a tree.
  WALK: satchelref3.lay of a tree: its encoding.
-/
import Derived.Test.YtnfbiemmdaenpaaDoorRe4
import Derived.Test.YtnfbiemmdaenpaaDoorCom3
import Derived.Test.YtnfbiemmdaenpaaDoorEnt3
namespace Go.Proofs.YtnfbiemmdaenpaaDoor
open Go.RowKit

theorem LSt.start (w : World) (row : Array Value) (n : Int) : LSt w ((w.alloc (.cells row 33)).alloc (.cells #[.int .u8 n] 5)) row (.slice (some ⟨w.heap.size + 1, 0, none⟩) 1 1) [n] := by
  have h := OwnB.one (w := w.alloc (.cells row 33)) n
  rw [World.size_alloc] at h
  exact ⟨((Kept.refl [] _).alloc _).heap (heap_alloc_new w _) (by simp), h, ((Kept.refl [] w).alloc _).alloc _⟩

set_option maxRecDepth 100000 in
set_option maxHeartbeats 2000000 in
theorem R3layBlob_any (o : ObjL) (w : World) (h1 : o.kind = 1) (hc : o.com.tree.length = 32) (hb : BytesAt w o.bv o.blob) (hl : o.blob.length ≤ 140737488351232) :
    Calls Tryd.prog 25 #[.agg o.row.toArray] w fun e w' => ∃ v, e = .returned v ∧ OwnB w' w.heap.size v (fixedB 1 1 ++ o.blob) ∧ Kept [] w w' := by
  have HTC : Hid (∀ W : World, W.heap[w.heap.size]? = some (.cells o.row.toArray 33 (0, 0)) → W.cell? ⟨w.heap.size, 0, none⟩ = some (.int .i64 1) ∧ W.cell? ⟨w.heap.size, 1, none⟩ = some o.bv) := fun W hW => by
    rw [← h1]
    obtain ⟨c0, c1, _⟩ := obj_cells hc hW
    exact ⟨c0, c1⟩
  rw [fixedB1 1 (by decide) (by decide)]
  have HB0 : Hid ((w.alloc (.cells o.row.toArray 33)).heap[w.heap.size]? = some (.cells o.row.toArray 33 (0, 0))) := heap_alloc_new w _
  generalize o.row.toArray = row at *
  have HL0 : Hid (LSt w ((w.alloc (.cells row 33)).alloc (.cells #[.int .u8 1] 5)) row (.slice (some ⟨w.heap.size + 1, 0, none⟩) 1 1) [1]) := LSt.start w row 1
  have HBt : Hid (BytesAt ((w.alloc (.cells row 33)).alloc (.cells #[.int .u8 1] 5)) o.bv o.blob) := hb.kept HL0.out.kept (fun _ _ => by simp)
  obtain ⟨y0, y1⟩ := HTC.out _ HB0.out
  obtain ⟨x0, x1⟩ := HTC.out _ HL0.out.box
  have z0 := HL0.out.big
  clear hb h1 hc
  generalize o.bv = bv at *
  generalize o.blob = bl at *
  go_enter Tryd.func25, Tryd.ntmps25
  go_wp2_with (at_builtin; refine wpList_append_bytes rfl (.tmp 14) (.tmp 16) rfl rfl HL0.out.own rfl HBt.out (by simp; omega) z0 ?_; intro u1 w1 ha
               have HL1 : Hid (LSt w w1 row u1 ([1] ++ bl)) := HL0.out.app ha
               clear ha)
  go_ret
  exact ⟨_, rfl, HL1.out.own.mono (by omega), HL1.out.kept⟩

theorem ocom_cells {w : World} {b : Nat} {o : ObjL} {ty : TypeId} {fr : Nat × Nat} (hl : o.com.tree.length = 32) (h : w.heap[b]? = some (.cells o.row.toArray ty fr)) :
    w.cell? ⟨b, 0, none⟩ = some (.int .i64 o.kind) ∧ w.rangeAt b 3 (o.com.tree.map (Value.int .u8)) ∧ w.cell? ⟨b, 35, none⟩ = some o.pv ∧ w.cell? ⟨b, 36, none⟩ = some (.string (strOfNums o.com.who)) ∧ w.cell? ⟨b, 37, none⟩ = some (.int .u64 o.com.time) ∧ w.cell? ⟨b, 38, none⟩ = some (.string (strOfNums o.com.text)) := by
  obtain ⟨c0, _, _, hr, _⟩ := obj_cells hl h
  have hlm : (o.com.tree.map (Value.int .u8)).length = 32 := by rw [List.length_map, hl]
  have key : ∀ j v, [o.pv, .string (strOfNums o.com.who), .int .u64 o.com.time, .string (strOfNums o.com.text)][j]? = some v → w.cell? ⟨b, 3 + (32 + j), none⟩ = some v := fun j v hj => hr (32 + j) v (by
    unfold ComL.row
    rw [List.getElem?_append_right (by omega), hlm, Nat.add_sub_cancel_left]
    exact hj)
  refine ⟨c0, fun j v hj => hr j v ?_, key 0 _ rfl, key 1 _ rfl, key 2 _ rfl, key 3 _ rfl⟩
  unfold ComL.row
  rw [List.getElem?_append_left (List.getElem?_eq_some_iff.1 hj).1]
  exact hj

set_option maxRecDepth 100000 in
set_option maxHeartbeats 4000000 in
theorem R3layCom_any (o : ObjL) (w : World) (h3 : o.kind = 3) (hg : o.com.Good) (hp : IdsAt w o.pv o.com.parents) (h8 : o.com.parents.length ≤ 8) (hz : o.com.who.length + o.com.text.length ≤ 100000000) :
    Calls Tryd.prog 25 #[.agg o.row.toArray] w fun e w' => ∃ v, e = .returned v ∧ OwnB w' w.heap.size v (encC o.com) ∧ Kept [] w w' := by
  have HTC : Hid (∀ W : World, W.heap[w.heap.size]? = some (.cells o.row.toArray 33 (0, 0)) → W.cell? ⟨w.heap.size, 0, none⟩ = some (.int .i64 3) ∧ W.rangeAt w.heap.size 3 (o.com.tree.map (Value.int .u8)) ∧ W.cell? ⟨w.heap.size, 35, none⟩ = some o.pv ∧ W.cell? ⟨w.heap.size, 36, none⟩ = some (.string (strOfNums o.com.who)) ∧ W.cell? ⟨w.heap.size, 37, none⟩ = some (.int .u64 o.com.time) ∧ W.cell? ⟨w.heap.size, 38, none⟩ = some (.string (strOfNums o.com.text))) := fun W hW => by rw [← h3]; exact ocom_cells hg.tree.1 hW
  have HE : Hid (encC o.com = [3] ++ o.com.tree ++ varB o.com.parents.length ++ o.com.parents.flatten ++ (varB o.com.who.length ++ o.com.who) ++ fixedB o.com.time 8 ++ (varB o.com.text.length ++ o.com.text)) := by
    show _ = _
    unfold encC
    rw [fixedB1 3 (by decide) (by decide)]
    simp only [List.append_assoc]
  have HB0 : Hid ((w.alloc (.cells o.row.toArray 33)).heap[w.heap.size]? = some (.cells o.row.toArray 33 (0, 0))) := heap_alloc_new w _
  generalize o.row.toArray = row at *
  generalize o.pv = pv at *
  generalize o.com = t at *
  obtain ⟨tg, ids, wh, tm, tx⟩ := t
  obtain ⟨g1, g2, g5, g6, g7, g8⟩ := hg
  dsimp only at *
  have hun := Tryd.underlying25
  have hso : (Tryd.prog.info? 25).map (·.size) = some (tg.map (Value.int .u8)).length := by rw [List.length_map, g1.1]; exact Tryd.infoID
  have l1 := g1.1
  have v1 := varB_len (ids.length : Int) (by omega) (by omega)
  have v2 := varB_len (wh.length : Int) (by omega) (by omega)
  have v3 := varB_len (tx.length : Int) (by omega) (by omega)
  have v4 := fixedB_len tm 8
  have lf : ids.flatten.length ≤ 256 := by rw [flat32 _ g2]; omega
  have HFL : Hid (∀ k x, ids[k]? = some x → (ids.take (k + 1)).flatten = (ids.take k).flatten ++ x) := fun k x hx => by
    have hlt : k < ids.length := (List.getElem?_eq_some_iff.1 hx).1
    have he : ids[k] = x := (List.getElem?_eq_some_iff.1 hx).2
    rw [List.take_succ_eq_append_getElem hlt, List.flatten_append, he]
    simp
  have HLK : Hid (∀ k, (ids.take k).flatten.length ≤ 256) := fun k => by
    have h1 := flat32 (ids.take k) fun o ho => g2 o (List.mem_of_mem_take ho)
    rw [List.length_take] at h1
    omega
  have hnum := fun W => R3number_any (ids.length : Int) W (by omega) (by omega)
  have hwh := fun W => R3text_any wh g5.1 (by omega) W
  have htx := fun W => R3text_any tx g8.1 (by omega) W
  have htm := fun W => R3big_any tm W g6 g7
  have HG1 : Hid (GoodID tg) := g1
  have HG2 : Hid (∀ x, x ∈ ids → GoodID x) := g2
  have HV : Hid (∀ W, Kept [] w W → IdsAt W pv ids) := fun W k => hp.keep k (fun _ _ _ => by simp)
  obtain ⟨ap, cp, rfl, hcap, _, hlen, _⟩ := hp
  generalize strOfNums wh = swh at *
  generalize strOfNums tx = stx at *
  clear h3 g1 g2 g5 g6 g7 g8
  have HL0 : Hid (LSt w ((w.alloc (.cells row 33)).alloc (.cells #[.int .u8 3] 5)) row (.slice (some ⟨w.heap.size + 1, 0, none⟩) 1 1) [3]) := LSt.start w row 3
  obtain ⟨y0, y1, y2, y3, y4, y5⟩ := HTC.out _ HB0.out
  obtain ⟨x0, x1, x2, x3, x4, x5⟩ := HTC.out _ HL0.out.box
  have z0 := HL0.out.big
  go_enter Tryd.func25, Tryd.ntmps25
  go_wp2_with (refine wpList_load_mid (by rfl) 25 (.tmp 64) (by rfl) w.heap.size 3 (by rfl) (tg.map (Value.int .u8)) _ x1 hun rfl hso ?_)
  go_at_call 39
  refine (R3raw_any HL0.out.own z0 tg HG1.out (by simp)).mono ?_
  rintro e w1 ⟨u1, rfl, h1⟩
  have HL1 : Hid (LSt w w1 row u1 ([3] ++ tg)) := HL0.out.laid h1
  clear h1 HL0 x0 x1 x2 x3 x4 x5 z0 y0 y1 y2 y3 y4 y5
  obtain ⟨x0, x1, x2, x3, x4, x5⟩ := HTC.out _ HL1.out.box
  have z1 := HL1.out.big
  go_wp2_with fail
  go_at_call 37
  refine (hnum _).mono ?_
  rintro e w2 ⟨p2, rfl, o2, k2⟩
  have HL2 : Hid (LSt w w2 row u1 ([3] ++ tg)) := HL1.out.on k2
  have HO2 : Hid (BytesAt w2 p2 (varB ids.length)) := o2.bytes
  clear o2 k2 x0 x1 x2 x3 x4 x5 HL1 z1
  obtain ⟨x0, x1, x2, x3, x4, x5⟩ := HTC.out _ HL2.out.box
  have z2 := HL2.out.big
  go_wp2_with (at_builtin; refine wpList_append_bytes rfl (.tmp 67) (.tmp 72) rfl rfl HL2.out.own rfl HO2.out (by simp; omega) z2 ?_; intro u3 w3 ha
               have HL3 : Hid (LSt w w3 row u3 ([3] ++ tg ++ varB ids.length)) := HL2.out.app ha
               clear ha)
  clear x0 x1 x2 x3 x4 x5 z2 HL2 HO2
  have HA : Hid (([3] ++ tg ++ varB ids.length).length ≤ 50) := by show _ ≤ _; simp; omega
  generalize [3] ++ tg ++ varB ids.length = A at *
  go_loopw [3, 5] (fun s3 s5 wr => ∃ (k : Nat) (u : Value), u = s3 ∧ k ≤ ids.length ∧ s5 = .int .i64 k ∧ Hid (LSt w wr row u (A ++ (ids.take k).flatten))) (fun _ s5 _ => ids.length - (intOf s5).toNat)
  case atStart => exact ⟨0, _, rfl, Nat.zero_le _, rfl, by have h := HL3.out; rw [← List.append_nil A] at h; exact h⟩
  case round =>
    clear HL3
    obtain ⟨k, u, rfl, hk, rfl, HL⟩ := hrel
    obtain ⟨x0, x1, x2, x3, x4, x5⟩ := HTC.out _ HL.out.box
    have z3 := HL.out.big
    have hA := HA.out
    by_cases hlt : k < ids.length
    · have t1 : decide ((k : Int) < ids.length) = true := decide_eq_true (by omega)
      obtain ⟨p, hpk⟩ : ∃ p, ids[k]? = some p := ⟨_, List.getElem?_eq_getElem hlt⟩
      have hgp := HG2.out p (List.mem_of_getElem? hpk)
      obtain ⟨ao', cap', he, _, _, _, hcc⟩ := HV.out wr HL.out.kept
      injection he with e1 e2 e3
      subst e1 e3
      obtain ⟨b, off, rfl, hh⟩ := hcc (by rintro rfl; simp at hlt)
      have hr := hh k p hpk
      have hsp : (Tryd.prog.info? 25).map (·.size) = some (p.map (Value.int .u8)).length := by rw [List.length_map, hgp.1]; exact Tryd.infoID
      have hlk := HLK.out k
      have hraw := R3raw_any HL.out.own z3 p hgp (by simp only [List.length_append]; omega)
      rw [List.append_assoc, ← HFL.out k p hpk] at hraw
      clear hh hcc hpk hgp
      go_wp2_with (refine wpList_load_mid (by rfl) 25 (.tmp 87) (by rfl) b (off + k * 32) (by rfl) (p.map (Value.int .u8)) _ hr hun rfl hsp ?_)
      go_at_call 39
      refine hraw.mono ?_
      rintro e w5 ⟨u5, rfl, h5⟩
      have HL5 : Hid (LSt w w5 row u5 (A ++ (ids.take (k + 1)).flatten)) := HL.out.laid h5
      clear h5 hraw
      go_wp2
      go_roundw
      case rel => exact ⟨k + 1, _, rfl, by omega, by go_num, HL5⟩
      case measure => simp [intOf]; omega
    · have t1 : decide ((k : Int) < ids.length) = false := decide_eq_false (by omega)
      obtain rfl : k = ids.length := by omega
      rw [List.take_length] at HL
      go_wp2_with fail
      go_at_call 38
      refine (hwh _).mono ?_
      rintro e w6 ⟨p6, rfl, o6, k6⟩
      have HL6 : Hid (LSt w w6 row u (A ++ ids.flatten)) := HL.out.on k6
      have HO6 : Hid (BytesAt w6 p6 ((varB wh.length ++ wh))) := o6.bytes
      clear o6 k6 x0 x1 x2 x3 x4 x5 HL z3
      obtain ⟨x0, x1, x2, x3, x4, x5⟩ := HTC.out _ HL6.out.box
      have z6 := HL6.out.big
      go_wp2_with (at_builtin; refine wpList_append_bytes rfl (.tmp 90) (.tmp 94) rfl rfl HL6.out.own rfl HO6.out (by simp at *; omega) z6 ?_; intro u7 w7 ha
                   have HL7 : Hid (LSt w w7 row u7 (A ++ ids.flatten ++ (varB wh.length ++ wh))) := HL6.out.app ha
                   obtain ⟨x0, x1, x2, x3, x4, x5⟩ := HTC.out _ HL7.out.box
                   have z7 := HL7.out.big
                   clear ha)
      go_at_call 40
      refine (htm _).mono ?_
      rintro e w8 ⟨p8, rfl, o8, k8⟩
      have HL8 : Hid (LSt w w8 row u7 (A ++ ids.flatten ++ (varB wh.length ++ wh))) := HL7.out.on k8
      have HO8 : Hid (BytesAt w8 p8 (fixedB tm 8)) := o8.bytes
      clear o8 k8 x0 x1 x2 x3 x4 x5 HL7 z7
      obtain ⟨x0, x1, x2, x3, x4, x5⟩ := HTC.out _ HL8.out.box
      have z8 := HL8.out.big
      go_wp2_with (at_builtin; refine wpList_append_bytes rfl (.tmp 96) (.tmp 100) rfl rfl HL8.out.own rfl HO8.out (by simp at *; omega) z8 ?_; intro u9 w9 ha
                   have HL9 : Hid (LSt w w9 row u9 (A ++ ids.flatten ++ (varB wh.length ++ wh) ++ fixedB tm 8)) := HL8.out.app ha
                   obtain ⟨x0, x1, x2, x3, x4, x5⟩ := HTC.out _ HL9.out.box
                   have z9 := HL9.out.big
                   clear ha)
      go_at_call 38
      refine (htx _).mono ?_
      rintro e w10 ⟨p10, rfl, o10, k10⟩
      have HL10 : Hid (LSt w w10 row u9 (A ++ ids.flatten ++ (varB wh.length ++ wh) ++ fixedB tm 8)) := HL9.out.on k10
      have HO10 : Hid (BytesAt w10 p10 ((varB tx.length ++ tx))) := o10.bytes
      clear o10 k10 x0 x1 x2 x3 x4 x5 HL9 z9
      obtain ⟨x0, x1, x2, x3, x4, x5⟩ := HTC.out _ HL10.out.box
      have z10 := HL10.out.big
      go_wp2_with (at_builtin; refine wpList_append_bytes rfl (.tmp 102) (.tmp 106) rfl rfl HL10.out.own rfl HO10.out (by simp at *; omega) z10 ?_; intro u11 w11 ha
                   have HL11 : Hid (LSt w w11 row u11 (A ++ ids.flatten ++ (varB wh.length ++ wh) ++ fixedB tm 8 ++ (varB tx.length ++ tx))) := HL10.out.app ha
                   obtain ⟨x0, x1, x2, x3, x4, x5⟩ := HTC.out _ HL11.out.box
                   have z11 := HL11.out.big
                   clear ha)
      go_ret
      refine ⟨_, rfl, ?_, HL11.out.kept⟩
      rw [HE.out]
      exact HL11.out.own.mono (by omega)
end Go.Proofs.YtnfbiemmdaenpaaDoor

namespace Go.Proofs.YtnfbiemmdaenpaaDoor
open Go.RowKit

set_option maxRecDepth 100000 in
set_option maxHeartbeats 2000000 in
theorem R3wrongCom_any (o : ObjL) (w : World) (h3 : o.kind = 3) (hg : o.com.Good) (hp : IdsAt w o.pv o.com.parents) :
    Calls Tryd.prog 24 #[.agg o.row.toArray] w fun e w' => e = .returned (.int .i64 (faultC o.com)) ∧ Kept [] w w' := by
  have hB := heap_alloc_new w (.cells o.row.toArray 33)
  obtain ⟨c0, _, _, c3, _⟩ := obj_cells hg.tree.1 hB
  rw [h3] at c0
  have hk : Kept [] w (w.alloc (.cells o.row.toArray 33)) := (Kept.refl _ _).alloc _
  have hcall := R3com_any o.com o.pv _ (hp.keep hk (fun _ _ _ => by simp)) hg
  have HK : Hid (Kept [] w (w.alloc (.cells o.row.toArray 33))) := hk
  have hsc : (Tryd.prog.info? 29).map (·.size) = some (o.com.row o.pv).length := by rw [com_len' _ _ hg.tree.1]; kernel_rfl
  have hun := Tryd.underlying29
  clear hp hg hB hk h3
  generalize o.row.toArray = row at *
  generalize o.com.row o.pv = cr at *
  generalize faultC o.com = fc at *
  go_enter Tryd.func24, Tryd.ntmps24
  go_wp2_with (refine wpList_load_mid (by rfl) 29 (.tmp 14) (by rfl) w.heap.size 3 (by rfl) cr _ c3 hun rfl hsc ?_)
  go_at_call 34
  refine hcall.mono ?_
  rintro e w1 ⟨rfl, k1⟩
  have HK1 : Hid (Kept [] w w1) := HK.out.then k1
  clear hcall k1
  go_wp2
  go_ret
  exact ⟨rfl, HK1.out⟩

set_option maxRecDepth 100000 in
set_option maxHeartbeats 2000000 in
theorem R3wrongTag_any (o : ObjL) (w : World) (h4 : o.kind = 4) (hc : o.com.tree.length = 32) (hg : o.tag.Good) :
    Calls Tryd.prog 24 #[.agg o.row.toArray] w fun e w' => e = .returned (.int .i64 (faultG o.tag)) ∧ Kept [] w w' := by
  obtain ⟨c0, _, c2, c3, c4, c5, c6⟩ := otag_cells hc hg.target.1 (heap_alloc_new w (.cells o.row.toArray 33))
  rw [h4] at c0
  have HK : Hid (Kept [] w (w.alloc (.cells o.row.toArray 33))) := (Kept.refl _ _).alloc _
  have hnm := fun W => RName_any o.tag.name hg.name.1 (Nat.le_trans hg.name.2 (by decide)) W
  have htl := fun W => R3told_any o.tag.who o.tag.time o.tag.text W hg.who
  have hlo := hg.lo
  have hhi := hg.hi
  obtain ⟨rv, hrv⟩ : ∃ rv : Int, rv = faultG o.tag := ⟨_, rfl⟩
  rw [← hrv]
  have HR : Hid (rv = if (decide (1 ≤ o.tag.kind) && decide (o.tag.kind ≤ 4)) = false then 30 else if nameB o.tag.name = false then 32 else if signB o.tag.who o.tag.time o.tag.text = false then 36 else 0) := hrv
  clear hrv hg h4 hc
  generalize o.row.toArray = row at *
  generalize strOfNums o.tag.name = sn at *
  generalize strOfNums o.tag.who = sw at *
  generalize strOfNums o.tag.text = st at *
  generalize nameB o.tag.name = b1 at *
  generalize signB o.tag.who o.tag.time o.tag.text = b2 at *
  generalize o.tag.time = tm at *
  generalize o.tag.kind = kd at *
  by_cases hk1 : 1 ≤ kd
  · by_cases hk4 : kd ≤ 4
    · have HS : Hid (rv = if b1 = false then 32 else if b2 = false then 36 else 0) := by
        have h := HR.out
        rw [decide_eq_true hk1, decide_eq_true hk4] at h
        exact h
      have t1 : decide (kd < 1) = false := decide_eq_false (by omega)
      have t2 : decide (4 < kd) = false := decide_eq_false (by omega)
      cases b1 <;> cases b2
      all_goals go_enter Tryd.func24, Tryd.ntmps24
      all_goals go_wp2_with (first
        | (go_at_call 35; refine (hnm _).mono ?_; rintro e w1 ⟨rfl, hw1⟩; subst w1)
        | (go_at_call 36; refine (htl _).mono ?_; rintro e w1 ⟨rfl, hw1⟩; subst w1))
      all_goals go_ret
      all_goals exact ⟨by rw [HS.out]; rfl, HK.out⟩
    · have HS : Hid (rv = 30) := by
        have h := HR.out
        rw [decide_eq_true hk1, decide_eq_false hk4] at h
        exact h
      have t1 : decide (kd < 1) = false := decide_eq_false (by omega)
      have t2 : decide (4 < kd) = true := decide_eq_true (by omega)
      go_enter Tryd.func24, Tryd.ntmps24
      go_wp2
      go_ret
      exact ⟨by rw [HS.out]; rfl, HK.out⟩
  · have HS : Hid (rv = 30) := by
      have h := HR.out
      rw [decide_eq_false hk1] at h
      exact h
    have t1 : decide (kd < 1) = true := decide_eq_true (by omega)
    go_enter Tryd.func24, Tryd.ntmps24
    go_wp2
    go_ret
    exact ⟨by rw [HS.out]; rfl, HK.out⟩

set_option maxRecDepth 100000 in
set_option maxHeartbeats 2000000 in
/-- Of a blob: nothing; of no kind: that. -/
theorem R3wrongRest_any (o : ObjL) (w : World) (hc : o.com.tree.length = 32) (h2 : o.kind ≠ 2) (h3 : o.kind ≠ 3) (h4 : o.kind ≠ 4) :
    Calls Tryd.prog 24 #[.agg o.row.toArray] w fun e w' => e = .returned (.int .i64 (if o.kind = 1 then 0 else 30)) ∧ Kept [] w w' := by
  obtain ⟨c0, _⟩ := obj_cells hc (heap_alloc_new w (.cells o.row.toArray 33))
  have HK : Hid (Kept [] w (w.alloc (.cells o.row.toArray 33))) := (Kept.refl _ _).alloc _
  generalize o.row.toArray = row at *
  generalize o.kind = kd at *
  by_cases h1 : kd = 1
  · subst h1
    go_enter Tryd.func24, Tryd.ntmps24
    go_wp2
    go_ret
    exact ⟨rfl, HK.out⟩
  · rw [if_neg h1]
    go_enter Tryd.func24, Tryd.ntmps24
    go_wp2
    go_ret
    exact ⟨rfl, HK.out⟩
end Go.Proofs.YtnfbiemmdaenpaaDoor

namespace Go.Proofs.YtnfbiemmdaenpaaDoor
open Go.RowKit

theorem ent_mid {w : World} {b off : Nat} {e : EntL} (h : w.rangeAt b off e.row) : w.cell? ⟨b, off, none⟩ = some (.int .i64 e.mode) ∧ w.cell? ⟨b, off + 1, none⟩ = some (.string (strOfNums e.name)) ∧ w.rangeAt b (off + 2) (e.id.map (Value.int .u8)) :=
  ⟨h 0 _ rfl, h 1 _ rfl, fun j v hj => by
    have := h (2 + j) v (by unfold EntL.row; rw [Nat.add_comm 2 j]; exact hj)
    rwa [← Nat.add_assoc] at this⟩
theorem entsB_bound (es : List EntL) (hl : ∀ e, e ∈ es → (entB e).length ≤ 300) : (entsB es).length ≤ 300 * es.length := by
  induction es with
  | nil => simp [entsB]
  | cons e es ih =>
    have h1 := hl e (List.mem_cons_self ..)
    have h2 := ih fun x hx => hl x (List.mem_cons_of_mem _ hx)
    unfold entsB at h2 ⊢
    rw [List.flatMap_cons, List.length_append, List.length_cons]
    omega

set_option maxRecDepth 100000 in
set_option maxHeartbeats 4000000 in
theorem R3layTree_any (o : ObjL) (w : World) (h2 : o.kind = 2) (hc : o.com.tree.length = 32) (hv : EntsAt w o.ev o.es) (hg : ∀ e, e ∈ o.es → e.Good) (hm : o.es.length ≤ 1024) (hok : ∀ e, e ∈ o.es → 0 ≤ e.mode ∧ e.mode ≤ 255 ∧ e.name.length ≤ 255) :
    Calls Tryd.prog 25 #[.agg o.row.toArray] w fun e w' => ∃ v, e = .returned v ∧ OwnB w' w.heap.size v (encT o.es) ∧ Kept [] w w' := by
  have HTC : Hid (∀ W : World, W.heap[w.heap.size]? = some (.cells o.row.toArray 33 (0, 0)) → W.cell? ⟨w.heap.size, 0, none⟩ = some (.int .i64 2) ∧ W.cell? ⟨w.heap.size, 2, none⟩ = some o.ev) := fun W hW => by
    rw [← h2]
    obtain ⟨c0, _, c2, _⟩ := obj_cells hc hW
    exact ⟨c0, c2⟩
  have HE : Hid (encT o.es = [2] ++ varB o.es.length ++ entsB o.es) := by
    show _ = _
    unfold encT
    rw [fixedB1 2 (by decide) (by decide)]
  have HB0 : Hid ((w.alloc (.cells o.row.toArray 33)).heap[w.heap.size]? = some (.cells o.row.toArray 33 (0, 0))) := heap_alloc_new w _
  generalize o.row.toArray = row at *
  generalize o.ev = ev at *
  generalize o.es = es at *
  have hun := Tryd.underlying25
  have v1 := varB_len (es.length : Int) (by omega) (by omega)
  have HLK : Hid (∀ k, (entsB (es.take k)).length ≤ 307200) := fun k => by
    have h1 := entsB_bound (es.take k) fun e he => entB_len e (hok e (List.mem_of_mem_take he)).2.2 (hg e (List.mem_of_mem_take he)).id.1
    rw [List.length_take] at h1
    omega
  have hnum := fun W => R3number_any (es.length : Int) W (by omega) (by omega)
  have HG : Hid (∀ e, e ∈ es → e.Good) := hg
  have HOK : Hid (∀ e, e ∈ es → 0 ≤ e.mode ∧ e.mode ≤ 255 ∧ e.name.length ≤ 255) := hok
  have HV : Hid (∀ W, Kept [] w W → EntsAt W ev es) := fun W k => hv.keep k (fun _ _ _ => by simp)
  obtain ⟨ap, cp, rfl, hcap, hlen, _⟩ := hv.form
  clear h2 hg hok hv
  have HL0 : Hid (LSt w ((w.alloc (.cells row 33)).alloc (.cells #[.int .u8 2] 5)) row (.slice (some ⟨w.heap.size + 1, 0, none⟩) 1 1) [2]) := LSt.start w row 2
  obtain ⟨y0, y2⟩ := HTC.out _ HB0.out
  obtain ⟨x0, x2⟩ := HTC.out _ HL0.out.box
  have z0 := HL0.out.big
  go_enter Tryd.func25, Tryd.ntmps25
  go_wp2_with fail
  go_at_call 37
  refine (hnum _).mono ?_
  rintro e w2 ⟨p2, rfl, o2, k2⟩
  have HL2 : Hid (LSt w w2 row (.slice (some ⟨w.heap.size + 1, 0, none⟩) 1 1) [2]) := HL0.out.on k2
  have HO2 : Hid (BytesAt w2 p2 (varB es.length)) := o2.bytes
  clear o2 k2 x0 x2 y0 y2 HL0 z0
  obtain ⟨x0, x2⟩ := HTC.out _ HL2.out.box
  have z2 := HL2.out.big
  go_wp2_with (at_builtin; refine wpList_append_bytes rfl (.tmp 20) (.tmp 24) rfl rfl HL2.out.own rfl HO2.out (by simp; omega) z2 ?_; intro u3 w3 ha
               have HL3 : Hid (LSt w w3 row u3 ([2] ++ varB es.length)) := HL2.out.app ha
               clear ha)
  clear x0 x2 z2 HL2 HO2
  have HA : Hid (([2] ++ varB es.length).length ≤ 50) := by show _ ≤ _; simp; omega
  generalize [2] ++ varB es.length = A at *
  go_loopw [3, 4] (fun s3 s4 wr => ∃ (k : Nat) (u : Value), u = s3 ∧ k ≤ es.length ∧ s4 = .int .i64 k ∧ Hid (LSt w wr row u (A ++ entsB (es.take k)))) (fun _ s4 _ => es.length - (intOf s4).toNat)
  case atStart => exact ⟨0, _, rfl, Nat.zero_le _, rfl, by have h := HL3.out; rw [← List.append_nil A] at h; exact h⟩
  case round =>
    clear HL3
    obtain ⟨k, u, rfl, hk, rfl, HL⟩ := hrel
    obtain ⟨x0, x2⟩ := HTC.out _ HL.out.box
    have z3 := HL.out.big
    have hA := HA.out
    by_cases hlt : k < es.length
    · have t1 : decide ((k : Int) < es.length) = true := decide_eq_true (by omega)
      obtain ⟨en, hek⟩ : ∃ en, es[k]? = some en := ⟨_, List.getElem?_eq_getElem hlt⟩
      have hge := HG.out en (List.mem_of_getElem? hek)
      have hoe := HOK.out en (List.mem_of_getElem? hek)
      obtain ⟨ao', cap', he, _, _, hcc⟩ := (HV.out wr HL.out.kept).form
      injection he with e1 e2 e3
      subst e1 e3
      obtain ⟨b, off, rfl, hh⟩ := hcc (by rintro rfl; simp at hlt)
      have HM : Hid (∀ W, Kept [] w W → W.cell? ⟨b, off + k * 34, none⟩ = some (.int .i64 en.mode) ∧ W.cell? ⟨b, off + k * 34 + 1, none⟩ = some (.string (strOfNums en.name)) ∧ W.rangeAt b (off + k * 34 + 2) (en.id.map (Value.int .u8))) := fun W hW => by
        obtain ⟨ao2, cap2, he2, _, _, hcc2⟩ := (HV.out W hW).form
        injection he2 with f1 f2 f3
        subst f3
        obtain ⟨b2, off2, hb2, hh2⟩ := hcc2 (by rintro rfl; simp at hlt)
        rw [← f1] at hb2
        injection hb2 with hb2
        injection hb2 with q1 q2
        subst q1 q2
        exact ent_mid (hh2 k en hek)
      have hlk := HLK.out k
      have hsp : (Tryd.prog.info? 25).map (·.size) = some (en.id.map (Value.int .u8)).length := by rw [List.length_map, hge.id.1]; exact Tryd.infoID
      have HS : Hid (A ++ entsB (es.take (k + 1)) = A ++ entsB (es.take k) ++ [en.mode] ++ (varB en.name.length ++ en.name) ++ en.id) := by
        show _ = _
        rw [entsB_succ hek]
        unfold entB
        rw [fixedB1 _ hoe.1 hoe.2.1]
        simp only [List.append_assoc]
      have vn := varB_len (en.name.length : Int) (by omega) (by omega)
      have r8 : IntKind.u8.wrap en.mode = en.mode := by rw [IntKind.wrap_u8']; omega
      have htx := fun W => R3text_any en.name hge.name.1 (by omega) W
      have hid := hge.id
      have HID : Hid (GoodID en.id) := hid
      have hl3 := hoe.2.2
      clear hh hcc hek hge hoe hid
      generalize entsB (es.take k) = E at *
      generalize hE' : entsB (es.take (k + 1)) = E' at *
      generalize strOfNums en.name = sn at *
      have HLa : Hid (LSt w (wr.alloc (.cells #[.int .u8 en.mode] 5)) row u (A ++ E)) := HL.out.on ((Kept.refl _ _).alloc _)
      obtain ⟨m0, m1, m2⟩ := HM.out wr HL.out.kept
      go_wp2_with (at_builtin; refine wpList_append_bytes rfl (.tmp 33) (.tmp 41) rfl rfl HLa.out.own rfl (one_byte wr en.mode) (by simp at *; omega) HLa.out.big ?_; intro u4 w4 ha
                   have HL4 : Hid (LSt w w4 row u4 (A ++ E ++ [en.mode])) := HLa.out.app ha
                   obtain ⟨x0, x2⟩ := HTC.out _ HL4.out.box
                   obtain ⟨m0, m1, m2⟩ := HM.out w4 HL4.out.kept
                   have z4 := HL4.out.big
                   clear ha)
      go_at_call 38
      refine (htx _).mono ?_
      rintro e w5 ⟨p5, rfl, o5, k5⟩
      have HL5 : Hid (LSt w w5 row u4 (A ++ E ++ [en.mode])) := HL4.out.on k5
      have HO5 : Hid (BytesAt w5 p5 (varB en.name.length ++ en.name)) := o5.bytes
      clear o5 k5 x0 x2 m0 m1 m2 HL4 z4
      obtain ⟨x0, x2⟩ := HTC.out _ HL5.out.box
      obtain ⟨m0, m1, m2⟩ := HM.out w5 HL5.out.kept
      have z5 := HL5.out.big
      go_wp2_with (first
        | (at_builtin; refine wpList_append_bytes rfl (.tmp 43) (.tmp 50) rfl rfl HL5.out.own rfl HO5.out (by simp at *; omega) z5 ?_; intro u6 w6 ha
           have HL6 : Hid (LSt w w6 row u6 (A ++ E ++ [en.mode] ++ (varB en.name.length ++ en.name))) := HL5.out.app ha
           obtain ⟨x0, x2⟩ := HTC.out _ HL6.out.box
           obtain ⟨m0, m1, m3⟩ := HM.out w6 HL6.out.kept
           have z6 := HL6.out.big
           clear ha)
        | (refine wpList_load_mid (by rfl) 25 (.tmp 57) (by rfl) b (off + k * 34 + 2) (by rfl) (en.id.map (Value.int .u8)) _ m3 hun rfl hsp ?_))
      go_at_call 39
      refine (R3raw_any HL6.out.own z6 en.id HID.out (by simp at *; omega)).mono ?_
      rintro e w7 ⟨u7, rfl, h7⟩
      rw [← HS.out] at h7
      have HL7 : Hid (LSt w w7 row u7 (A ++ E')) := HL6.out.laid h7
      clear h7
      go_wp2
      go_roundw
      case rel => exact ⟨k + 1, _, rfl, by omega, by go_num, by rw [hE']; exact HL7⟩
      case measure => simp [intOf]; omega
    · have t1 : decide ((k : Int) < es.length) = false := decide_eq_false (by omega)
      obtain rfl : k = es.length := by omega
      rw [List.take_length] at HL
      go_wp2
      go_ret
      refine ⟨_, rfl, ?_, HL.out.kept⟩
      rw [HE.out]
      exact HL.out.own.mono (by omega)
end Go.Proofs.YtnfbiemmdaenpaaDoor
