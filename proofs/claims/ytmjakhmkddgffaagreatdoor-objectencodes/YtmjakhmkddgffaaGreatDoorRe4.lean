/-
  Objects as values; WALK: object.contentOf.
  WALK: satchelref3.lay of a tag: the tag's encoding.
-/
import Derived.Test.YtmjakhmkddgffaaGreatDoorCom4
import Derived.Test.YtmjakhmkddgffaaGreatDoorRe0
import Derived.Test.YtmjakhmkddgffaaGreatDoorTag2
namespace Go.Proofs.YtmjakhmkddgffaaGreatDoor
open Go.RowKit

structure ObjL where
  kind : Int
  bv : Value
  blob : List Int
  ev : Value
  es : List EntL
  com : ComL
  pv : Value
  tag : TagL
def ObjL.row (o : ObjL) : List Value := [.int .i64 o.kind, o.bv, o.ev] ++ (o.com.row o.pv ++ o.tag.row)
structure ObjL.Good (w : World) (o : ObjL) : Prop where
  lo : -9223372036854775808 ≤ o.kind
  hi : o.kind ≤ 9223372036854775807
  bv : BytesAt w o.bv o.blob
  blob : GoodText o.blob
  ev : EntsAt w o.ev o.es
  es : ∀ e, e ∈ o.es → e.Good
  pv : IdsAt w o.pv o.com.parents
  com : o.com.Good
  tag : o.tag.Good
theorem com_len' (c : ComL) (pv : Value) (hl : c.tree.length = 32) : (c.row pv).length = 36 := by simp [ComL.row, hl]
theorem obj_cells {w : World} {b : Nat} {o : ObjL} {ty : TypeId} {fr : Nat × Nat} (hl : o.com.tree.length = 32) (h : w.heap[b]? = some (.cells o.row.toArray ty fr)) :
    w.cell? ⟨b, 0, none⟩ = some (.int .i64 o.kind) ∧ w.cell? ⟨b, 1, none⟩ = some o.bv ∧ w.cell? ⟨b, 2, none⟩ = some o.ev ∧ w.rangeAt b 3 (o.com.row o.pv) ∧ w.rangeAt b 39 o.tag.row := by
  have hr := row_range h
  have key : ∀ j v, o.row[j]? = some v → w.cell? ⟨b, j, none⟩ = some v := fun j v hj => by
    have := hr j v hj
    rwa [Nat.zero_add] at this
  have hc := com_len' o.com o.pv hl
  refine ⟨key 0 _ rfl, key 1 _ rfl, key 2 _ rfl, fun j v hj => key _ v ?_, fun j v hj => key _ v ?_⟩
  · have hjl := (List.getElem?_eq_some_iff.1 hj).1
    unfold ObjL.row
    rw [List.getElem?_append_right (by show 3 ≤ 3 + j; omega), show (3 + j - [Value.int .i64 o.kind, o.bv, o.ev].length) = j by show 3 + j - 3 = j; omega, List.getElem?_append_left hjl]
    exact hj
  · unfold ObjL.row
    rw [List.getElem?_append_right (by show 3 ≤ 39 + j; omega), show (39 + j - [Value.int .i64 o.kind, o.bv, o.ev].length) = 36 + j by show 39 + j - 3 = 36 + j; omega, List.getElem?_append_right (by omega), hc, Nat.add_sub_cancel_left]
    exact hj
/-- What an object of its kind holds, as an interface's value. -/
def conV (o : ObjL) : Value := if o.kind = 1 then .iface 88 o.bv else if o.kind = 2 then .iface 89 o.ev else if o.kind = 3 then .iface 90 (.agg (o.com.row o.pv).toArray) else if o.kind = 4 then .iface 91 (.agg o.tag.row.toArray) else .nilIface

set_option maxRecDepth 100000 in
set_option maxHeartbeats 2000000 in
theorem contentOf_any (o : ObjL) (w : World) (hlo : -9223372036854775808 ≤ o.kind) (hhi : o.kind ≤ 9223372036854775807) (hc : o.com.tree.length = 32) (ht : o.tag.target.length = 32) :
    Calls Tryz.prog 27 #[.agg o.row.toArray] w fun e w' => e = .returned (.tuple #[conV o, .int .i64 (if modeB o.kind = true then 0 else 30)]) ∧ Kept [] w w' := by
  obtain ⟨c0, c1, c2, c3, c4⟩ := obj_cells (b := w.heap.size) hc (heap_alloc_new w (.cells o.row.toArray 37))
  have HK : Hid (Kept [] w (w.alloc (.cells o.row.toArray 37))) := (Kept.refl _ _).alloc _
  have hsc : (Tryz.prog.info? 33).map (·.size) = some (o.com.row o.pv).length := by rw [com_len' _ _ hc]; kernel_rfl
  have hst : (Tryz.prog.info? 35).map (·.size) = some o.tag.row.length := by rw [show o.tag.row.length = 37 by simp [TagL.row, ht]]; kernel_rfl
  obtain ⟨cv, hcv⟩ : ∃ cv, cv = conV o := ⟨_, rfl⟩
  obtain ⟨rv, hrv⟩ : ∃ rv : Int, rv = if modeB o.kind = true then 0 else 30 := ⟨_, rfl⟩
  rw [← hcv, ← hrv]
  unfold conV at hcv
  generalize o.row.toArray = orr at *
  generalize o.com.row o.pv = cr at *
  generalize o.tag.row = tr at *
  generalize o.bv = bv at *
  generalize o.ev = ev at *
  generalize o.kind = kd at *
  by_cases k1 : kd = 1
  · subst k1
    have HC : Hid (cv = .iface 88 bv) := hcv
    have HR : Hid (rv = 0) := hrv
    clear hcv hrv
    go_enter Tryz.func27, Tryz.ntmps27
    go_wp2
    exact bodyPost_ret (v := .tuple #[.iface 88 bv, .int .i64 0]) (by simp [results, Tryz.results27, go_sem]) rfl ⟨by rw [HC.out, HR.out], HK.out⟩
  · by_cases k2 : kd = 2
    · subst k2
      have HC : Hid (cv = .iface 89 ev) := hcv
      have HR : Hid (rv = 0) := hrv
      clear hcv hrv
      go_enter Tryz.func27, Tryz.ntmps27
      go_wp2
      exact bodyPost_ret (v := .tuple #[.iface 89 ev, .int .i64 0]) (by simp [results, Tryz.results27, go_sem]) rfl ⟨by rw [HC.out, HR.out], HK.out⟩
    · by_cases k3 : kd = 3
      · subst k3
        have HC : Hid (cv = .iface 90 (.agg cr.toArray)) := hcv
        have HR : Hid (rv = 0) := hrv
        clear hcv hrv
        go_enter Tryz.func27, Tryz.ntmps27
        go_wp2_with (refine wpList_load_mid (by rfl) 33 (.tmp 18) (by rfl) w.heap.size 3 (by rfl) cr _ c3 Tryz.underlying33 rfl hsc ?_)
        exact bodyPost_ret (v := .tuple #[.iface 90 (.agg cr.toArray), .int .i64 0]) (by simp [results, Tryz.results27, go_sem]) rfl ⟨by rw [HC.out, HR.out], HK.out⟩
      · by_cases k4 : kd = 4
        · subst k4
          have HC : Hid (cv = .iface 91 (.agg tr.toArray)) := hcv
          have HR : Hid (rv = 0) := hrv
          clear hcv hrv
          go_enter Tryz.func27, Tryz.ntmps27
          go_wp2_with (refine wpList_load_mid (by rfl) 35 (.tmp 23) (by rfl) w.heap.size 39 (by rfl) tr _ c4 Tryz.underlying35 rfl hst ?_)
          exact bodyPost_ret (v := .tuple #[.iface 91 (.agg tr.toArray), .int .i64 0]) (by simp [results, Tryz.results27, go_sem]) rfl ⟨by rw [HC.out, HR.out], HK.out⟩
        · have HC : Hid (cv = .nilIface) := by rw [hcv, if_neg k1, if_neg k2, if_neg k3, if_neg k4]; exact rfl
          have HR : Hid (rv = 30) := by
            rw [hrv, if_neg]
            · exact rfl
            · unfold modeB
              simp
              omega
          have b1 : (kd == 1) = false := beq_eq_false_iff_ne.2 k1
          have b2 : (kd == 2) = false := beq_eq_false_iff_ne.2 k2
          have b3 : (kd == 3) = false := beq_eq_false_iff_ne.2 k3
          have b4 : (kd == 4) = false := beq_eq_false_iff_ne.2 k4
          clear hcv hrv
          go_enter Tryz.func27, Tryz.ntmps27
          go_wp2
          exact bodyPost_ret (v := .tuple #[.nilIface, .int .i64 30]) (by simp [results, Tryz.results27, go_sem]) rfl ⟨by rw [HC.out, HR.out], HK.out⟩
end Go.Proofs.YtmjakhmkddgffaaGreatDoor

namespace Go.Proofs.YtmjakhmkddgffaaGreatDoor
open Go.RowKit

theorem fixedB1 (n : Int) (h0 : 0 ≤ n) (h1 : n ≤ 255) : fixedB n 1 = [n] := by
  simp [fixedB]
  omega
/-- lay between its steps: the object's box, and the list so far. -/
structure LSt (w wr : World) (row : Array Value) (u : Value) (zs : List Int) : Prop where
  box : wr.heap[w.heap.size]? = some (.cells row 37 (0, 0))
  own : OwnB wr (w.heap.size + 1) u zs
  kept : Kept [] w wr
section
variable {w wr w' : World} {row : Array Value} {u u' : Value} {zs us : List Int}
theorem LSt.big (L : LSt w wr row u zs) : w.heap.size + 1 ≤ wr.heap.size := lt_of_block L.box
theorem LSt.on (L : LSt w wr row u zs) (k : Kept [] wr w') : LSt w w' row u zs := ⟨k.heap L.box (by simp), L.own.kept k (by simp), L.kept.then k⟩
theorem LSt.low (L : LSt w wr row u zs) : ∀ x, u.ownBlock = some x → w.heap.size + 1 ≤ x := fun x hx => (World.ownsRow.lt L.own x hx).1
theorem LSt.app (L : LSt w wr row u zs) (h : Appended wr w' (w.heap.size + 1) u u' us) : LSt w w' row u' us := by
  have k : Kept u.ownBlock.toList wr w' := h.keep wr _ (Kept.refl _ _) fun x hx => Or.inl (by simp [hx])
  refine ⟨k.heap L.box fun e => ?_, h.own, h.keep w [] L.kept fun x hx => Or.inr ?_⟩
  · have := L.low _ (by simpa using e)
    omega
  · have := L.low x hx
    omega
theorem LSt.laid (L : LSt w wr row u zs) (h : Laid wr w' (w.heap.size + 1) u u' us) : LSt w w' row u' us := by
  have k : Kept u.ownBlock.toList wr w' := h.keep wr _ (Kept.refl _ _) fun x hx => Or.inl (by simp [hx])
  refine ⟨k.heap L.box fun e => ?_, h.own, h.keep w [] L.kept fun x hx => Or.inr ?_⟩
  · have := L.low _ (by simpa using e)
    omega
  · have := L.low x hx
    omega
end
theorem otag_cells {w : World} {b : Nat} {o : ObjL} {ty : TypeId} {fr : Nat × Nat} (hl : o.com.tree.length = 32) (ht : o.tag.target.length = 32) (h : w.heap[b]? = some (.cells o.row.toArray ty fr)) :
    w.cell? ⟨b, 0, none⟩ = some (.int .i64 o.kind) ∧ w.rangeAt b 39 (o.tag.target.map (Value.int .u8)) ∧ w.cell? ⟨b, 71, none⟩ = some (.int .i64 o.tag.kind) ∧ w.cell? ⟨b, 72, none⟩ = some (.string (strOfNums o.tag.name)) ∧ w.cell? ⟨b, 73, none⟩ = some (.string (strOfNums o.tag.who)) ∧
      w.cell? ⟨b, 74, none⟩ = some (.int .u64 o.tag.time) ∧ w.cell? ⟨b, 75, none⟩ = some (.string (strOfNums o.tag.text)) := by
  obtain ⟨c0, _, _, _, hr⟩ := obj_cells hl h
  have hlm : (o.tag.target.map (Value.int .u8)).length = 32 := by rw [List.length_map, ht]
  have key : ∀ j v, [Value.int .i64 o.tag.kind, .string (strOfNums o.tag.name), .string (strOfNums o.tag.who), .int .u64 o.tag.time, .string (strOfNums o.tag.text)][j]? = some v → w.cell? ⟨b, 39 + (32 + j), none⟩ = some v := fun j v hj => hr (32 + j) v (by
    unfold TagL.row
    rw [List.getElem?_append_right (by omega), hlm, Nat.add_sub_cancel_left]
    exact hj)
  refine ⟨c0, fun j v hj => hr j v ?_, key 0 _ rfl, key 1 _ rfl, key 2 _ rfl, key 3 _ rfl, key 4 _ rfl⟩
  unfold TagL.row
  rw [List.getElem?_append_left (List.getElem?_eq_some_iff.1 hj).1]
  exact hj

set_option maxRecDepth 100000 in
set_option maxHeartbeats 4000000 in
theorem R3layTag_any (o : ObjL) (w : World) (h4 : o.kind = 4) (hc : o.com.tree.length = 32) (hg : o.tag.Good) (hk0 : 0 ≤ o.tag.kind) (hk1 : o.tag.kind ≤ 255) (hz : o.tag.name.length + o.tag.who.length + o.tag.text.length ≤ 100000000) :
    Calls Tryz.prog 37 #[.agg o.row.toArray] w fun e w' => ∃ v, e = .returned v ∧ OwnB w' w.heap.size v (encG o.tag) ∧ Kept [] w w' := by
  have HTC : Hid (∀ W : World, W.heap[w.heap.size]? = some (.cells o.row.toArray 37 (0, 0)) → W.cell? ⟨w.heap.size, 0, none⟩ = some (.int .i64 4) ∧ W.rangeAt w.heap.size 39 (o.tag.target.map (Value.int .u8)) ∧ W.cell? ⟨w.heap.size, 71, none⟩ = some (.int .i64 o.tag.kind) ∧ W.cell? ⟨w.heap.size, 72, none⟩ = some (.string (strOfNums o.tag.name)) ∧ W.cell? ⟨w.heap.size, 73, none⟩ = some (.string (strOfNums o.tag.who)) ∧
      W.cell? ⟨w.heap.size, 74, none⟩ = some (.int .u64 o.tag.time) ∧ W.cell? ⟨w.heap.size, 75, none⟩ = some (.string (strOfNums o.tag.text))) := fun W hW => by rw [← h4]; exact otag_cells hc hg.target.1 hW
  have HE : Hid (encG o.tag = [4] ++ o.tag.target ++ [o.tag.kind] ++ (varB o.tag.name.length ++ o.tag.name) ++ (varB o.tag.who.length ++ o.tag.who) ++ fixedB o.tag.time 8 ++ (varB o.tag.text.length ++ o.tag.text)) := by
    show _ = _
    unfold encG
    rw [fixedB1 4 (by decide) (by decide), fixedB1 _ hk0 hk1]
    simp only [List.append_assoc]
  have HB0 : Hid ((w.alloc (.cells o.row.toArray 37)).heap[w.heap.size]? = some (.cells o.row.toArray 37 (0, 0))) := heap_alloc_new w _
  generalize o.row.toArray = row at *
  generalize o.tag = t at *
  obtain ⟨tg, kd, nm, wh, tm, tx⟩ := t
  obtain ⟨g1, _, _, g4, g5, g6, g7, g8⟩ := hg
  dsimp only at *
  have hun := Tryz.underlying29
  have hso : (Tryz.prog.info? 29).map (·.size) = some (tg.map (Value.int .u8)).length := by rw [List.length_map, g1.1]; exact Tryz.infoID
  have l1 := g1.1
  have v1 := varB_len (nm.length : Int) (by omega) (by omega)
  have v2 := varB_len (wh.length : Int) (by omega) (by omega)
  have v3 := varB_len (tx.length : Int) (by omega) (by omega)
  have v4 := fixedB_len tm 8
  have r8 : IntKind.u8.wrap kd = kd := by rw [IntKind.wrap_u8']; omega
  have hnm := fun W => R3text_any nm g4.1 (by omega) W
  have hwh := fun W => R3text_any wh g5.1 (by omega) W
  have htx := fun W => R3text_any tx g8.1 (by omega) W
  have htm := fun W => R3big_any tm W g6 g7
  have HG1 : Hid (GoodID tg) := g1
  generalize strOfNums nm = snm at *
  generalize strOfNums wh = swh at *
  generalize strOfNums tx = stx at *
  clear h4 hc g1 g4 g5 g6 g7 g8
  have HL0 : Hid (LSt w ((w.alloc (.cells row 37)).alloc (.cells #[.int .u8 4] 5)) row (.slice (some ⟨w.heap.size + 1, 0, none⟩) 1 1) [4]) := by
    have h := OwnB.one (w := w.alloc (.cells row 37)) 4
    rw [World.size_alloc] at h
    exact ⟨((Kept.refl [] _).alloc _).heap HB0.out (by simp), h, ((Kept.refl [] w).alloc _).alloc _⟩
  obtain ⟨y0, y1, y2, y3, y4, y5, y6⟩ := HTC.out _ HB0.out
  obtain ⟨x0, x1, x2, x3, x4, x5, x6⟩ := HTC.out _ HL0.out.box
  have z0 := HL0.out.big
  go_enter Tryz.func37, Tryz.ntmps37
  go_wp2_with (refine wpList_load_mid (by rfl) 29 (.tmp 112) (by rfl) w.heap.size 39 (by rfl) (tg.map (Value.int .u8)) _ x1 hun rfl hso ?_)
  go_at_call 60
  refine (R3raw_any HL0.out.own z0 tg HG1.out (by simp)).mono ?_
  rintro e w1 ⟨u1, rfl, h1⟩
  have HL1 : Hid (LSt w w1 row u1 ([4] ++ tg)) := HL0.out.laid h1
  clear h1 HL0 x0 x1 x2 x3 x4 x5 x6 z0 y0 y1 y2 y3 y4 y5 y6
  obtain ⟨x0, x1, x2, x3, x4, x5, x6⟩ := HTC.out _ HL1.out.box
  have z1 := HL1.out.big
  have HL2 : Hid (LSt w (w1.alloc (.cells #[.int .u8 kd] 5)) row u1 ([4] ++ tg)) := HL1.out.on ((Kept.refl _ _).alloc _)
  go_wp2_with (at_builtin; refine wpList_append_bytes rfl (.tmp 115) (.tmp 120) rfl rfl HL2.out.own rfl (one_byte w1 kd) (by simp; omega) HL2.out.big ?_; intro u3 w3 ha
               have HL3 : Hid (LSt w w3 row u3 ([4] ++ tg ++ [kd])) := HL2.out.app ha
               obtain ⟨x0, x1, x2, x3, x4, x5, x6⟩ := HTC.out _ HL3.out.box
               have z3 := HL3.out.big
               clear ha)
  go_at_call 59
  refine (hnm _).mono ?_
  rintro e w4 ⟨v4, rfl, o4, k4⟩
  have HL4 : Hid (LSt w w4 row u3 ([4] ++ tg ++ [kd])) := HL3.out.on k4
  have HO4 : Hid (BytesAt w4 v4 ((varB nm.length ++ nm))) := o4.bytes
  clear o4 k4 x0 x1 x2 x3 x4 x5 x6 HL3 z3
  obtain ⟨x0, x1, x2, x3, x4, x5, x6⟩ := HTC.out _ HL4.out.box
  have z4 := HL4.out.big
  go_wp2_with (at_builtin; refine wpList_append_bytes rfl (.tmp 122) (.tmp 126) rfl rfl HL4.out.own rfl HO4.out (by simp; omega) z4 ?_; intro u5 w5 ha
               have HL5 : Hid (LSt w w5 row u5 ([4] ++ tg ++ [kd] ++ (varB nm.length ++ nm))) := HL4.out.app ha
               obtain ⟨x0, x1, x2, x3, x4, x5, x6⟩ := HTC.out _ HL5.out.box
               have z5 := HL5.out.big
               clear ha)
  go_at_call 59
  refine (hwh _).mono ?_
  rintro e w6 ⟨v6, rfl, o6, k6⟩
  have HL6 : Hid (LSt w w6 row u5 ([4] ++ tg ++ [kd] ++ (varB nm.length ++ nm))) := HL5.out.on k6
  have HO6 : Hid (BytesAt w6 v6 ((varB wh.length ++ wh))) := o6.bytes
  clear o6 k6 x0 x1 x2 x3 x4 x5 x6 HL5 z5
  obtain ⟨x0, x1, x2, x3, x4, x5, x6⟩ := HTC.out _ HL6.out.box
  have z6 := HL6.out.big
  go_wp2_with (at_builtin; refine wpList_append_bytes rfl (.tmp 128) (.tmp 132) rfl rfl HL6.out.own rfl HO6.out (by simp; omega) z6 ?_; intro u7 w7 ha
               have HL7 : Hid (LSt w w7 row u7 ([4] ++ tg ++ [kd] ++ (varB nm.length ++ nm) ++ (varB wh.length ++ wh))) := HL6.out.app ha
               obtain ⟨x0, x1, x2, x3, x4, x5, x6⟩ := HTC.out _ HL7.out.box
               have z7 := HL7.out.big
               clear ha)
  go_at_call 61
  refine (htm _).mono ?_
  rintro e w8 ⟨v8, rfl, o8, k8⟩
  have HL8 : Hid (LSt w w8 row u7 ([4] ++ tg ++ [kd] ++ (varB nm.length ++ nm) ++ (varB wh.length ++ wh))) := HL7.out.on k8
  have HO8 : Hid (BytesAt w8 v8 (fixedB tm 8)) := o8.bytes
  clear o8 k8 x0 x1 x2 x3 x4 x5 x6 HL7 z7
  obtain ⟨x0, x1, x2, x3, x4, x5, x6⟩ := HTC.out _ HL8.out.box
  have z8 := HL8.out.big
  go_wp2_with (at_builtin; refine wpList_append_bytes rfl (.tmp 134) (.tmp 138) rfl rfl HL8.out.own rfl HO8.out (by simp; omega) z8 ?_; intro u9 w9 ha
               have HL9 : Hid (LSt w w9 row u9 ([4] ++ tg ++ [kd] ++ (varB nm.length ++ nm) ++ (varB wh.length ++ wh) ++ fixedB tm 8)) := HL8.out.app ha
               obtain ⟨x0, x1, x2, x3, x4, x5, x6⟩ := HTC.out _ HL9.out.box
               have z9 := HL9.out.big
               clear ha)
  go_at_call 59
  refine (htx _).mono ?_
  rintro e w10 ⟨v10, rfl, o10, k10⟩
  have HL10 : Hid (LSt w w10 row u9 ([4] ++ tg ++ [kd] ++ (varB nm.length ++ nm) ++ (varB wh.length ++ wh) ++ fixedB tm 8)) := HL9.out.on k10
  have HO10 : Hid (BytesAt w10 v10 ((varB tx.length ++ tx))) := o10.bytes
  clear o10 k10 x0 x1 x2 x3 x4 x5 x6 HL9 z9
  obtain ⟨x0, x1, x2, x3, x4, x5, x6⟩ := HTC.out _ HL10.out.box
  have z10 := HL10.out.big
  go_wp2_with (at_builtin; refine wpList_append_bytes rfl (.tmp 140) (.tmp 144) rfl rfl HL10.out.own rfl HO10.out (by simp; omega) z10 ?_; intro u11 w11 ha
               have HL11 : Hid (LSt w w11 row u11 ([4] ++ tg ++ [kd] ++ (varB nm.length ++ nm) ++ (varB wh.length ++ wh) ++ fixedB tm 8 ++ (varB tx.length ++ tx))) := HL10.out.app ha
               obtain ⟨x0, x1, x2, x3, x4, x5, x6⟩ := HTC.out _ HL11.out.box
               have z11 := HL11.out.big
               clear ha)
  go_ret
  refine ⟨_, rfl, ?_, HL11.out.kept⟩
  rw [HE.out]
  exact HL11.out.own.mono (by omega)
end Go.Proofs.YtmjakhmkddgffaaGreatDoor
