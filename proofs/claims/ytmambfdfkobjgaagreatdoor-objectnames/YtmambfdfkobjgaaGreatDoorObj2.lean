/-
  Objects as values; WALK: object.contentOf.
-/
import Derived.Test.YtmambfdfkobjgaaGreatDoorCom4
namespace Go.Proofs.YtmambfdfkobjgaaGreatDoor
open Go.RowKit

structure ObjL where
  kind : Int
  bv : Value
  blob : List Int
  ev : Value
  es : List EntL
  com : ComL
  pv : Value
  tag : TagL
def ObjL.row (o : ObjL) : List Value := [.int .i64 o.kind, o.bv, o.ev] ++ (o.com.row o.pv ++ o.tag.row)
structure ObjL.Good (w : World) (o : ObjL) : Prop where
  lo : -9223372036854775808 ≤ o.kind
  hi : o.kind ≤ 9223372036854775807
  bv : BytesAt w o.bv o.blob
  blob : GoodText o.blob
  ev : EntsAt w o.ev o.es
  es : ∀ e, e ∈ o.es → e.Good
  pv : IdsAt w o.pv o.com.parents
  com : o.com.Good
  tag : o.tag.Good
theorem com_len' (c : ComL) (pv : Value) (hl : c.tree.length = 32) : (c.row pv).length = 36 := by simp [ComL.row, hl]
theorem obj_cells {w : World} {b : Nat} {o : ObjL} {ty : TypeId} {fr : Nat × Nat} (hl : o.com.tree.length = 32) (h : w.heap[b]? = some (.cells o.row.toArray ty fr)) :
    w.cell? ⟨b, 0, none⟩ = some (.int .i64 o.kind) ∧ w.cell? ⟨b, 1, none⟩ = some o.bv ∧ w.cell? ⟨b, 2, none⟩ = some o.ev ∧ w.rangeAt b 3 (o.com.row o.pv) ∧ w.rangeAt b 39 o.tag.row := by
  have hr := row_range h
  have key : ∀ j v, o.row[j]? = some v → w.cell? ⟨b, j, none⟩ = some v := fun j v hj => by
    have := hr j v hj
    rwa [Nat.zero_add] at this
  have hc := com_len' o.com o.pv hl
  refine ⟨key 0 _ rfl, key 1 _ rfl, key 2 _ rfl, fun j v hj => key _ v ?_, fun j v hj => key _ v ?_⟩
  · have hjl := (List.getElem?_eq_some_iff.1 hj).1
    unfold ObjL.row
    rw [List.getElem?_append_right (by show 3 ≤ 3 + j; omega), show (3 + j - [Value.int .i64 o.kind, o.bv, o.ev].length) = j by show 3 + j - 3 = j; omega, List.getElem?_append_left hjl]
    exact hj
  · unfold ObjL.row
    rw [List.getElem?_append_right (by show 3 ≤ 39 + j; omega), show (39 + j - [Value.int .i64 o.kind, o.bv, o.ev].length) = 36 + j by show 39 + j - 3 = 36 + j; omega, List.getElem?_append_right (by omega), hc, Nat.add_sub_cancel_left]
    exact hj
/-- What an object of its kind holds, as an interface's value. -/
def conV (o : ObjL) : Value := if o.kind = 1 then .iface 88 o.bv else if o.kind = 2 then .iface 89 o.ev else if o.kind = 3 then .iface 90 (.agg (o.com.row o.pv).toArray) else if o.kind = 4 then .iface 91 (.agg o.tag.row.toArray) else .nilIface

set_option maxRecDepth 100000 in
set_option maxHeartbeats 2000000 in
theorem contentOf_any (o : ObjL) (w : World) (hlo : -9223372036854775808 ≤ o.kind) (hhi : o.kind ≤ 9223372036854775807) (hc : o.com.tree.length = 32) (ht : o.tag.target.length = 32) :
    Calls Tryz.prog 24 #[.agg o.row.toArray] w fun e w' => e = .returned (.tuple #[conV o, .int .i64 (if modeB o.kind = true then 0 else 30)]) ∧ Kept [] w w' := by
  obtain ⟨c0, c1, c2, c3, c4⟩ := obj_cells (b := w.heap.size) hc (heap_alloc_new w (.cells o.row.toArray 39))
  have HK : Hid (Kept [] w (w.alloc (.cells o.row.toArray 39))) := (Kept.refl _ _).alloc _
  have hsc : (Tryz.prog.info? 35).map (·.size) = some (o.com.row o.pv).length := by rw [com_len' _ _ hc]; kernel_rfl
  have hst : (Tryz.prog.info? 37).map (·.size) = some o.tag.row.length := by rw [show o.tag.row.length = 37 by simp [TagL.row, ht]]; kernel_rfl
  obtain ⟨cv, hcv⟩ : ∃ cv, cv = conV o := ⟨_, rfl⟩
  obtain ⟨rv, hrv⟩ : ∃ rv : Int, rv = if modeB o.kind = true then 0 else 30 := ⟨_, rfl⟩
  rw [← hcv, ← hrv]
  unfold conV at hcv
  generalize o.row.toArray = orr at *
  generalize o.com.row o.pv = cr at *
  generalize o.tag.row = tr at *
  generalize o.bv = bv at *
  generalize o.ev = ev at *
  generalize o.kind = kd at *
  by_cases k1 : kd = 1
  · subst k1
    have HC : Hid (cv = .iface 88 bv) := hcv
    have HR : Hid (rv = 0) := hrv
    clear hcv hrv
    go_enter Tryz.func24, Tryz.ntmps24
    go_wp2
    exact bodyPost_ret (v := .tuple #[.iface 88 bv, .int .i64 0]) (by simp [results, Tryz.results24, go_sem]) rfl ⟨by rw [HC.out, HR.out], HK.out⟩
  · by_cases k2 : kd = 2
    · subst k2
      have HC : Hid (cv = .iface 89 ev) := hcv
      have HR : Hid (rv = 0) := hrv
      clear hcv hrv
      go_enter Tryz.func24, Tryz.ntmps24
      go_wp2
      exact bodyPost_ret (v := .tuple #[.iface 89 ev, .int .i64 0]) (by simp [results, Tryz.results24, go_sem]) rfl ⟨by rw [HC.out, HR.out], HK.out⟩
    · by_cases k3 : kd = 3
      · subst k3
        have HC : Hid (cv = .iface 90 (.agg cr.toArray)) := hcv
        have HR : Hid (rv = 0) := hrv
        clear hcv hrv
        go_enter Tryz.func24, Tryz.ntmps24
        go_wp2_with (refine wpList_load_mid (by rfl) 35 (.tmp 18) (by rfl) w.heap.size 3 (by rfl) cr _ c3 Tryz.underlying35 rfl hsc ?_)
        exact bodyPost_ret (v := .tuple #[.iface 90 (.agg cr.toArray), .int .i64 0]) (by simp [results, Tryz.results24, go_sem]) rfl ⟨by rw [HC.out, HR.out], HK.out⟩
      · by_cases k4 : kd = 4
        · subst k4
          have HC : Hid (cv = .iface 91 (.agg tr.toArray)) := hcv
          have HR : Hid (rv = 0) := hrv
          clear hcv hrv
          go_enter Tryz.func24, Tryz.ntmps24
          go_wp2_with (refine wpList_load_mid (by rfl) 37 (.tmp 23) (by rfl) w.heap.size 39 (by rfl) tr _ c4 Tryz.underlying37 rfl hst ?_)
          exact bodyPost_ret (v := .tuple #[.iface 91 (.agg tr.toArray), .int .i64 0]) (by simp [results, Tryz.results24, go_sem]) rfl ⟨by rw [HC.out, HR.out], HK.out⟩
        · have HC : Hid (cv = .nilIface) := by rw [hcv, if_neg k1, if_neg k2, if_neg k3, if_neg k4]; exact rfl
          have HR : Hid (rv = 30) := by
            rw [hrv, if_neg]
            · exact rfl
            · unfold modeB
              simp
              omega
          have b1 : (kd == 1) = false := beq_eq_false_iff_ne.2 k1
          have b2 : (kd == 2) = false := beq_eq_false_iff_ne.2 k2
          have b3 : (kd == 3) = false := beq_eq_false_iff_ne.2 k3
          have b4 : (kd == 4) = false := beq_eq_false_iff_ne.2 k4
          clear hcv hrv
          go_enter Tryz.func24, Tryz.ntmps24
          go_wp2
          exact bodyPost_ret (v := .tuple #[.nilIface, .int .i64 30]) (by simp [results, Tryz.results24, go_sem]) rfl ⟨by rw [HC.out, HR.out], HK.out⟩
end Go.Proofs.YtmambfdfkobjgaaGreatDoor
