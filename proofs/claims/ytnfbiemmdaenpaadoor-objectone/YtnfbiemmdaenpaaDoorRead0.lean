/-
  Objects as values; WALK: object.contentOf.
  WALKS: (object.blob).fault, write; object.Encode of each kind.
  What is read is good; object.read's plain part.
-/
import Derived.Test.YtnfbiemmdaenpaaDoorCom4
namespace Go.Proofs.YtnfbiemmdaenpaaDoor
open Go.RowKit

structure ObjL where
  kind : Int
  bv : Value
  blob : List Int
  ev : Value
  es : List EntL
  com : ComL
  pv : Value
  tag : TagL
def ObjL.row (o : ObjL) : List Value := [.int .i64 o.kind, o.bv, o.ev] ++ (o.com.row o.pv ++ o.tag.row)
structure ObjL.Good (w : World) (o : ObjL) : Prop where
  lo : -9223372036854775808 ≤ o.kind
  hi : o.kind ≤ 9223372036854775807
  bv : BytesAt w o.bv o.blob
  blob : GoodText o.blob
  ev : EntsAt w o.ev o.es
  es : ∀ e, e ∈ o.es → e.Good
  pv : IdsAt w o.pv o.com.parents
  com : o.com.Good
  tag : o.tag.Good
theorem com_len' (c : ComL) (pv : Value) (hl : c.tree.length = 32) : (c.row pv).length = 36 := by simp [ComL.row, hl]
theorem obj_cells {w : World} {b : Nat} {o : ObjL} {ty : TypeId} {fr : Nat × Nat} (hl : o.com.tree.length = 32) (h : w.heap[b]? = some (.cells o.row.toArray ty fr)) :
    w.cell? ⟨b, 0, none⟩ = some (.int .i64 o.kind) ∧ w.cell? ⟨b, 1, none⟩ = some o.bv ∧ w.cell? ⟨b, 2, none⟩ = some o.ev ∧ w.rangeAt b 3 (o.com.row o.pv) ∧ w.rangeAt b 39 o.tag.row := by
  have hr := row_range h
  have key : ∀ j v, o.row[j]? = some v → w.cell? ⟨b, j, none⟩ = some v := fun j v hj => by
    have := hr j v hj
    rwa [Nat.zero_add] at this
  have hc := com_len' o.com o.pv hl
  refine ⟨key 0 _ rfl, key 1 _ rfl, key 2 _ rfl, fun j v hj => key _ v ?_, fun j v hj => key _ v ?_⟩
  · have hjl := (List.getElem?_eq_some_iff.1 hj).1
    unfold ObjL.row
    rw [List.getElem?_append_right (by show 3 ≤ 3 + j; omega), show (3 + j - [Value.int .i64 o.kind, o.bv, o.ev].length) = j by show 3 + j - 3 = j; omega, List.getElem?_append_left hjl]
    exact hj
  · unfold ObjL.row
    rw [List.getElem?_append_right (by show 3 ≤ 39 + j; omega), show (39 + j - [Value.int .i64 o.kind, o.bv, o.ev].length) = 36 + j by show 39 + j - 3 = 36 + j; omega, List.getElem?_append_right (by omega), hc, Nat.add_sub_cancel_left]
    exact hj
/-- What an object of its kind holds, as an interface's value. -/
def conV (o : ObjL) : Value := if o.kind = 1 then .iface 80 o.bv else if o.kind = 2 then .iface 81 o.ev else if o.kind = 3 then .iface 82 (.agg (o.com.row o.pv).toArray) else if o.kind = 4 then .iface 83 (.agg o.tag.row.toArray) else .nilIface

set_option maxRecDepth 100000 in
set_option maxHeartbeats 2000000 in
theorem contentOf_any (o : ObjL) (w : World) (hlo : -9223372036854775808 ≤ o.kind) (hhi : o.kind ≤ 9223372036854775807) (hc : o.com.tree.length = 32) (ht : o.tag.target.length = 32) :
    Calls Tryd.prog 19 #[.agg o.row.toArray] w fun e w' => e = .returned (.tuple #[conV o, .int .i64 (if modeB o.kind = true then 0 else 30)]) ∧ Kept [] w w' := by
  obtain ⟨c0, c1, c2, c3, c4⟩ := obj_cells (b := w.heap.size) hc (heap_alloc_new w (.cells o.row.toArray 33))
  have HK : Hid (Kept [] w (w.alloc (.cells o.row.toArray 33))) := (Kept.refl _ _).alloc _
  have hsc : (Tryd.prog.info? 29).map (·.size) = some (o.com.row o.pv).length := by rw [com_len' _ _ hc]; kernel_rfl
  have hst : (Tryd.prog.info? 31).map (·.size) = some o.tag.row.length := by rw [show o.tag.row.length = 37 by simp [TagL.row, ht]]; kernel_rfl
  obtain ⟨cv, hcv⟩ : ∃ cv, cv = conV o := ⟨_, rfl⟩
  obtain ⟨rv, hrv⟩ : ∃ rv : Int, rv = if modeB o.kind = true then 0 else 30 := ⟨_, rfl⟩
  rw [← hcv, ← hrv]
  unfold conV at hcv
  generalize o.row.toArray = orr at *
  generalize o.com.row o.pv = cr at *
  generalize o.tag.row = tr at *
  generalize o.bv = bv at *
  generalize o.ev = ev at *
  generalize o.kind = kd at *
  by_cases k1 : kd = 1
  · subst k1
    have HC : Hid (cv = .iface 80 bv) := hcv
    have HR : Hid (rv = 0) := hrv
    clear hcv hrv
    go_enter Tryd.func19, Tryd.ntmps19
    go_wp2
    exact bodyPost_ret (v := .tuple #[.iface 80 bv, .int .i64 0]) (by simp [results, Tryd.results19, go_sem]) rfl ⟨by rw [HC.out, HR.out], HK.out⟩
  · by_cases k2 : kd = 2
    · subst k2
      have HC : Hid (cv = .iface 81 ev) := hcv
      have HR : Hid (rv = 0) := hrv
      clear hcv hrv
      go_enter Tryd.func19, Tryd.ntmps19
      go_wp2
      exact bodyPost_ret (v := .tuple #[.iface 81 ev, .int .i64 0]) (by simp [results, Tryd.results19, go_sem]) rfl ⟨by rw [HC.out, HR.out], HK.out⟩
    · by_cases k3 : kd = 3
      · subst k3
        have HC : Hid (cv = .iface 82 (.agg cr.toArray)) := hcv
        have HR : Hid (rv = 0) := hrv
        clear hcv hrv
        go_enter Tryd.func19, Tryd.ntmps19
        go_wp2_with (refine wpList_load_mid (by rfl) 29 (.tmp 18) (by rfl) w.heap.size 3 (by rfl) cr _ c3 Tryd.underlying29 rfl hsc ?_)
        exact bodyPost_ret (v := .tuple #[.iface 82 (.agg cr.toArray), .int .i64 0]) (by simp [results, Tryd.results19, go_sem]) rfl ⟨by rw [HC.out, HR.out], HK.out⟩
      · by_cases k4 : kd = 4
        · subst k4
          have HC : Hid (cv = .iface 83 (.agg tr.toArray)) := hcv
          have HR : Hid (rv = 0) := hrv
          clear hcv hrv
          go_enter Tryd.func19, Tryd.ntmps19
          go_wp2_with (refine wpList_load_mid (by rfl) 31 (.tmp 23) (by rfl) w.heap.size 39 (by rfl) tr _ c4 Tryd.underlying31 rfl hst ?_)
          exact bodyPost_ret (v := .tuple #[.iface 83 (.agg tr.toArray), .int .i64 0]) (by simp [results, Tryd.results19, go_sem]) rfl ⟨by rw [HC.out, HR.out], HK.out⟩
        · have HC : Hid (cv = .nilIface) := by rw [hcv, if_neg k1, if_neg k2, if_neg k3, if_neg k4]; exact rfl
          have HR : Hid (rv = 30) := by
            rw [hrv, if_neg]
            · exact rfl
            · unfold modeB
              simp
              omega
          have b1 : (kd == 1) = false := beq_eq_false_iff_ne.2 k1
          have b2 : (kd == 2) = false := beq_eq_false_iff_ne.2 k2
          have b3 : (kd == 3) = false := beq_eq_false_iff_ne.2 k3
          have b4 : (kd == 4) = false := beq_eq_false_iff_ne.2 k4
          clear hcv hrv
          go_enter Tryd.func19, Tryd.ntmps19
          go_wp2
          exact bodyPost_ret (v := .tuple #[.nilIface, .int .i64 30]) (by simp [results, Tryd.results19, go_sem]) rfl ⟨by rw [HC.out, HR.out], HK.out⟩
end Go.Proofs.YtnfbiemmdaenpaaDoor

namespace Go.Proofs.YtnfbiemmdaenpaaDoor
open Go.RowKit

def faultB (xs : List Int) : Int := if 65536 < 1 + xs.length then 31 else 0
def encB (xs : List Int) : List Int := fixedB 1 1 ++ xs

theorem blobFault_any (v : Value) (xs : List Int) (w : World) (hv : BytesAt w v xs) (hm : xs.length ≤ 140737488351232) :
    Calls Tryd.prog 96 #[v] w fun e w' => e = .returned (.int .i64 (faultB xs)) ∧ Kept [] w w' := by
  obtain ⟨ao, cap, rfl, _⟩ := hv
  by_cases hl : 65536 < 1 + xs.length
  · have HF : Hid (faultB xs = 31) := if_pos hl
    go_enter Tryd.func96, Tryd.ntmps96
    go_wp2
    go_ret
    exact ⟨by rw [HF.out]; rfl, Kept.refl _ _⟩
  · have HF : Hid (faultB xs = 0) := if_neg hl
    go_enter Tryd.func96, Tryd.ntmps96
    go_wp2
    go_ret
    exact ⟨by rw [HF.out]; rfl, Kept.refl _ _⟩

theorem blobWrite_any (v : Value) (xs : List Int) {w : World} {wb B : Nat} {zs : List Int} {S : List Nat} (h : WAt w wb B zs S) (hBw : B ≤ w.heap.size) (hv : BytesAt w v xs) (hd : xs ≠ [] → ∀ b, blkOf v = some b → b ∉ S) (ho : Octs xs) (hz : zs.length + xs.length ≤ 100000000) :
    Calls Tryd.prog 97 #[v, .pointer (some ⟨wb, 0, none⟩)] w fun e w' => e = .returned (.tuple #[]) ∧ Wrote w w' wb B (zs ++ encB xs) S := by
  have HU0 : Hid (∀ W S', WSt w W wb B zs S S' → Calls Tryd.prog 98 #[.pointer (some ⟨wb, 0, none⟩), .int .u8 1] W fun e w' => e = .returned (.tuple #[]) ∧ Wrote W w' wb B (zs ++ fixedB 1 1) S') := fun W S' q => WU8_any q.at' (Nat.le_trans hBw q.keep.size) 1 (by decide) (by decide) (by omega)
  have HU1 : Hid (∀ W S', WSt w W wb B (zs ++ fixedB 1 1) S S' → Calls Tryd.prog 99 #[.pointer (some ⟨wb, 0, none⟩), v] W fun e w' => e = .returned (.tuple #[]) ∧ Wrote W w' wb B (zs ++ fixedB 1 1 ++ xs) S') := fun W S' q => WRaw_any q.at' (Nat.le_trans hBw q.keep.size) v xs (hv.keep q.keep hd) ho (by rw [List.length_append, fixedB_len]; omega)
  have HW0 : Hid (WSt w w wb B zs S S) := WSt.start h
  have HE : Hid (zs ++ fixedB 1 1 ++ xs = zs ++ encB xs) := List.append_assoc _ _ _
  obtain ⟨ao, cap, rfl, _⟩ := hv
  clear h hd ho
  go_enter Tryd.func97, Tryd.ntmps97
  go_wp2_with (first
    | (go_at_call 98; refine (HU0.out _ _ HW0.out).mono ?_; rintro e w1 ⟨rfl, hw1⟩
       obtain ⟨S1, hs1, _, _⟩ := HW0.out.next hw1
       have HW1 : Hid (WSt w w1 wb B (zs ++ fixedB 1 1) S S1) := hs1
       clear hs1 hw1)
    | (go_at_call 99; refine (HU1.out _ _ HW1.out).mono ?_; rintro e w2 ⟨rfl, hw2⟩
       obtain ⟨S2, hs2, _, _⟩ := HW1.out.next hw2
       have HW2 : Hid (WSt w w2 wb B (zs ++ fixedB 1 1 ++ xs) S S2) := hs2
       clear hs2 hw2))
  go_end0
  exact ⟨rfl, by rw [← HE.out]; exact HW2.out.wrote⟩

theorem kept_new {w W W' : World} {b : Nat} (h : Kept [] w W) (k : Kept [b] W W') (hb : w.heap.size ≤ b) : Kept [] w W' := h.trans k fun x hx => Or.inr (by rw [List.mem_singleton.1 hx]; exact hb)
theorem meth_blob_fault (n : Nat) (v : Value) (W : World) : (method (n + 1) 80 v "satchel/object.fault").run Tryd.prog W = .ok (96, v) W := by kernel_rfl
theorem meth_blob_write (n : Nat) (v : Value) (W : World) : (method (n + 1) 80 v "satchel/object.write").run Tryd.prog W = .ok (97, v) W := by kernel_rfl
theorem meth_blob_children (n : Nat) (v : Value) (W : World) : (method (n + 1) 80 v "satchel/object.children").run Tryd.prog W = .ok (95, v) W := by kernel_rfl
theorem meth_tree_fault (n : Nat) (v : Value) (W : World) : (method (n + 1) 81 v "satchel/object.fault").run Tryd.prog W = .ok (102, v) W := by kernel_rfl
theorem meth_tree_write (n : Nat) (v : Value) (W : World) : (method (n + 1) 81 v "satchel/object.write").run Tryd.prog W = .ok (103, v) W := by kernel_rfl
theorem meth_tree_children (n : Nat) (v : Value) (W : World) : (method (n + 1) 81 v "satchel/object.children").run Tryd.prog W = .ok (101, v) W := by kernel_rfl
theorem meth_commit_fault (n : Nat) (v : Value) (W : World) : (method (n + 1) 82 v "satchel/object.fault").run Tryd.prog W = .ok (109, v) W := by kernel_rfl
theorem meth_commit_write (n : Nat) (v : Value) (W : World) : (method (n + 1) 82 v "satchel/object.write").run Tryd.prog W = .ok (110, v) W := by kernel_rfl
theorem meth_commit_children (n : Nat) (v : Value) (W : World) : (method (n + 1) 82 v "satchel/object.children").run Tryd.prog W = .ok (108, v) W := by kernel_rfl
theorem meth_tag_fault (n : Nat) (v : Value) (W : World) : (method (n + 1) 83 v "satchel/object.fault").run Tryd.prog W = .ok (116, v) W := by kernel_rfl
theorem meth_tag_write (n : Nat) (v : Value) (W : World) : (method (n + 1) 83 v "satchel/object.write").run Tryd.prog W = .ok (117, v) W := by kernel_rfl
theorem meth_tag_children (n : Nat) (v : Value) (W : World) : (method (n + 1) 83 v "satchel/object.children").run Tryd.prog W = .ok (115, v) W := by kernel_rfl
/-- What Encode answers, of a content with this fault and these bytes. -/
def EncP (w : World) (fv : Int) (enc : List Int) (e : Ending) (w' : World) : Prop :=
  Kept [] w w' ∧ (fv ≠ 0 → e = .returned (.tuple #[.slice none 0 0, .int .i64 fv])) ∧ (fv = 0 → 65536 < enc.length → e = .returned (.tuple #[.slice none 0 0, .int .i64 31])) ∧
    (fv = 0 → enc.length ≤ 65536 → ∃ b, e = .returned (.tuple #[.slice (some ⟨b, 0, none⟩) enc.length enc.length, .int .i64 0]) ∧ w'.heap[b]? = some (.cells (enc.map (Value.int .u8)).toArray 5 (0, 0)) ∧ w.heap.size ≤ b)
end Go.Proofs.YtnfbiemmdaenpaaDoor

namespace Go.Proofs.YtnfbiemmdaenpaaDoor
open Go.RowKit

theorem take_octs (xs : List Int) (ho : Octs xs) (pl f : Nat) (kind size most : Int) : Octs (takeL xs pl f kind size most).text := by
  unfold takeL
  split
  · intro u hu; simp at hu
  · split
    · intro u hu; simp at hu
    · intro u hu
      exact ho u (List.mem_of_mem_drop (List.mem_of_mem_take (List.mem_of_mem_drop hu)))
theorem idOf_good {t : List Int} (ho : Octs t) (hl : t.length ≤ 32) : GoodID (idOf t) := ⟨idOf_len hl, fun u hu => by
  unfold idOf at hu
  rcases List.mem_append.1 hu with h | h
  · exact ho u h
  · have := List.mem_of_mem_drop h
    unfold zero32 at this
    rw [(List.mem_replicate.1 this).2]
    exact ⟨by decide, by decide⟩⟩
theorem take_text_good (xs : List Int) (ho : Octs xs) (hs : xs.length ≤ 65536) (pl f : Nat) (kind size most : Int) : GoodText (takeL xs pl f kind size most).text := ⟨take_octs xs ho pl f kind size most, Nat.le_trans (take_len xs pl f kind size most) (by omega)⟩
theorem rdEs_good (xs : List Int) (ho : Octs xs) (hs : xs.length ≤ 65536) (pl f : Nat) : ∀ k e, e ∈ (rdEs xs pl f k).1 → e.Good
  | 0, e, h => by simp [rdEs] at h
  | k + 1, e, h => by
    unfold rdEs at h
    rcases List.mem_append.1 h with h | h
    · exact rdEs_good xs ho hs pl f k e h
    · rw [List.mem_singleton.1 h]
      have hb := take_lt xs ho (rdEs xs pl f k).2.1 (rdEs xs pl f k).2.2 1
      have hb1 : (takeL xs (rdEs xs pl f k).2.1 (rdEs xs pl f k).2.2 0 ((1 : Nat) : Int) 0).n < 256 := hb.2
      have hb0 := hb.1
      exact ⟨by show -9223372036854775808 ≤ (takeL xs (rdEs xs pl f k).2.1 (rdEs xs pl f k).2.2 0 ((1 : Nat) : Int) 0).n; omega, by show (takeL xs (rdEs xs pl f k).2.1 (rdEs xs pl f k).2.2 0 ((1 : Nat) : Int) 0).n ≤ 9223372036854775807; omega, take_text_good xs ho hs _ _ _ _ _, idOf_good (take_octs xs ho _ _ _ _ _) (raw32_len _ _ _)⟩
theorem EntsAt.of_rows {w : World} {b : Nat} {es : List EntL} (h : RowsIn w b 74 (es.map EntL.row)) (hg : ∀ e, e ∈ es → e.Good) (hl : es.length ≤ 1024) : EntsAt w (.slice (some ⟨b, 0, none⟩) es.length es.length) es := by
  refine ⟨_, es.length, by rw [List.length_map], by rw [List.length_map]; exact Nat.le_refl _, fun e => (by cases e), by rw [List.length_map]; omega, fun _ => ⟨b, 0, rfl, fun i cs hi => ?_⟩⟩
  rw [Nat.zero_add]
  exact h.range 34 (by decide) (fun r hr => by
    obtain ⟨e, he, rfl⟩ := List.mem_map.1 hr
    exact EntL.row_len (hg e he).id) i cs hi
theorem take_f (xs : List Int) (ho : Octs xs) (pl f : Nat) (hf : f ≤ 4) (kind size most : Int) (hs : kind = 0 → size ≤ 8) (hm : most ≤ 18446744073709551615) : (takeL xs pl f kind size most).f ≤ 4 := by
  unfold takeL
  split
  · exact hf
  · split
    · exact (lookL_fits (xs.drop pl) kind size most (octs_drop ho pl) hs hm).f
    · exact Nat.zero_le _
theorem rdIs_good (xs : List Int) (ho : Octs xs) (pl f : Nat) : ∀ k e, e ∈ (rdIs xs pl f k).1 → GoodID e
  | 0, e, h => by simp [rdIs] at h
  | k + 1, e, h => by
    unfold rdIs at h
    rcases List.mem_append.1 h with h | h
    · exact rdIs_good xs ho pl f k e h
    · rw [List.mem_singleton.1 h]
      exact idOf_good (take_octs xs ho _ _ _ _ _) (raw32_len _ _ _)
theorem IdsAt.of_rows {w : World} {b : Nat} {ids : List (List Int)} (h : RowsIn w b 25 (ids.map idRow)) (hg : ∀ e, e ∈ ids → GoodID e) (hl : ids.length ≤ 1024) : IdsAt w (.slice (some ⟨b, 0, none⟩) ids.length ids.length) ids := by
  refine ⟨_, ids.length, rfl, Nat.le_refl _, fun e => (by cases e), by omega, fun _ => ⟨b, 0, rfl, fun i xs hi => ?_⟩⟩
  rw [Nat.zero_add]
  exact h.range 32 (by decide) (fun r hr => by
    obtain ⟨e, he, rfl⟩ := List.mem_map.1 hr
    unfold idRow
    rw [List.length_map, (hg e he).1]) i _ (by rw [List.getElem?_map, hi]; rfl)
theorem errL_ne : ∀ f : Nat, f ≠ 0 → f ≤ 4 → errL f ≠ 0
  | 0, h, _ => absurd rfl h
  | 1, _, _ => by decide
  | 2, _, _ => by decide
  | 3, _, _ => by decide
  | 4, _, _ => by decide
  | _ + 5, _, h => by omega
end Go.Proofs.YtnfbiemmdaenpaaDoor
