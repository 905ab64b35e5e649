/-
  WALKS: (object.blob).fault, write; object.Encode of each kind.
  WALK: object.Encode, of a blob.
-/
import Derived.Test.YtmjakhmkddgffaaGreatDoorRe4
import Derived.Test.YtmjakhmkddgffaaGreatDoorEqA
namespace Go.Proofs.YtmjakhmkddgffaaGreatDoor
open Go.RowKit

def faultB (xs : List Int) : Int := if 65536 < 1 + xs.length then 31 else 0
def encB (xs : List Int) : List Int := fixedB 1 1 ++ xs

theorem blobFault_any (v : Value) (xs : List Int) (w : World) (hv : BytesAt w v xs) (hm : xs.length ≤ 140737488351232) :
    Calls Tryz.prog 117 #[v] w fun e w' => e = .returned (.int .i64 (faultB xs)) ∧ Kept [] w w' := by
  obtain ⟨ao, cap, rfl, _⟩ := hv
  by_cases hl : 65536 < 1 + xs.length
  · have HF : Hid (faultB xs = 31) := if_pos hl
    go_enter Tryz.func117, Tryz.ntmps117
    go_wp2
    go_ret
    exact ⟨by rw [HF.out]; rfl, Kept.refl _ _⟩
  · have HF : Hid (faultB xs = 0) := if_neg hl
    go_enter Tryz.func117, Tryz.ntmps117
    go_wp2
    go_ret
    exact ⟨by rw [HF.out]; rfl, Kept.refl _ _⟩

theorem blobWrite_any (v : Value) (xs : List Int) {w : World} {wb B : Nat} {zs : List Int} {S : List Nat} (h : WAt w wb B zs S) (hBw : B ≤ w.heap.size) (hv : BytesAt w v xs) (hd : xs ≠ [] → ∀ b, blkOf v = some b → b ∉ S) (ho : Octs xs) (hz : zs.length + xs.length ≤ 100000000) :
    Calls Tryz.prog 118 #[v, .pointer (some ⟨wb, 0, none⟩)] w fun e w' => e = .returned (.tuple #[]) ∧ Wrote w w' wb B (zs ++ encB xs) S := by
  have HU0 : Hid (∀ W S', WSt w W wb B zs S S' → Calls Tryz.prog 119 #[.pointer (some ⟨wb, 0, none⟩), .int .u8 1] W fun e w' => e = .returned (.tuple #[]) ∧ Wrote W w' wb B (zs ++ fixedB 1 1) S') := fun W S' q => WU8_any q.at' (Nat.le_trans hBw q.keep.size) 1 (by decide) (by decide) (by omega)
  have HU1 : Hid (∀ W S', WSt w W wb B (zs ++ fixedB 1 1) S S' → Calls Tryz.prog 120 #[.pointer (some ⟨wb, 0, none⟩), v] W fun e w' => e = .returned (.tuple #[]) ∧ Wrote W w' wb B (zs ++ fixedB 1 1 ++ xs) S') := fun W S' q => WRaw_any q.at' (Nat.le_trans hBw q.keep.size) v xs (hv.keep q.keep hd) ho (by rw [List.length_append, fixedB_len]; omega)
  have HW0 : Hid (WSt w w wb B zs S S) := WSt.start h
  have HE : Hid (zs ++ fixedB 1 1 ++ xs = zs ++ encB xs) := List.append_assoc _ _ _
  obtain ⟨ao, cap, rfl, _⟩ := hv
  clear h hd ho
  go_enter Tryz.func118, Tryz.ntmps118
  go_wp2_with (first
    | (go_at_call 119; refine (HU0.out _ _ HW0.out).mono ?_; rintro e w1 ⟨rfl, hw1⟩
       obtain ⟨S1, hs1, _, _⟩ := HW0.out.next hw1
       have HW1 : Hid (WSt w w1 wb B (zs ++ fixedB 1 1) S S1) := hs1
       clear hs1 hw1)
    | (go_at_call 120; refine (HU1.out _ _ HW1.out).mono ?_; rintro e w2 ⟨rfl, hw2⟩
       obtain ⟨S2, hs2, _, _⟩ := HW1.out.next hw2
       have HW2 : Hid (WSt w w2 wb B (zs ++ fixedB 1 1 ++ xs) S S2) := hs2
       clear hs2 hw2))
  go_end0
  exact ⟨rfl, by rw [← HE.out]; exact HW2.out.wrote⟩

theorem kept_new {w W W' : World} {b : Nat} (h : Kept [] w W) (k : Kept [b] W W') (hb : w.heap.size ≤ b) : Kept [] w W' := h.trans k fun x hx => Or.inr (by rw [List.mem_singleton.1 hx]; exact hb)
theorem meth_blob_fault (n : Nat) (v : Value) (W : World) : (method (n + 1) 88 v "satchel/object.fault").run Tryz.prog W = .ok (117, v) W := by kernel_rfl
theorem meth_blob_write (n : Nat) (v : Value) (W : World) : (method (n + 1) 88 v "satchel/object.write").run Tryz.prog W = .ok (118, v) W := by kernel_rfl
theorem meth_blob_children (n : Nat) (v : Value) (W : World) : (method (n + 1) 88 v "satchel/object.children").run Tryz.prog W = .ok (116, v) W := by kernel_rfl
theorem meth_tree_fault (n : Nat) (v : Value) (W : World) : (method (n + 1) 89 v "satchel/object.fault").run Tryz.prog W = .ok (123, v) W := by kernel_rfl
theorem meth_tree_write (n : Nat) (v : Value) (W : World) : (method (n + 1) 89 v "satchel/object.write").run Tryz.prog W = .ok (124, v) W := by kernel_rfl
theorem meth_tree_children (n : Nat) (v : Value) (W : World) : (method (n + 1) 89 v "satchel/object.children").run Tryz.prog W = .ok (122, v) W := by kernel_rfl
theorem meth_commit_fault (n : Nat) (v : Value) (W : World) : (method (n + 1) 90 v "satchel/object.fault").run Tryz.prog W = .ok (130, v) W := by kernel_rfl
theorem meth_commit_write (n : Nat) (v : Value) (W : World) : (method (n + 1) 90 v "satchel/object.write").run Tryz.prog W = .ok (131, v) W := by kernel_rfl
theorem meth_commit_children (n : Nat) (v : Value) (W : World) : (method (n + 1) 90 v "satchel/object.children").run Tryz.prog W = .ok (129, v) W := by kernel_rfl
theorem meth_tag_fault (n : Nat) (v : Value) (W : World) : (method (n + 1) 91 v "satchel/object.fault").run Tryz.prog W = .ok (137, v) W := by kernel_rfl
theorem meth_tag_write (n : Nat) (v : Value) (W : World) : (method (n + 1) 91 v "satchel/object.write").run Tryz.prog W = .ok (138, v) W := by kernel_rfl
theorem meth_tag_children (n : Nat) (v : Value) (W : World) : (method (n + 1) 91 v "satchel/object.children").run Tryz.prog W = .ok (136, v) W := by kernel_rfl
/-- What Encode answers, of a content with this fault and these bytes. -/
def EncP (w : World) (fv : Int) (enc : List Int) (e : Ending) (w' : World) : Prop :=
  Kept [] w w' ∧ (fv ≠ 0 → e = .returned (.tuple #[.slice none 0 0, .int .i64 fv])) ∧ (fv = 0 → 65536 < enc.length → e = .returned (.tuple #[.slice none 0 0, .int .i64 31])) ∧
    (fv = 0 → enc.length ≤ 65536 → ∃ b, e = .returned (.tuple #[.slice (some ⟨b, 0, none⟩) enc.length enc.length, .int .i64 0]) ∧ w'.heap[b]? = some (.cells (enc.map (Value.int .u8)).toArray 5 (0, 0)) ∧ w.heap.size ≤ b)
end Go.Proofs.YtmjakhmkddgffaaGreatDoor

namespace Go.Proofs.YtmjakhmkddgffaaGreatDoor
open Go.RowKit

set_option maxRecDepth 100000 in
set_option maxHeartbeats 2000000 in
theorem encodeBlob (o : ObjL) (w : World) (hk : o.kind = 1) (hc : o.com.tree.length = 32) (ht : o.tag.target.length = 32) (fv : Int) (enc : List Int) (hen : enc.length ≤ 100000000)
    (hF : ∀ W, Kept [] w W → Calls Tryz.prog 117 #[o.bv] W fun e w' => e = .returned (.int .i64 fv) ∧ Kept [] W w')
    (hW : fv = 0 → ∀ W wb S, Kept [] w W → WAt W wb w.heap.size [] S → Calls Tryz.prog 118 #[o.bv, .pointer (some ⟨wb, 0, none⟩)] W fun e w' => e = .returned (.tuple #[]) ∧ Wrote W w' wb w.heap.size enc S) :
    Calls Tryz.prog 10 #[.agg o.row.toArray] w (EncP w fv enc) := by
  have hcon := fun W => contentOf_any o W (by omega) (by omega) hc ht
  have hcv : conV o = .iface 88 o.bv := by unfold conV; rw [if_pos hk]
  rw [hcv, if_pos (by rw [hk]; rfl)] at hcon
  have hsz : (Tryz.prog.info? 37).map (·.size) = some o.row.toArray.size := by
    rw [List.size_toArray, show o.row.length = 76 by unfold ObjL.row; rw [List.length_append, List.length_append, com_len' _ _ hc, show o.tag.row.length = 37 by simp [TagL.row, ht]]; rfl]
    kernel_rfl
  have HB : Hid ((w.alloc (.cells o.row.toArray 37)).heap[w.heap.size]? = some (.cells o.row.toArray 37 (0, 0))) := heap_alloc_new w _
  have hm1 := meth_blob_fault
  have hm2 := meth_blob_write
  have HF0 : Hid _ := hF
  have HW0 : Hid _ := hW
  clear hF hW hcv
  generalize o.row.toArray = orr at *
  generalize hvv : o.bv = vv at *
  clear hvv
  have HF : Hid (∀ W, Kept [] w W → Calls Tryz.prog 117 #[vv] W fun e w' => e = .returned (.int .i64 fv) ∧ Kept [] W w') := HF0
  clear HF0
  by_cases hf0 : fv = 0
  · subst hf0
    have HW : Hid (∀ W wb S, Kept [] w W → WAt W wb w.heap.size [] S → Calls Tryz.prog 118 #[vv, .pointer (some ⟨wb, 0, none⟩)] W fun e w' => e = .returned (.tuple #[]) ∧ Wrote W w' wb w.heap.size enc S) := HW0.out rfl
    clear HW0
    go_enter Tryz.func10, Tryz.ntmps10
    by_cases hl : 65536 < enc.length
    · have hd : decide (65536 < (enc.length : Int)) = true := decide_eq_true (by omega)
      go_wp2_with (first
        | (refine wpList_load_row (by rfl) 37 (.tmp 1) (by rfl) w.heap.size (by rfl) 37 orr (0, 0) _ HB.out Tryz.underlying37 rfl hsz ?_)
        | (go_at_call 27; refine (hcon _).mono ?_; rintro e w1 ⟨rfl, hk1⟩; have HK1 : Hid (Kept [] w w1) := ((Kept.refl [] w).alloc _).then hk1; clear hk1)
        | (go_at_call 117; refine (HF.out _ HK1.out).mono ?_; rintro e w2 ⟨rfl, hk2⟩; have HK2 : Hid (Kept [] w w2) := HK1.out.then hk2; clear hk2)
        | (go_at_call 28; refine (New_any _ w.heap.size HK2.out.size).mono ?_; rintro e w3 ⟨rfl, hw3, hk3⟩
           have HK3 : Hid (Kept [] w w3) := HK2.out.then hk3
           have HW3 : Hid (WAt w3 w2.heap.size w.heap.size [] [w2.heap.size]) := hw3
           have hs2 := HK2.out.size
           clear hw3 hk3)
        | (go_at_call 118; refine (HW.out _ _ _ HK3.out HW3.out).mono ?_; rintro e w4 ⟨rfl, hw4⟩
           obtain ⟨S4, hat4, hk4, _⟩ := hw4
           have HK4 : Hid (Kept [] w w4) := kept_new HK3.out hk4 hs2
           have HL4 : Hid (Calls Tryz.prog 29 #[.pointer (some ⟨w2.heap.size, 0, none⟩)] w4 fun e w' => e = .returned (.int .i64 enc.length) ∧ w' = w4) := WLen_any hat4
           have HO4 : Hid (Calls Tryz.prog 30 #[.pointer (some ⟨w2.heap.size, 0, none⟩)] w4 fun e w' => e = .returned (.slice (some ⟨w4.heap.size, 0, none⟩) enc.length enc.length) ∧ w'.heap[w4.heap.size]? = some (.cells (enc.map (Value.int .u8)).toArray 5 (0, 0)) ∧ Kept [] w4 w') := WOut_any hat4 (by omega)
           clear hat4 hk4)
        | (go_at_call 29; refine (HL4.out).mono ?_; rintro e w6 ⟨rfl, hw6⟩; subst w6))
      refine bodyPost_ret (v := .tuple #[.slice none 0 0, .int .i64 31]) (by simp [results, Tryz.results10, go_sem]) rfl ⟨HK4.out, fun h => absurd rfl h, fun _ _ => rfl, fun _ h => absurd h (by omega)⟩
    · have hd : decide (65536 < (enc.length : Int)) = false := decide_eq_false (by omega)
      go_wp2_with (first
        | (refine wpList_load_row (by rfl) 37 (.tmp 1) (by rfl) w.heap.size (by rfl) 37 orr (0, 0) _ HB.out Tryz.underlying37 rfl hsz ?_)
        | (go_at_call 27; refine (hcon _).mono ?_; rintro e w1 ⟨rfl, hk1⟩; have HK1 : Hid (Kept [] w w1) := ((Kept.refl [] w).alloc _).then hk1; clear hk1)
        | (go_at_call 117; refine (HF.out _ HK1.out).mono ?_; rintro e w2 ⟨rfl, hk2⟩; have HK2 : Hid (Kept [] w w2) := HK1.out.then hk2; clear hk2)
        | (go_at_call 28; refine (New_any _ w.heap.size HK2.out.size).mono ?_; rintro e w3 ⟨rfl, hw3, hk3⟩
           have HK3 : Hid (Kept [] w w3) := HK2.out.then hk3
           have HW3 : Hid (WAt w3 w2.heap.size w.heap.size [] [w2.heap.size]) := hw3
           have hs2 := HK2.out.size
           clear hw3 hk3)
        | (go_at_call 118; refine (HW.out _ _ _ HK3.out HW3.out).mono ?_; rintro e w4 ⟨rfl, hw4⟩
           obtain ⟨S4, hat4, hk4, _⟩ := hw4
           have HK4 : Hid (Kept [] w w4) := kept_new HK3.out hk4 hs2
           have HL4 : Hid (Calls Tryz.prog 29 #[.pointer (some ⟨w2.heap.size, 0, none⟩)] w4 fun e w' => e = .returned (.int .i64 enc.length) ∧ w' = w4) := WLen_any hat4
           have HO4 : Hid (Calls Tryz.prog 30 #[.pointer (some ⟨w2.heap.size, 0, none⟩)] w4 fun e w' => e = .returned (.slice (some ⟨w4.heap.size, 0, none⟩) enc.length enc.length) ∧ w'.heap[w4.heap.size]? = some (.cells (enc.map (Value.int .u8)).toArray 5 (0, 0)) ∧ Kept [] w4 w') := WOut_any hat4 (by omega)
           clear hat4 hk4)
        | (go_at_call 29; refine (HL4.out).mono ?_; rintro e w6 ⟨rfl, hw6⟩; subst w6)
        | (go_at_call 30; refine (HO4.out).mono ?_; rintro e w5 ⟨rfl, hb5, hk5⟩
           have HK5 : Hid (Kept [] w w5) := HK4.out.then hk5
           have HB5 : Hid _ := hb5
           have hs4 := HK4.out.size
           clear hb5 hk5))
      refine bodyPost_ret (v := .tuple #[.slice (some ⟨w4.heap.size, 0, none⟩) enc.length enc.length, .int .i64 0]) (by simp [results, Tryz.results10, go_sem]) rfl ⟨HK5.out, fun h => absurd rfl h, fun _ h => absurd h hl, fun _ _ => ⟨_, rfl, HB5.out, hs4⟩⟩
  · have hne : (fv != 0) = true := bne_iff_ne.2 hf0
    clear HW0
    go_enter Tryz.func10, Tryz.ntmps10
    go_wp2_with (first
      | (refine wpList_load_row (by rfl) 37 (.tmp 1) (by rfl) w.heap.size (by rfl) 37 orr (0, 0) _ HB.out Tryz.underlying37 rfl hsz ?_)
      | (go_at_call 27; refine (hcon _).mono ?_; rintro e w1 ⟨rfl, hk1⟩; have HK1 : Hid (Kept [] w w1) := ((Kept.refl [] w).alloc _).then hk1; clear hk1)
      | (go_at_call 117; refine (HF.out _ HK1.out).mono ?_; rintro e w2 ⟨rfl, hk2⟩; have HK2 : Hid (Kept [] w w2) := HK1.out.then hk2; clear hk2))
    refine bodyPost_ret (v := .tuple #[.slice none 0 0, .int .i64 fv]) (by simp [results, Tryz.results10, go_sem]) rfl ⟨HK2.out, fun _ => rfl, fun h => absurd h hf0, fun h => absurd h hf0⟩
end Go.Proofs.YtmjakhmkddgffaaGreatDoor
