/-
  WALK: object.Encode, of a blob.
  WALK: object.Encode, of a tree.
  WALK: object.Encode, of a commit.
  WALK: object.Encode, of a tag.
-/
import Derived.Test.YtnfbiemmdaenpaaDoorHd
import Derived.Test.YtnfbiemmdaenpaaDoorRead0
namespace Go.Proofs.YtnfbiemmdaenpaaDoor
open Go.RowKit

set_option maxRecDepth 100000 in
set_option maxHeartbeats 2000000 in
theorem encodeBlob (o : ObjL) (w : World) (hk : o.kind = 1) (hc : o.com.tree.length = 32) (ht : o.tag.target.length = 32) (fv : Int) (enc : List Int) (hen : enc.length ≤ 100000000)
    (hF : ∀ W, Kept [] w W → Calls Tryd.prog 96 #[o.bv] W fun e w' => e = .returned (.int .i64 fv) ∧ Kept [] W w')
    (hW : fv = 0 → ∀ W wb S, Kept [] w W → WAt W wb w.heap.size [] S → Calls Tryd.prog 97 #[o.bv, .pointer (some ⟨wb, 0, none⟩)] W fun e w' => e = .returned (.tuple #[]) ∧ Wrote W w' wb w.heap.size enc S) :
    Calls Tryd.prog 6 #[.agg o.row.toArray] w (EncP w fv enc) := by
  have hcon := fun W => contentOf_any o W (by omega) (by omega) hc ht
  have hcv : conV o = .iface 80 o.bv := by unfold conV; rw [if_pos hk]
  rw [hcv, if_pos (by rw [hk]; rfl)] at hcon
  have hsz : (Tryd.prog.info? 33).map (·.size) = some o.row.toArray.size := by
    rw [List.size_toArray, show o.row.length = 76 by unfold ObjL.row; rw [List.length_append, List.length_append, com_len' _ _ hc, show o.tag.row.length = 37 by simp [TagL.row, ht]]; rfl]
    kernel_rfl
  have HB : Hid ((w.alloc (.cells o.row.toArray 33)).heap[w.heap.size]? = some (.cells o.row.toArray 33 (0, 0))) := heap_alloc_new w _
  have hm1 := meth_blob_fault
  have hm2 := meth_blob_write
  have HF0 : Hid _ := hF
  have HW0 : Hid _ := hW
  clear hF hW hcv
  generalize o.row.toArray = orr at *
  generalize hvv : o.bv = vv at *
  clear hvv
  have HF : Hid (∀ W, Kept [] w W → Calls Tryd.prog 96 #[vv] W fun e w' => e = .returned (.int .i64 fv) ∧ Kept [] W w') := HF0
  clear HF0
  by_cases hf0 : fv = 0
  · subst hf0
    have HW : Hid (∀ W wb S, Kept [] w W → WAt W wb w.heap.size [] S → Calls Tryd.prog 97 #[vv, .pointer (some ⟨wb, 0, none⟩)] W fun e w' => e = .returned (.tuple #[]) ∧ Wrote W w' wb w.heap.size enc S) := HW0.out rfl
    clear HW0
    go_enter Tryd.func6, Tryd.ntmps6
    by_cases hl : 65536 < enc.length
    · have hd : decide (65536 < (enc.length : Int)) = true := decide_eq_true (by omega)
      go_wp2_with (first
        | (refine wpList_load_row (by rfl) 33 (.tmp 1) (by rfl) w.heap.size (by rfl) 33 orr (0, 0) _ HB.out Tryd.underlying33 rfl hsz ?_)
        | (go_at_call 19; refine (hcon _).mono ?_; rintro e w1 ⟨rfl, hk1⟩; have HK1 : Hid (Kept [] w w1) := ((Kept.refl [] w).alloc _).then hk1; clear hk1)
        | (go_at_call 96; refine (HF.out _ HK1.out).mono ?_; rintro e w2 ⟨rfl, hk2⟩; have HK2 : Hid (Kept [] w w2) := HK1.out.then hk2; clear hk2)
        | (go_at_call 20; refine (New_any _ w.heap.size HK2.out.size).mono ?_; rintro e w3 ⟨rfl, hw3, hk3⟩
           have HK3 : Hid (Kept [] w w3) := HK2.out.then hk3
           have HW3 : Hid (WAt w3 w2.heap.size w.heap.size [] [w2.heap.size]) := hw3
           have hs2 := HK2.out.size
           clear hw3 hk3)
        | (go_at_call 97; refine (HW.out _ _ _ HK3.out HW3.out).mono ?_; rintro e w4 ⟨rfl, hw4⟩
           obtain ⟨S4, hat4, hk4, _⟩ := hw4
           have HK4 : Hid (Kept [] w w4) := kept_new HK3.out hk4 hs2
           have HL4 : Hid (Calls Tryd.prog 21 #[.pointer (some ⟨w2.heap.size, 0, none⟩)] w4 fun e w' => e = .returned (.int .i64 enc.length) ∧ w' = w4) := WLen_any hat4
           have HO4 : Hid (Calls Tryd.prog 22 #[.pointer (some ⟨w2.heap.size, 0, none⟩)] w4 fun e w' => e = .returned (.slice (some ⟨w4.heap.size, 0, none⟩) enc.length enc.length) ∧ w'.heap[w4.heap.size]? = some (.cells (enc.map (Value.int .u8)).toArray 5 (0, 0)) ∧ Kept [] w4 w') := WOut_any hat4 (by omega)
           clear hat4 hk4)
        | (go_at_call 21; refine (HL4.out).mono ?_; rintro e w6 ⟨rfl, hw6⟩; subst w6))
      refine bodyPost_ret (v := .tuple #[.slice none 0 0, .int .i64 31]) (by simp [results, Tryd.results6, go_sem]) rfl ⟨HK4.out, fun h => absurd rfl h, fun _ _ => rfl, fun _ h => absurd h (by omega)⟩
    · have hd : decide (65536 < (enc.length : Int)) = false := decide_eq_false (by omega)
      go_wp2_with (first
        | (refine wpList_load_row (by rfl) 33 (.tmp 1) (by rfl) w.heap.size (by rfl) 33 orr (0, 0) _ HB.out Tryd.underlying33 rfl hsz ?_)
        | (go_at_call 19; refine (hcon _).mono ?_; rintro e w1 ⟨rfl, hk1⟩; have HK1 : Hid (Kept [] w w1) := ((Kept.refl [] w).alloc _).then hk1; clear hk1)
        | (go_at_call 96; refine (HF.out _ HK1.out).mono ?_; rintro e w2 ⟨rfl, hk2⟩; have HK2 : Hid (Kept [] w w2) := HK1.out.then hk2; clear hk2)
        | (go_at_call 20; refine (New_any _ w.heap.size HK2.out.size).mono ?_; rintro e w3 ⟨rfl, hw3, hk3⟩
           have HK3 : Hid (Kept [] w w3) := HK2.out.then hk3
           have HW3 : Hid (WAt w3 w2.heap.size w.heap.size [] [w2.heap.size]) := hw3
           have hs2 := HK2.out.size
           clear hw3 hk3)
        | (go_at_call 97; refine (HW.out _ _ _ HK3.out HW3.out).mono ?_; rintro e w4 ⟨rfl, hw4⟩
           obtain ⟨S4, hat4, hk4, _⟩ := hw4
           have HK4 : Hid (Kept [] w w4) := kept_new HK3.out hk4 hs2
           have HL4 : Hid (Calls Tryd.prog 21 #[.pointer (some ⟨w2.heap.size, 0, none⟩)] w4 fun e w' => e = .returned (.int .i64 enc.length) ∧ w' = w4) := WLen_any hat4
           have HO4 : Hid (Calls Tryd.prog 22 #[.pointer (some ⟨w2.heap.size, 0, none⟩)] w4 fun e w' => e = .returned (.slice (some ⟨w4.heap.size, 0, none⟩) enc.length enc.length) ∧ w'.heap[w4.heap.size]? = some (.cells (enc.map (Value.int .u8)).toArray 5 (0, 0)) ∧ Kept [] w4 w') := WOut_any hat4 (by omega)
           clear hat4 hk4)
        | (go_at_call 21; refine (HL4.out).mono ?_; rintro e w6 ⟨rfl, hw6⟩; subst w6)
        | (go_at_call 22; refine (HO4.out).mono ?_; rintro e w5 ⟨rfl, hb5, hk5⟩
           have HK5 : Hid (Kept [] w w5) := HK4.out.then hk5
           have HB5 : Hid _ := hb5
           have hs4 := HK4.out.size
           clear hb5 hk5))
      refine bodyPost_ret (v := .tuple #[.slice (some ⟨w4.heap.size, 0, none⟩) enc.length enc.length, .int .i64 0]) (by simp [results, Tryd.results6, go_sem]) rfl ⟨HK5.out, fun h => absurd rfl h, fun _ h => absurd h hl, fun _ _ => ⟨_, rfl, HB5.out, hs4⟩⟩
  · have hne : (fv != 0) = true := bne_iff_ne.2 hf0
    clear HW0
    go_enter Tryd.func6, Tryd.ntmps6
    go_wp2_with (first
      | (refine wpList_load_row (by rfl) 33 (.tmp 1) (by rfl) w.heap.size (by rfl) 33 orr (0, 0) _ HB.out Tryd.underlying33 rfl hsz ?_)
      | (go_at_call 19; refine (hcon _).mono ?_; rintro e w1 ⟨rfl, hk1⟩; have HK1 : Hid (Kept [] w w1) := ((Kept.refl [] w).alloc _).then hk1; clear hk1)
      | (go_at_call 96; refine (HF.out _ HK1.out).mono ?_; rintro e w2 ⟨rfl, hk2⟩; have HK2 : Hid (Kept [] w w2) := HK1.out.then hk2; clear hk2))
    refine bodyPost_ret (v := .tuple #[.slice none 0 0, .int .i64 fv]) (by simp [results, Tryd.results6, go_sem]) rfl ⟨HK2.out, fun _ => rfl, fun h => absurd h hf0, fun h => absurd h hf0⟩
end Go.Proofs.YtnfbiemmdaenpaaDoor

namespace Go.Proofs.YtnfbiemmdaenpaaDoor
open Go.RowKit

set_option maxRecDepth 100000 in
set_option maxHeartbeats 2000000 in
theorem encodeTree (o : ObjL) (w : World) (hk : o.kind = 2) (hc : o.com.tree.length = 32) (ht : o.tag.target.length = 32) (fv : Int) (enc : List Int) (hen : enc.length ≤ 100000000)
    (hF : ∀ W, Kept [] w W → Calls Tryd.prog 102 #[o.ev] W fun e w' => e = .returned (.int .i64 fv) ∧ Kept [] W w')
    (hW : fv = 0 → ∀ W wb S, Kept [] w W → WAt W wb w.heap.size [] S → Calls Tryd.prog 103 #[o.ev, .pointer (some ⟨wb, 0, none⟩)] W fun e w' => e = .returned (.tuple #[]) ∧ Wrote W w' wb w.heap.size enc S) :
    Calls Tryd.prog 6 #[.agg o.row.toArray] w (EncP w fv enc) := by
  have hcon := fun W => contentOf_any o W (by omega) (by omega) hc ht
  have hcv : conV o = .iface 81 o.ev := by unfold conV; rw [if_neg (by omega)]; rw [if_pos hk]
  rw [hcv, if_pos (by rw [hk]; rfl)] at hcon
  have hsz : (Tryd.prog.info? 33).map (·.size) = some o.row.toArray.size := by
    rw [List.size_toArray, show o.row.length = 76 by unfold ObjL.row; rw [List.length_append, List.length_append, com_len' _ _ hc, show o.tag.row.length = 37 by simp [TagL.row, ht]]; rfl]
    kernel_rfl
  have HB : Hid ((w.alloc (.cells o.row.toArray 33)).heap[w.heap.size]? = some (.cells o.row.toArray 33 (0, 0))) := heap_alloc_new w _
  have hm1 := meth_tree_fault
  have hm2 := meth_tree_write
  have HF0 : Hid _ := hF
  have HW0 : Hid _ := hW
  clear hF hW hcv
  generalize o.row.toArray = orr at *
  generalize hvv : o.ev = vv at *
  clear hvv
  have HF : Hid (∀ W, Kept [] w W → Calls Tryd.prog 102 #[vv] W fun e w' => e = .returned (.int .i64 fv) ∧ Kept [] W w') := HF0
  clear HF0
  by_cases hf0 : fv = 0
  · subst hf0
    have HW : Hid (∀ W wb S, Kept [] w W → WAt W wb w.heap.size [] S → Calls Tryd.prog 103 #[vv, .pointer (some ⟨wb, 0, none⟩)] W fun e w' => e = .returned (.tuple #[]) ∧ Wrote W w' wb w.heap.size enc S) := HW0.out rfl
    clear HW0
    go_enter Tryd.func6, Tryd.ntmps6
    by_cases hl : 65536 < enc.length
    · have hd : decide (65536 < (enc.length : Int)) = true := decide_eq_true (by omega)
      go_wp2_with (first
        | (refine wpList_load_row (by rfl) 33 (.tmp 1) (by rfl) w.heap.size (by rfl) 33 orr (0, 0) _ HB.out Tryd.underlying33 rfl hsz ?_)
        | (go_at_call 19; refine (hcon _).mono ?_; rintro e w1 ⟨rfl, hk1⟩; have HK1 : Hid (Kept [] w w1) := ((Kept.refl [] w).alloc _).then hk1; clear hk1)
        | (go_at_call 102; refine (HF.out _ HK1.out).mono ?_; rintro e w2 ⟨rfl, hk2⟩; have HK2 : Hid (Kept [] w w2) := HK1.out.then hk2; clear hk2)
        | (go_at_call 20; refine (New_any _ w.heap.size HK2.out.size).mono ?_; rintro e w3 ⟨rfl, hw3, hk3⟩
           have HK3 : Hid (Kept [] w w3) := HK2.out.then hk3
           have HW3 : Hid (WAt w3 w2.heap.size w.heap.size [] [w2.heap.size]) := hw3
           have hs2 := HK2.out.size
           clear hw3 hk3)
        | (go_at_call 103; refine (HW.out _ _ _ HK3.out HW3.out).mono ?_; rintro e w4 ⟨rfl, hw4⟩
           obtain ⟨S4, hat4, hk4, _⟩ := hw4
           have HK4 : Hid (Kept [] w w4) := kept_new HK3.out hk4 hs2
           have HL4 : Hid (Calls Tryd.prog 21 #[.pointer (some ⟨w2.heap.size, 0, none⟩)] w4 fun e w' => e = .returned (.int .i64 enc.length) ∧ w' = w4) := WLen_any hat4
           have HO4 : Hid (Calls Tryd.prog 22 #[.pointer (some ⟨w2.heap.size, 0, none⟩)] w4 fun e w' => e = .returned (.slice (some ⟨w4.heap.size, 0, none⟩) enc.length enc.length) ∧ w'.heap[w4.heap.size]? = some (.cells (enc.map (Value.int .u8)).toArray 5 (0, 0)) ∧ Kept [] w4 w') := WOut_any hat4 (by omega)
           clear hat4 hk4)
        | (go_at_call 21; refine (HL4.out).mono ?_; rintro e w6 ⟨rfl, hw6⟩; subst w6))
      refine bodyPost_ret (v := .tuple #[.slice none 0 0, .int .i64 31]) (by simp [results, Tryd.results6, go_sem]) rfl ⟨HK4.out, fun h => absurd rfl h, fun _ _ => rfl, fun _ h => absurd h (by omega)⟩
    · have hd : decide (65536 < (enc.length : Int)) = false := decide_eq_false (by omega)
      go_wp2_with (first
        | (refine wpList_load_row (by rfl) 33 (.tmp 1) (by rfl) w.heap.size (by rfl) 33 orr (0, 0) _ HB.out Tryd.underlying33 rfl hsz ?_)
        | (go_at_call 19; refine (hcon _).mono ?_; rintro e w1 ⟨rfl, hk1⟩; have HK1 : Hid (Kept [] w w1) := ((Kept.refl [] w).alloc _).then hk1; clear hk1)
        | (go_at_call 102; refine (HF.out _ HK1.out).mono ?_; rintro e w2 ⟨rfl, hk2⟩; have HK2 : Hid (Kept [] w w2) := HK1.out.then hk2; clear hk2)
        | (go_at_call 20; refine (New_any _ w.heap.size HK2.out.size).mono ?_; rintro e w3 ⟨rfl, hw3, hk3⟩
           have HK3 : Hid (Kept [] w w3) := HK2.out.then hk3
           have HW3 : Hid (WAt w3 w2.heap.size w.heap.size [] [w2.heap.size]) := hw3
           have hs2 := HK2.out.size
           clear hw3 hk3)
        | (go_at_call 103; refine (HW.out _ _ _ HK3.out HW3.out).mono ?_; rintro e w4 ⟨rfl, hw4⟩
           obtain ⟨S4, hat4, hk4, _⟩ := hw4
           have HK4 : Hid (Kept [] w w4) := kept_new HK3.out hk4 hs2
           have HL4 : Hid (Calls Tryd.prog 21 #[.pointer (some ⟨w2.heap.size, 0, none⟩)] w4 fun e w' => e = .returned (.int .i64 enc.length) ∧ w' = w4) := WLen_any hat4
           have HO4 : Hid (Calls Tryd.prog 22 #[.pointer (some ⟨w2.heap.size, 0, none⟩)] w4 fun e w' => e = .returned (.slice (some ⟨w4.heap.size, 0, none⟩) enc.length enc.length) ∧ w'.heap[w4.heap.size]? = some (.cells (enc.map (Value.int .u8)).toArray 5 (0, 0)) ∧ Kept [] w4 w') := WOut_any hat4 (by omega)
           clear hat4 hk4)
        | (go_at_call 21; refine (HL4.out).mono ?_; rintro e w6 ⟨rfl, hw6⟩; subst w6)
        | (go_at_call 22; refine (HO4.out).mono ?_; rintro e w5 ⟨rfl, hb5, hk5⟩
           have HK5 : Hid (Kept [] w w5) := HK4.out.then hk5
           have HB5 : Hid _ := hb5
           have hs4 := HK4.out.size
           clear hb5 hk5))
      refine bodyPost_ret (v := .tuple #[.slice (some ⟨w4.heap.size, 0, none⟩) enc.length enc.length, .int .i64 0]) (by simp [results, Tryd.results6, go_sem]) rfl ⟨HK5.out, fun h => absurd rfl h, fun _ h => absurd h hl, fun _ _ => ⟨_, rfl, HB5.out, hs4⟩⟩
  · have hne : (fv != 0) = true := bne_iff_ne.2 hf0
    clear HW0
    go_enter Tryd.func6, Tryd.ntmps6
    go_wp2_with (first
      | (refine wpList_load_row (by rfl) 33 (.tmp 1) (by rfl) w.heap.size (by rfl) 33 orr (0, 0) _ HB.out Tryd.underlying33 rfl hsz ?_)
      | (go_at_call 19; refine (hcon _).mono ?_; rintro e w1 ⟨rfl, hk1⟩; have HK1 : Hid (Kept [] w w1) := ((Kept.refl [] w).alloc _).then hk1; clear hk1)
      | (go_at_call 102; refine (HF.out _ HK1.out).mono ?_; rintro e w2 ⟨rfl, hk2⟩; have HK2 : Hid (Kept [] w w2) := HK1.out.then hk2; clear hk2))
    refine bodyPost_ret (v := .tuple #[.slice none 0 0, .int .i64 fv]) (by simp [results, Tryd.results6, go_sem]) rfl ⟨HK2.out, fun _ => rfl, fun h => absurd h hf0, fun h => absurd h hf0⟩
end Go.Proofs.YtnfbiemmdaenpaaDoor

namespace Go.Proofs.YtnfbiemmdaenpaaDoor
open Go.RowKit

set_option maxRecDepth 100000 in
set_option maxHeartbeats 2000000 in
theorem encodeCom (o : ObjL) (w : World) (hk : o.kind = 3) (hc : o.com.tree.length = 32) (ht : o.tag.target.length = 32) (fv : Int) (enc : List Int) (hen : enc.length ≤ 100000000)
    (hF : ∀ W, Kept [] w W → Calls Tryd.prog 109 #[(.agg (o.com.row o.pv).toArray)] W fun e w' => e = .returned (.int .i64 fv) ∧ Kept [] W w')
    (hW : fv = 0 → ∀ W wb S, Kept [] w W → WAt W wb w.heap.size [] S → Calls Tryd.prog 110 #[(.agg (o.com.row o.pv).toArray), .pointer (some ⟨wb, 0, none⟩)] W fun e w' => e = .returned (.tuple #[]) ∧ Wrote W w' wb w.heap.size enc S) :
    Calls Tryd.prog 6 #[.agg o.row.toArray] w (EncP w fv enc) := by
  have hcon := fun W => contentOf_any o W (by omega) (by omega) hc ht
  have hcv : conV o = .iface 82 (.agg (o.com.row o.pv).toArray) := by unfold conV; rw [if_neg (by omega)]; rw [if_neg (by omega)]; rw [if_pos hk]
  rw [hcv, if_pos (by rw [hk]; rfl)] at hcon
  have hsz : (Tryd.prog.info? 33).map (·.size) = some o.row.toArray.size := by
    rw [List.size_toArray, show o.row.length = 76 by unfold ObjL.row; rw [List.length_append, List.length_append, com_len' _ _ hc, show o.tag.row.length = 37 by simp [TagL.row, ht]]; rfl]
    kernel_rfl
  have HB : Hid ((w.alloc (.cells o.row.toArray 33)).heap[w.heap.size]? = some (.cells o.row.toArray 33 (0, 0))) := heap_alloc_new w _
  have hm1 := meth_commit_fault
  have hm2 := meth_commit_write
  have HF0 : Hid _ := hF
  have HW0 : Hid _ := hW
  clear hF hW hcv
  generalize o.row.toArray = orr at *
  generalize hvv : (Value.agg (o.com.row o.pv).toArray) = vv at *
  clear hvv
  have HF : Hid (∀ W, Kept [] w W → Calls Tryd.prog 109 #[vv] W fun e w' => e = .returned (.int .i64 fv) ∧ Kept [] W w') := HF0
  clear HF0
  by_cases hf0 : fv = 0
  · subst hf0
    have HW : Hid (∀ W wb S, Kept [] w W → WAt W wb w.heap.size [] S → Calls Tryd.prog 110 #[vv, .pointer (some ⟨wb, 0, none⟩)] W fun e w' => e = .returned (.tuple #[]) ∧ Wrote W w' wb w.heap.size enc S) := HW0.out rfl
    clear HW0
    go_enter Tryd.func6, Tryd.ntmps6
    by_cases hl : 65536 < enc.length
    · have hd : decide (65536 < (enc.length : Int)) = true := decide_eq_true (by omega)
      go_wp2_with (first
        | (refine wpList_load_row (by rfl) 33 (.tmp 1) (by rfl) w.heap.size (by rfl) 33 orr (0, 0) _ HB.out Tryd.underlying33 rfl hsz ?_)
        | (go_at_call 19; refine (hcon _).mono ?_; rintro e w1 ⟨rfl, hk1⟩; have HK1 : Hid (Kept [] w w1) := ((Kept.refl [] w).alloc _).then hk1; clear hk1)
        | (go_at_call 109; refine (HF.out _ HK1.out).mono ?_; rintro e w2 ⟨rfl, hk2⟩; have HK2 : Hid (Kept [] w w2) := HK1.out.then hk2; clear hk2)
        | (go_at_call 20; refine (New_any _ w.heap.size HK2.out.size).mono ?_; rintro e w3 ⟨rfl, hw3, hk3⟩
           have HK3 : Hid (Kept [] w w3) := HK2.out.then hk3
           have HW3 : Hid (WAt w3 w2.heap.size w.heap.size [] [w2.heap.size]) := hw3
           have hs2 := HK2.out.size
           clear hw3 hk3)
        | (go_at_call 110; refine (HW.out _ _ _ HK3.out HW3.out).mono ?_; rintro e w4 ⟨rfl, hw4⟩
           obtain ⟨S4, hat4, hk4, _⟩ := hw4
           have HK4 : Hid (Kept [] w w4) := kept_new HK3.out hk4 hs2
           have HL4 : Hid (Calls Tryd.prog 21 #[.pointer (some ⟨w2.heap.size, 0, none⟩)] w4 fun e w' => e = .returned (.int .i64 enc.length) ∧ w' = w4) := WLen_any hat4
           have HO4 : Hid (Calls Tryd.prog 22 #[.pointer (some ⟨w2.heap.size, 0, none⟩)] w4 fun e w' => e = .returned (.slice (some ⟨w4.heap.size, 0, none⟩) enc.length enc.length) ∧ w'.heap[w4.heap.size]? = some (.cells (enc.map (Value.int .u8)).toArray 5 (0, 0)) ∧ Kept [] w4 w') := WOut_any hat4 (by omega)
           clear hat4 hk4)
        | (go_at_call 21; refine (HL4.out).mono ?_; rintro e w6 ⟨rfl, hw6⟩; subst w6))
      refine bodyPost_ret (v := .tuple #[.slice none 0 0, .int .i64 31]) (by simp [results, Tryd.results6, go_sem]) rfl ⟨HK4.out, fun h => absurd rfl h, fun _ _ => rfl, fun _ h => absurd h (by omega)⟩
    · have hd : decide (65536 < (enc.length : Int)) = false := decide_eq_false (by omega)
      go_wp2_with (first
        | (refine wpList_load_row (by rfl) 33 (.tmp 1) (by rfl) w.heap.size (by rfl) 33 orr (0, 0) _ HB.out Tryd.underlying33 rfl hsz ?_)
        | (go_at_call 19; refine (hcon _).mono ?_; rintro e w1 ⟨rfl, hk1⟩; have HK1 : Hid (Kept [] w w1) := ((Kept.refl [] w).alloc _).then hk1; clear hk1)
        | (go_at_call 109; refine (HF.out _ HK1.out).mono ?_; rintro e w2 ⟨rfl, hk2⟩; have HK2 : Hid (Kept [] w w2) := HK1.out.then hk2; clear hk2)
        | (go_at_call 20; refine (New_any _ w.heap.size HK2.out.size).mono ?_; rintro e w3 ⟨rfl, hw3, hk3⟩
           have HK3 : Hid (Kept [] w w3) := HK2.out.then hk3
           have HW3 : Hid (WAt w3 w2.heap.size w.heap.size [] [w2.heap.size]) := hw3
           have hs2 := HK2.out.size
           clear hw3 hk3)
        | (go_at_call 110; refine (HW.out _ _ _ HK3.out HW3.out).mono ?_; rintro e w4 ⟨rfl, hw4⟩
           obtain ⟨S4, hat4, hk4, _⟩ := hw4
           have HK4 : Hid (Kept [] w w4) := kept_new HK3.out hk4 hs2
           have HL4 : Hid (Calls Tryd.prog 21 #[.pointer (some ⟨w2.heap.size, 0, none⟩)] w4 fun e w' => e = .returned (.int .i64 enc.length) ∧ w' = w4) := WLen_any hat4
           have HO4 : Hid (Calls Tryd.prog 22 #[.pointer (some ⟨w2.heap.size, 0, none⟩)] w4 fun e w' => e = .returned (.slice (some ⟨w4.heap.size, 0, none⟩) enc.length enc.length) ∧ w'.heap[w4.heap.size]? = some (.cells (enc.map (Value.int .u8)).toArray 5 (0, 0)) ∧ Kept [] w4 w') := WOut_any hat4 (by omega)
           clear hat4 hk4)
        | (go_at_call 21; refine (HL4.out).mono ?_; rintro e w6 ⟨rfl, hw6⟩; subst w6)
        | (go_at_call 22; refine (HO4.out).mono ?_; rintro e w5 ⟨rfl, hb5, hk5⟩
           have HK5 : Hid (Kept [] w w5) := HK4.out.then hk5
           have HB5 : Hid _ := hb5
           have hs4 := HK4.out.size
           clear hb5 hk5))
      refine bodyPost_ret (v := .tuple #[.slice (some ⟨w4.heap.size, 0, none⟩) enc.length enc.length, .int .i64 0]) (by simp [results, Tryd.results6, go_sem]) rfl ⟨HK5.out, fun h => absurd rfl h, fun _ h => absurd h hl, fun _ _ => ⟨_, rfl, HB5.out, hs4⟩⟩
  · have hne : (fv != 0) = true := bne_iff_ne.2 hf0
    clear HW0
    go_enter Tryd.func6, Tryd.ntmps6
    go_wp2_with (first
      | (refine wpList_load_row (by rfl) 33 (.tmp 1) (by rfl) w.heap.size (by rfl) 33 orr (0, 0) _ HB.out Tryd.underlying33 rfl hsz ?_)
      | (go_at_call 19; refine (hcon _).mono ?_; rintro e w1 ⟨rfl, hk1⟩; have HK1 : Hid (Kept [] w w1) := ((Kept.refl [] w).alloc _).then hk1; clear hk1)
      | (go_at_call 109; refine (HF.out _ HK1.out).mono ?_; rintro e w2 ⟨rfl, hk2⟩; have HK2 : Hid (Kept [] w w2) := HK1.out.then hk2; clear hk2))
    refine bodyPost_ret (v := .tuple #[.slice none 0 0, .int .i64 fv]) (by simp [results, Tryd.results6, go_sem]) rfl ⟨HK2.out, fun _ => rfl, fun h => absurd h hf0, fun h => absurd h hf0⟩
end Go.Proofs.YtnfbiemmdaenpaaDoor

namespace Go.Proofs.YtnfbiemmdaenpaaDoor
open Go.RowKit

set_option maxRecDepth 100000 in
set_option maxHeartbeats 2000000 in
theorem encodeTag (o : ObjL) (w : World) (hk : o.kind = 4) (hc : o.com.tree.length = 32) (ht : o.tag.target.length = 32) (fv : Int) (enc : List Int) (hen : enc.length ≤ 100000000)
    (hF : ∀ W, Kept [] w W → Calls Tryd.prog 116 #[(.agg o.tag.row.toArray)] W fun e w' => e = .returned (.int .i64 fv) ∧ Kept [] W w')
    (hW : fv = 0 → ∀ W wb S, Kept [] w W → WAt W wb w.heap.size [] S → Calls Tryd.prog 117 #[(.agg o.tag.row.toArray), .pointer (some ⟨wb, 0, none⟩)] W fun e w' => e = .returned (.tuple #[]) ∧ Wrote W w' wb w.heap.size enc S) :
    Calls Tryd.prog 6 #[.agg o.row.toArray] w (EncP w fv enc) := by
  have hcon := fun W => contentOf_any o W (by omega) (by omega) hc ht
  have hcv : conV o = .iface 83 (.agg o.tag.row.toArray) := by unfold conV; rw [if_neg (by omega)]; rw [if_neg (by omega)]; rw [if_neg (by omega)]; rw [if_pos hk]
  rw [hcv, if_pos (by rw [hk]; rfl)] at hcon
  have hsz : (Tryd.prog.info? 33).map (·.size) = some o.row.toArray.size := by
    rw [List.size_toArray, show o.row.length = 76 by unfold ObjL.row; rw [List.length_append, List.length_append, com_len' _ _ hc, show o.tag.row.length = 37 by simp [TagL.row, ht]]; rfl]
    kernel_rfl
  have HB : Hid ((w.alloc (.cells o.row.toArray 33)).heap[w.heap.size]? = some (.cells o.row.toArray 33 (0, 0))) := heap_alloc_new w _
  have hm1 := meth_tag_fault
  have hm2 := meth_tag_write
  have HF0 : Hid _ := hF
  have HW0 : Hid _ := hW
  clear hF hW hcv
  generalize o.row.toArray = orr at *
  generalize hvv : (Value.agg o.tag.row.toArray) = vv at *
  clear hvv
  have HF : Hid (∀ W, Kept [] w W → Calls Tryd.prog 116 #[vv] W fun e w' => e = .returned (.int .i64 fv) ∧ Kept [] W w') := HF0
  clear HF0
  by_cases hf0 : fv = 0
  · subst hf0
    have HW : Hid (∀ W wb S, Kept [] w W → WAt W wb w.heap.size [] S → Calls Tryd.prog 117 #[vv, .pointer (some ⟨wb, 0, none⟩)] W fun e w' => e = .returned (.tuple #[]) ∧ Wrote W w' wb w.heap.size enc S) := HW0.out rfl
    clear HW0
    go_enter Tryd.func6, Tryd.ntmps6
    by_cases hl : 65536 < enc.length
    · have hd : decide (65536 < (enc.length : Int)) = true := decide_eq_true (by omega)
      go_wp2_with (first
        | (refine wpList_load_row (by rfl) 33 (.tmp 1) (by rfl) w.heap.size (by rfl) 33 orr (0, 0) _ HB.out Tryd.underlying33 rfl hsz ?_)
        | (go_at_call 19; refine (hcon _).mono ?_; rintro e w1 ⟨rfl, hk1⟩; have HK1 : Hid (Kept [] w w1) := ((Kept.refl [] w).alloc _).then hk1; clear hk1)
        | (go_at_call 116; refine (HF.out _ HK1.out).mono ?_; rintro e w2 ⟨rfl, hk2⟩; have HK2 : Hid (Kept [] w w2) := HK1.out.then hk2; clear hk2)
        | (go_at_call 20; refine (New_any _ w.heap.size HK2.out.size).mono ?_; rintro e w3 ⟨rfl, hw3, hk3⟩
           have HK3 : Hid (Kept [] w w3) := HK2.out.then hk3
           have HW3 : Hid (WAt w3 w2.heap.size w.heap.size [] [w2.heap.size]) := hw3
           have hs2 := HK2.out.size
           clear hw3 hk3)
        | (go_at_call 117; refine (HW.out _ _ _ HK3.out HW3.out).mono ?_; rintro e w4 ⟨rfl, hw4⟩
           obtain ⟨S4, hat4, hk4, _⟩ := hw4
           have HK4 : Hid (Kept [] w w4) := kept_new HK3.out hk4 hs2
           have HL4 : Hid (Calls Tryd.prog 21 #[.pointer (some ⟨w2.heap.size, 0, none⟩)] w4 fun e w' => e = .returned (.int .i64 enc.length) ∧ w' = w4) := WLen_any hat4
           have HO4 : Hid (Calls Tryd.prog 22 #[.pointer (some ⟨w2.heap.size, 0, none⟩)] w4 fun e w' => e = .returned (.slice (some ⟨w4.heap.size, 0, none⟩) enc.length enc.length) ∧ w'.heap[w4.heap.size]? = some (.cells (enc.map (Value.int .u8)).toArray 5 (0, 0)) ∧ Kept [] w4 w') := WOut_any hat4 (by omega)
           clear hat4 hk4)
        | (go_at_call 21; refine (HL4.out).mono ?_; rintro e w6 ⟨rfl, hw6⟩; subst w6))
      refine bodyPost_ret (v := .tuple #[.slice none 0 0, .int .i64 31]) (by simp [results, Tryd.results6, go_sem]) rfl ⟨HK4.out, fun h => absurd rfl h, fun _ _ => rfl, fun _ h => absurd h (by omega)⟩
    · have hd : decide (65536 < (enc.length : Int)) = false := decide_eq_false (by omega)
      go_wp2_with (first
        | (refine wpList_load_row (by rfl) 33 (.tmp 1) (by rfl) w.heap.size (by rfl) 33 orr (0, 0) _ HB.out Tryd.underlying33 rfl hsz ?_)
        | (go_at_call 19; refine (hcon _).mono ?_; rintro e w1 ⟨rfl, hk1⟩; have HK1 : Hid (Kept [] w w1) := ((Kept.refl [] w).alloc _).then hk1; clear hk1)
        | (go_at_call 116; refine (HF.out _ HK1.out).mono ?_; rintro e w2 ⟨rfl, hk2⟩; have HK2 : Hid (Kept [] w w2) := HK1.out.then hk2; clear hk2)
        | (go_at_call 20; refine (New_any _ w.heap.size HK2.out.size).mono ?_; rintro e w3 ⟨rfl, hw3, hk3⟩
           have HK3 : Hid (Kept [] w w3) := HK2.out.then hk3
           have HW3 : Hid (WAt w3 w2.heap.size w.heap.size [] [w2.heap.size]) := hw3
           have hs2 := HK2.out.size
           clear hw3 hk3)
        | (go_at_call 117; refine (HW.out _ _ _ HK3.out HW3.out).mono ?_; rintro e w4 ⟨rfl, hw4⟩
           obtain ⟨S4, hat4, hk4, _⟩ := hw4
           have HK4 : Hid (Kept [] w w4) := kept_new HK3.out hk4 hs2
           have HL4 : Hid (Calls Tryd.prog 21 #[.pointer (some ⟨w2.heap.size, 0, none⟩)] w4 fun e w' => e = .returned (.int .i64 enc.length) ∧ w' = w4) := WLen_any hat4
           have HO4 : Hid (Calls Tryd.prog 22 #[.pointer (some ⟨w2.heap.size, 0, none⟩)] w4 fun e w' => e = .returned (.slice (some ⟨w4.heap.size, 0, none⟩) enc.length enc.length) ∧ w'.heap[w4.heap.size]? = some (.cells (enc.map (Value.int .u8)).toArray 5 (0, 0)) ∧ Kept [] w4 w') := WOut_any hat4 (by omega)
           clear hat4 hk4)
        | (go_at_call 21; refine (HL4.out).mono ?_; rintro e w6 ⟨rfl, hw6⟩; subst w6)
        | (go_at_call 22; refine (HO4.out).mono ?_; rintro e w5 ⟨rfl, hb5, hk5⟩
           have HK5 : Hid (Kept [] w w5) := HK4.out.then hk5
           have HB5 : Hid _ := hb5
           have hs4 := HK4.out.size
           clear hb5 hk5))
      refine bodyPost_ret (v := .tuple #[.slice (some ⟨w4.heap.size, 0, none⟩) enc.length enc.length, .int .i64 0]) (by simp [results, Tryd.results6, go_sem]) rfl ⟨HK5.out, fun h => absurd rfl h, fun _ h => absurd h hl, fun _ _ => ⟨_, rfl, HB5.out, hs4⟩⟩
  · have hne : (fv != 0) = true := bne_iff_ne.2 hf0
    clear HW0
    go_enter Tryd.func6, Tryd.ntmps6
    go_wp2_with (first
      | (refine wpList_load_row (by rfl) 33 (.tmp 1) (by rfl) w.heap.size (by rfl) 33 orr (0, 0) _ HB.out Tryd.underlying33 rfl hsz ?_)
      | (go_at_call 19; refine (hcon _).mono ?_; rintro e w1 ⟨rfl, hk1⟩; have HK1 : Hid (Kept [] w w1) := ((Kept.refl [] w).alloc _).then hk1; clear hk1)
      | (go_at_call 116; refine (HF.out _ HK1.out).mono ?_; rintro e w2 ⟨rfl, hk2⟩; have HK2 : Hid (Kept [] w w2) := HK1.out.then hk2; clear hk2))
    refine bodyPost_ret (v := .tuple #[.slice none 0 0, .int .i64 fv]) (by simp [results, Tryd.results6, go_sem]) rfl ⟨HK2.out, fun _ => rfl, fun h => absurd h hf0, fun h => absurd h hf0⟩
end Go.Proofs.YtnfbiemmdaenpaaDoor
