/-
  WALK: object.Encode, of a tree.
  WALK: object.Encode, of a commit.
  WALK: object.Encode, of a tag.
-/
import Derived.Test.YtfcoeinhfdbcgaaGreatDoorEqA
import Derived.Test.YtfcoeinhfdbcgaaGreatDoorEncBlob
namespace Go.Proofs.YtfcoeinhfdbcgaaGreatDoor
open Go.RowKit

set_option maxRecDepth 100000 in
set_option maxHeartbeats 2000000 in
theorem encodeTree (o : ObjL) (w : World) (hk : o.kind = 2) (hc : o.com.tree.length = 32) (ht : o.tag.target.length = 32) (fv : Int) (enc : List Int) (hen : enc.length ≤ 100000000)
    (hF : ∀ W, Kept [] w W → Calls Tryz.prog 121 #[o.ev] W fun e w' => e = .returned (.int .i64 fv) ∧ Kept [] W w')
    (hW : fv = 0 → ∀ W wb S, Kept [] w W → WAt W wb w.heap.size [] S → Calls Tryz.prog 122 #[o.ev, .pointer (some ⟨wb, 0, none⟩)] W fun e w' => e = .returned (.tuple #[]) ∧ Wrote W w' wb w.heap.size enc S) :
    Calls Tryz.prog 8 #[.agg o.row.toArray] w (EncP w fv enc) := by
  have hcon := fun W => contentOf_any o W (by omega) (by omega) hc ht
  have hcv : conV o = .iface 89 o.ev := by unfold conV; rw [if_neg (by omega)]; rw [if_pos hk]
  rw [hcv, if_pos (by rw [hk]; rfl)] at hcon
  have hsz : (Tryz.prog.info? 37).map (·.size) = some o.row.toArray.size := by
    rw [List.size_toArray, show o.row.length = 76 by unfold ObjL.row; rw [List.length_append, List.length_append, com_len' _ _ hc, show o.tag.row.length = 37 by simp [TagL.row, ht]]; rfl]
    kernel_rfl
  have HB : Hid ((w.alloc (.cells o.row.toArray 37)).heap[w.heap.size]? = some (.cells o.row.toArray 37 (0, 0))) := heap_alloc_new w _
  have hm1 := meth_tree_fault
  have hm2 := meth_tree_write
  have HF0 : Hid _ := hF
  have HW0 : Hid _ := hW
  clear hF hW hcv
  generalize o.row.toArray = orr at *
  generalize hvv : o.ev = vv at *
  clear hvv
  have HF : Hid (∀ W, Kept [] w W → Calls Tryz.prog 121 #[vv] W fun e w' => e = .returned (.int .i64 fv) ∧ Kept [] W w') := HF0
  clear HF0
  by_cases hf0 : fv = 0
  · subst hf0
    have HW : Hid (∀ W wb S, Kept [] w W → WAt W wb w.heap.size [] S → Calls Tryz.prog 122 #[vv, .pointer (some ⟨wb, 0, none⟩)] W fun e w' => e = .returned (.tuple #[]) ∧ Wrote W w' wb w.heap.size enc S) := HW0.out rfl
    clear HW0
    go_enter Tryz.func8, Tryz.ntmps8
    by_cases hl : 65536 < enc.length
    · have hd : decide (65536 < (enc.length : Int)) = true := decide_eq_true (by omega)
      go_wp2_with (first
        | (refine wpList_load_row (by rfl) 37 (.tmp 1) (by rfl) w.heap.size (by rfl) 37 orr (0, 0) _ HB.out Tryz.underlying37 rfl hsz ?_)
        | (go_at_call 25; refine (hcon _).mono ?_; rintro e w1 ⟨rfl, hk1⟩; have HK1 : Hid (Kept [] w w1) := ((Kept.refl [] w).alloc _).then hk1; clear hk1)
        | (go_at_call 121; refine (HF.out _ HK1.out).mono ?_; rintro e w2 ⟨rfl, hk2⟩; have HK2 : Hid (Kept [] w w2) := HK1.out.then hk2; clear hk2)
        | (go_at_call 26; refine (New_any _ w.heap.size HK2.out.size).mono ?_; rintro e w3 ⟨rfl, hw3, hk3⟩
           have HK3 : Hid (Kept [] w w3) := HK2.out.then hk3
           have HW3 : Hid (WAt w3 w2.heap.size w.heap.size [] [w2.heap.size]) := hw3
           have hs2 := HK2.out.size
           clear hw3 hk3)
        | (go_at_call 122; refine (HW.out _ _ _ HK3.out HW3.out).mono ?_; rintro e w4 ⟨rfl, hw4⟩
           obtain ⟨S4, hat4, hk4, _⟩ := hw4
           have HK4 : Hid (Kept [] w w4) := kept_new HK3.out hk4 hs2
           have HL4 : Hid (Calls Tryz.prog 27 #[.pointer (some ⟨w2.heap.size, 0, none⟩)] w4 fun e w' => e = .returned (.int .i64 enc.length) ∧ w' = w4) := WLen_any hat4
           have HO4 : Hid (Calls Tryz.prog 28 #[.pointer (some ⟨w2.heap.size, 0, none⟩)] w4 fun e w' => e = .returned (.slice (some ⟨w4.heap.size, 0, none⟩) enc.length enc.length) ∧ w'.heap[w4.heap.size]? = some (.cells (enc.map (Value.int .u8)).toArray 5 (0, 0)) ∧ Kept [] w4 w') := WOut_any hat4 (by omega)
           clear hat4 hk4)
        | (go_at_call 27; refine (HL4.out).mono ?_; rintro e w6 ⟨rfl, hw6⟩; subst w6))
      refine bodyPost_ret (v := .tuple #[.slice none 0 0, .int .i64 31]) (by simp [results, Tryz.results8, go_sem]) rfl ⟨HK4.out, fun h => absurd rfl h, fun _ _ => rfl, fun _ h => absurd h (by omega)⟩
    · have hd : decide (65536 < (enc.length : Int)) = false := decide_eq_false (by omega)
      go_wp2_with (first
        | (refine wpList_load_row (by rfl) 37 (.tmp 1) (by rfl) w.heap.size (by rfl) 37 orr (0, 0) _ HB.out Tryz.underlying37 rfl hsz ?_)
        | (go_at_call 25; refine (hcon _).mono ?_; rintro e w1 ⟨rfl, hk1⟩; have HK1 : Hid (Kept [] w w1) := ((Kept.refl [] w).alloc _).then hk1; clear hk1)
        | (go_at_call 121; refine (HF.out _ HK1.out).mono ?_; rintro e w2 ⟨rfl, hk2⟩; have HK2 : Hid (Kept [] w w2) := HK1.out.then hk2; clear hk2)
        | (go_at_call 26; refine (New_any _ w.heap.size HK2.out.size).mono ?_; rintro e w3 ⟨rfl, hw3, hk3⟩
           have HK3 : Hid (Kept [] w w3) := HK2.out.then hk3
           have HW3 : Hid (WAt w3 w2.heap.size w.heap.size [] [w2.heap.size]) := hw3
           have hs2 := HK2.out.size
           clear hw3 hk3)
        | (go_at_call 122; refine (HW.out _ _ _ HK3.out HW3.out).mono ?_; rintro e w4 ⟨rfl, hw4⟩
           obtain ⟨S4, hat4, hk4, _⟩ := hw4
           have HK4 : Hid (Kept [] w w4) := kept_new HK3.out hk4 hs2
           have HL4 : Hid (Calls Tryz.prog 27 #[.pointer (some ⟨w2.heap.size, 0, none⟩)] w4 fun e w' => e = .returned (.int .i64 enc.length) ∧ w' = w4) := WLen_any hat4
           have HO4 : Hid (Calls Tryz.prog 28 #[.pointer (some ⟨w2.heap.size, 0, none⟩)] w4 fun e w' => e = .returned (.slice (some ⟨w4.heap.size, 0, none⟩) enc.length enc.length) ∧ w'.heap[w4.heap.size]? = some (.cells (enc.map (Value.int .u8)).toArray 5 (0, 0)) ∧ Kept [] w4 w') := WOut_any hat4 (by omega)
           clear hat4 hk4)
        | (go_at_call 27; refine (HL4.out).mono ?_; rintro e w6 ⟨rfl, hw6⟩; subst w6)
        | (go_at_call 28; refine (HO4.out).mono ?_; rintro e w5 ⟨rfl, hb5, hk5⟩
           have HK5 : Hid (Kept [] w w5) := HK4.out.then hk5
           have HB5 : Hid _ := hb5
           have hs4 := HK4.out.size
           clear hb5 hk5))
      refine bodyPost_ret (v := .tuple #[.slice (some ⟨w4.heap.size, 0, none⟩) enc.length enc.length, .int .i64 0]) (by simp [results, Tryz.results8, go_sem]) rfl ⟨HK5.out, fun h => absurd rfl h, fun _ h => absurd h hl, fun _ _ => ⟨_, rfl, HB5.out, hs4⟩⟩
  · have hne : (fv != 0) = true := bne_iff_ne.2 hf0
    clear HW0
    go_enter Tryz.func8, Tryz.ntmps8
    go_wp2_with (first
      | (refine wpList_load_row (by rfl) 37 (.tmp 1) (by rfl) w.heap.size (by rfl) 37 orr (0, 0) _ HB.out Tryz.underlying37 rfl hsz ?_)
      | (go_at_call 25; refine (hcon _).mono ?_; rintro e w1 ⟨rfl, hk1⟩; have HK1 : Hid (Kept [] w w1) := ((Kept.refl [] w).alloc _).then hk1; clear hk1)
      | (go_at_call 121; refine (HF.out _ HK1.out).mono ?_; rintro e w2 ⟨rfl, hk2⟩; have HK2 : Hid (Kept [] w w2) := HK1.out.then hk2; clear hk2))
    refine bodyPost_ret (v := .tuple #[.slice none 0 0, .int .i64 fv]) (by simp [results, Tryz.results8, go_sem]) rfl ⟨HK2.out, fun _ => rfl, fun h => absurd h hf0, fun h => absurd h hf0⟩
end Go.Proofs.YtfcoeinhfdbcgaaGreatDoor

namespace Go.Proofs.YtfcoeinhfdbcgaaGreatDoor
open Go.RowKit

set_option maxRecDepth 100000 in
set_option maxHeartbeats 2000000 in
theorem encodeCom (o : ObjL) (w : World) (hk : o.kind = 3) (hc : o.com.tree.length = 32) (ht : o.tag.target.length = 32) (fv : Int) (enc : List Int) (hen : enc.length ≤ 100000000)
    (hF : ∀ W, Kept [] w W → Calls Tryz.prog 128 #[(.agg (o.com.row o.pv).toArray)] W fun e w' => e = .returned (.int .i64 fv) ∧ Kept [] W w')
    (hW : fv = 0 → ∀ W wb S, Kept [] w W → WAt W wb w.heap.size [] S → Calls Tryz.prog 129 #[(.agg (o.com.row o.pv).toArray), .pointer (some ⟨wb, 0, none⟩)] W fun e w' => e = .returned (.tuple #[]) ∧ Wrote W w' wb w.heap.size enc S) :
    Calls Tryz.prog 8 #[.agg o.row.toArray] w (EncP w fv enc) := by
  have hcon := fun W => contentOf_any o W (by omega) (by omega) hc ht
  have hcv : conV o = .iface 90 (.agg (o.com.row o.pv).toArray) := by unfold conV; rw [if_neg (by omega)]; rw [if_neg (by omega)]; rw [if_pos hk]
  rw [hcv, if_pos (by rw [hk]; rfl)] at hcon
  have hsz : (Tryz.prog.info? 37).map (·.size) = some o.row.toArray.size := by
    rw [List.size_toArray, show o.row.length = 76 by unfold ObjL.row; rw [List.length_append, List.length_append, com_len' _ _ hc, show o.tag.row.length = 37 by simp [TagL.row, ht]]; rfl]
    kernel_rfl
  have HB : Hid ((w.alloc (.cells o.row.toArray 37)).heap[w.heap.size]? = some (.cells o.row.toArray 37 (0, 0))) := heap_alloc_new w _
  have hm1 := meth_commit_fault
  have hm2 := meth_commit_write
  have HF0 : Hid _ := hF
  have HW0 : Hid _ := hW
  clear hF hW hcv
  generalize o.row.toArray = orr at *
  generalize hvv : (Value.agg (o.com.row o.pv).toArray) = vv at *
  clear hvv
  have HF : Hid (∀ W, Kept [] w W → Calls Tryz.prog 128 #[vv] W fun e w' => e = .returned (.int .i64 fv) ∧ Kept [] W w') := HF0
  clear HF0
  by_cases hf0 : fv = 0
  · subst hf0
    have HW : Hid (∀ W wb S, Kept [] w W → WAt W wb w.heap.size [] S → Calls Tryz.prog 129 #[vv, .pointer (some ⟨wb, 0, none⟩)] W fun e w' => e = .returned (.tuple #[]) ∧ Wrote W w' wb w.heap.size enc S) := HW0.out rfl
    clear HW0
    go_enter Tryz.func8, Tryz.ntmps8
    by_cases hl : 65536 < enc.length
    · have hd : decide (65536 < (enc.length : Int)) = true := decide_eq_true (by omega)
      go_wp2_with (first
        | (refine wpList_load_row (by rfl) 37 (.tmp 1) (by rfl) w.heap.size (by rfl) 37 orr (0, 0) _ HB.out Tryz.underlying37 rfl hsz ?_)
        | (go_at_call 25; refine (hcon _).mono ?_; rintro e w1 ⟨rfl, hk1⟩; have HK1 : Hid (Kept [] w w1) := ((Kept.refl [] w).alloc _).then hk1; clear hk1)
        | (go_at_call 128; refine (HF.out _ HK1.out).mono ?_; rintro e w2 ⟨rfl, hk2⟩; have HK2 : Hid (Kept [] w w2) := HK1.out.then hk2; clear hk2)
        | (go_at_call 26; refine (New_any _ w.heap.size HK2.out.size).mono ?_; rintro e w3 ⟨rfl, hw3, hk3⟩
           have HK3 : Hid (Kept [] w w3) := HK2.out.then hk3
           have HW3 : Hid (WAt w3 w2.heap.size w.heap.size [] [w2.heap.size]) := hw3
           have hs2 := HK2.out.size
           clear hw3 hk3)
        | (go_at_call 129; refine (HW.out _ _ _ HK3.out HW3.out).mono ?_; rintro e w4 ⟨rfl, hw4⟩
           obtain ⟨S4, hat4, hk4, _⟩ := hw4
           have HK4 : Hid (Kept [] w w4) := kept_new HK3.out hk4 hs2
           have HL4 : Hid (Calls Tryz.prog 27 #[.pointer (some ⟨w2.heap.size, 0, none⟩)] w4 fun e w' => e = .returned (.int .i64 enc.length) ∧ w' = w4) := WLen_any hat4
           have HO4 : Hid (Calls Tryz.prog 28 #[.pointer (some ⟨w2.heap.size, 0, none⟩)] w4 fun e w' => e = .returned (.slice (some ⟨w4.heap.size, 0, none⟩) enc.length enc.length) ∧ w'.heap[w4.heap.size]? = some (.cells (enc.map (Value.int .u8)).toArray 5 (0, 0)) ∧ Kept [] w4 w') := WOut_any hat4 (by omega)
           clear hat4 hk4)
        | (go_at_call 27; refine (HL4.out).mono ?_; rintro e w6 ⟨rfl, hw6⟩; subst w6))
      refine bodyPost_ret (v := .tuple #[.slice none 0 0, .int .i64 31]) (by simp [results, Tryz.results8, go_sem]) rfl ⟨HK4.out, fun h => absurd rfl h, fun _ _ => rfl, fun _ h => absurd h (by omega)⟩
    · have hd : decide (65536 < (enc.length : Int)) = false := decide_eq_false (by omega)
      go_wp2_with (first
        | (refine wpList_load_row (by rfl) 37 (.tmp 1) (by rfl) w.heap.size (by rfl) 37 orr (0, 0) _ HB.out Tryz.underlying37 rfl hsz ?_)
        | (go_at_call 25; refine (hcon _).mono ?_; rintro e w1 ⟨rfl, hk1⟩; have HK1 : Hid (Kept [] w w1) := ((Kept.refl [] w).alloc _).then hk1; clear hk1)
        | (go_at_call 128; refine (HF.out _ HK1.out).mono ?_; rintro e w2 ⟨rfl, hk2⟩; have HK2 : Hid (Kept [] w w2) := HK1.out.then hk2; clear hk2)
        | (go_at_call 26; refine (New_any _ w.heap.size HK2.out.size).mono ?_; rintro e w3 ⟨rfl, hw3, hk3⟩
           have HK3 : Hid (Kept [] w w3) := HK2.out.then hk3
           have HW3 : Hid (WAt w3 w2.heap.size w.heap.size [] [w2.heap.size]) := hw3
           have hs2 := HK2.out.size
           clear hw3 hk3)
        | (go_at_call 129; refine (HW.out _ _ _ HK3.out HW3.out).mono ?_; rintro e w4 ⟨rfl, hw4⟩
           obtain ⟨S4, hat4, hk4, _⟩ := hw4
           have HK4 : Hid (Kept [] w w4) := kept_new HK3.out hk4 hs2
           have HL4 : Hid (Calls Tryz.prog 27 #[.pointer (some ⟨w2.heap.size, 0, none⟩)] w4 fun e w' => e = .returned (.int .i64 enc.length) ∧ w' = w4) := WLen_any hat4
           have HO4 : Hid (Calls Tryz.prog 28 #[.pointer (some ⟨w2.heap.size, 0, none⟩)] w4 fun e w' => e = .returned (.slice (some ⟨w4.heap.size, 0, none⟩) enc.length enc.length) ∧ w'.heap[w4.heap.size]? = some (.cells (enc.map (Value.int .u8)).toArray 5 (0, 0)) ∧ Kept [] w4 w') := WOut_any hat4 (by omega)
           clear hat4 hk4)
        | (go_at_call 27; refine (HL4.out).mono ?_; rintro e w6 ⟨rfl, hw6⟩; subst w6)
        | (go_at_call 28; refine (HO4.out).mono ?_; rintro e w5 ⟨rfl, hb5, hk5⟩
           have HK5 : Hid (Kept [] w w5) := HK4.out.then hk5
           have HB5 : Hid _ := hb5
           have hs4 := HK4.out.size
           clear hb5 hk5))
      refine bodyPost_ret (v := .tuple #[.slice (some ⟨w4.heap.size, 0, none⟩) enc.length enc.length, .int .i64 0]) (by simp [results, Tryz.results8, go_sem]) rfl ⟨HK5.out, fun h => absurd rfl h, fun _ h => absurd h hl, fun _ _ => ⟨_, rfl, HB5.out, hs4⟩⟩
  · have hne : (fv != 0) = true := bne_iff_ne.2 hf0
    clear HW0
    go_enter Tryz.func8, Tryz.ntmps8
    go_wp2_with (first
      | (refine wpList_load_row (by rfl) 37 (.tmp 1) (by rfl) w.heap.size (by rfl) 37 orr (0, 0) _ HB.out Tryz.underlying37 rfl hsz ?_)
      | (go_at_call 25; refine (hcon _).mono ?_; rintro e w1 ⟨rfl, hk1⟩; have HK1 : Hid (Kept [] w w1) := ((Kept.refl [] w).alloc _).then hk1; clear hk1)
      | (go_at_call 128; refine (HF.out _ HK1.out).mono ?_; rintro e w2 ⟨rfl, hk2⟩; have HK2 : Hid (Kept [] w w2) := HK1.out.then hk2; clear hk2))
    refine bodyPost_ret (v := .tuple #[.slice none 0 0, .int .i64 fv]) (by simp [results, Tryz.results8, go_sem]) rfl ⟨HK2.out, fun _ => rfl, fun h => absurd h hf0, fun h => absurd h hf0⟩
end Go.Proofs.YtfcoeinhfdbcgaaGreatDoor

namespace Go.Proofs.YtfcoeinhfdbcgaaGreatDoor
open Go.RowKit

set_option maxRecDepth 100000 in
set_option maxHeartbeats 2000000 in
theorem encodeTag (o : ObjL) (w : World) (hk : o.kind = 4) (hc : o.com.tree.length = 32) (ht : o.tag.target.length = 32) (fv : Int) (enc : List Int) (hen : enc.length ≤ 100000000)
    (hF : ∀ W, Kept [] w W → Calls Tryz.prog 135 #[(.agg o.tag.row.toArray)] W fun e w' => e = .returned (.int .i64 fv) ∧ Kept [] W w')
    (hW : fv = 0 → ∀ W wb S, Kept [] w W → WAt W wb w.heap.size [] S → Calls Tryz.prog 136 #[(.agg o.tag.row.toArray), .pointer (some ⟨wb, 0, none⟩)] W fun e w' => e = .returned (.tuple #[]) ∧ Wrote W w' wb w.heap.size enc S) :
    Calls Tryz.prog 8 #[.agg o.row.toArray] w (EncP w fv enc) := by
  have hcon := fun W => contentOf_any o W (by omega) (by omega) hc ht
  have hcv : conV o = .iface 91 (.agg o.tag.row.toArray) := by unfold conV; rw [if_neg (by omega)]; rw [if_neg (by omega)]; rw [if_neg (by omega)]; rw [if_pos hk]
  rw [hcv, if_pos (by rw [hk]; rfl)] at hcon
  have hsz : (Tryz.prog.info? 37).map (·.size) = some o.row.toArray.size := by
    rw [List.size_toArray, show o.row.length = 76 by unfold ObjL.row; rw [List.length_append, List.length_append, com_len' _ _ hc, show o.tag.row.length = 37 by simp [TagL.row, ht]]; rfl]
    kernel_rfl
  have HB : Hid ((w.alloc (.cells o.row.toArray 37)).heap[w.heap.size]? = some (.cells o.row.toArray 37 (0, 0))) := heap_alloc_new w _
  have hm1 := meth_tag_fault
  have hm2 := meth_tag_write
  have HF0 : Hid _ := hF
  have HW0 : Hid _ := hW
  clear hF hW hcv
  generalize o.row.toArray = orr at *
  generalize hvv : (Value.agg o.tag.row.toArray) = vv at *
  clear hvv
  have HF : Hid (∀ W, Kept [] w W → Calls Tryz.prog 135 #[vv] W fun e w' => e = .returned (.int .i64 fv) ∧ Kept [] W w') := HF0
  clear HF0
  by_cases hf0 : fv = 0
  · subst hf0
    have HW : Hid (∀ W wb S, Kept [] w W → WAt W wb w.heap.size [] S → Calls Tryz.prog 136 #[vv, .pointer (some ⟨wb, 0, none⟩)] W fun e w' => e = .returned (.tuple #[]) ∧ Wrote W w' wb w.heap.size enc S) := HW0.out rfl
    clear HW0
    go_enter Tryz.func8, Tryz.ntmps8
    by_cases hl : 65536 < enc.length
    · have hd : decide (65536 < (enc.length : Int)) = true := decide_eq_true (by omega)
      go_wp2_with (first
        | (refine wpList_load_row (by rfl) 37 (.tmp 1) (by rfl) w.heap.size (by rfl) 37 orr (0, 0) _ HB.out Tryz.underlying37 rfl hsz ?_)
        | (go_at_call 25; refine (hcon _).mono ?_; rintro e w1 ⟨rfl, hk1⟩; have HK1 : Hid (Kept [] w w1) := ((Kept.refl [] w).alloc _).then hk1; clear hk1)
        | (go_at_call 135; refine (HF.out _ HK1.out).mono ?_; rintro e w2 ⟨rfl, hk2⟩; have HK2 : Hid (Kept [] w w2) := HK1.out.then hk2; clear hk2)
        | (go_at_call 26; refine (New_any _ w.heap.size HK2.out.size).mono ?_; rintro e w3 ⟨rfl, hw3, hk3⟩
           have HK3 : Hid (Kept [] w w3) := HK2.out.then hk3
           have HW3 : Hid (WAt w3 w2.heap.size w.heap.size [] [w2.heap.size]) := hw3
           have hs2 := HK2.out.size
           clear hw3 hk3)
        | (go_at_call 136; refine (HW.out _ _ _ HK3.out HW3.out).mono ?_; rintro e w4 ⟨rfl, hw4⟩
           obtain ⟨S4, hat4, hk4, _⟩ := hw4
           have HK4 : Hid (Kept [] w w4) := kept_new HK3.out hk4 hs2
           have HL4 : Hid (Calls Tryz.prog 27 #[.pointer (some ⟨w2.heap.size, 0, none⟩)] w4 fun e w' => e = .returned (.int .i64 enc.length) ∧ w' = w4) := WLen_any hat4
           have HO4 : Hid (Calls Tryz.prog 28 #[.pointer (some ⟨w2.heap.size, 0, none⟩)] w4 fun e w' => e = .returned (.slice (some ⟨w4.heap.size, 0, none⟩) enc.length enc.length) ∧ w'.heap[w4.heap.size]? = some (.cells (enc.map (Value.int .u8)).toArray 5 (0, 0)) ∧ Kept [] w4 w') := WOut_any hat4 (by omega)
           clear hat4 hk4)
        | (go_at_call 27; refine (HL4.out).mono ?_; rintro e w6 ⟨rfl, hw6⟩; subst w6))
      refine bodyPost_ret (v := .tuple #[.slice none 0 0, .int .i64 31]) (by simp [results, Tryz.results8, go_sem]) rfl ⟨HK4.out, fun h => absurd rfl h, fun _ _ => rfl, fun _ h => absurd h (by omega)⟩
    · have hd : decide (65536 < (enc.length : Int)) = false := decide_eq_false (by omega)
      go_wp2_with (first
        | (refine wpList_load_row (by rfl) 37 (.tmp 1) (by rfl) w.heap.size (by rfl) 37 orr (0, 0) _ HB.out Tryz.underlying37 rfl hsz ?_)
        | (go_at_call 25; refine (hcon _).mono ?_; rintro e w1 ⟨rfl, hk1⟩; have HK1 : Hid (Kept [] w w1) := ((Kept.refl [] w).alloc _).then hk1; clear hk1)
        | (go_at_call 135; refine (HF.out _ HK1.out).mono ?_; rintro e w2 ⟨rfl, hk2⟩; have HK2 : Hid (Kept [] w w2) := HK1.out.then hk2; clear hk2)
        | (go_at_call 26; refine (New_any _ w.heap.size HK2.out.size).mono ?_; rintro e w3 ⟨rfl, hw3, hk3⟩
           have HK3 : Hid (Kept [] w w3) := HK2.out.then hk3
           have HW3 : Hid (WAt w3 w2.heap.size w.heap.size [] [w2.heap.size]) := hw3
           have hs2 := HK2.out.size
           clear hw3 hk3)
        | (go_at_call 136; refine (HW.out _ _ _ HK3.out HW3.out).mono ?_; rintro e w4 ⟨rfl, hw4⟩
           obtain ⟨S4, hat4, hk4, _⟩ := hw4
           have HK4 : Hid (Kept [] w w4) := kept_new HK3.out hk4 hs2
           have HL4 : Hid (Calls Tryz.prog 27 #[.pointer (some ⟨w2.heap.size, 0, none⟩)] w4 fun e w' => e = .returned (.int .i64 enc.length) ∧ w' = w4) := WLen_any hat4
           have HO4 : Hid (Calls Tryz.prog 28 #[.pointer (some ⟨w2.heap.size, 0, none⟩)] w4 fun e w' => e = .returned (.slice (some ⟨w4.heap.size, 0, none⟩) enc.length enc.length) ∧ w'.heap[w4.heap.size]? = some (.cells (enc.map (Value.int .u8)).toArray 5 (0, 0)) ∧ Kept [] w4 w') := WOut_any hat4 (by omega)
           clear hat4 hk4)
        | (go_at_call 27; refine (HL4.out).mono ?_; rintro e w6 ⟨rfl, hw6⟩; subst w6)
        | (go_at_call 28; refine (HO4.out).mono ?_; rintro e w5 ⟨rfl, hb5, hk5⟩
           have HK5 : Hid (Kept [] w w5) := HK4.out.then hk5
           have HB5 : Hid _ := hb5
           have hs4 := HK4.out.size
           clear hb5 hk5))
      refine bodyPost_ret (v := .tuple #[.slice (some ⟨w4.heap.size, 0, none⟩) enc.length enc.length, .int .i64 0]) (by simp [results, Tryz.results8, go_sem]) rfl ⟨HK5.out, fun h => absurd rfl h, fun _ h => absurd h hl, fun _ _ => ⟨_, rfl, HB5.out, hs4⟩⟩
  · have hne : (fv != 0) = true := bne_iff_ne.2 hf0
    clear HW0
    go_enter Tryz.func8, Tryz.ntmps8
    go_wp2_with (first
      | (refine wpList_load_row (by rfl) 37 (.tmp 1) (by rfl) w.heap.size (by rfl) 37 orr (0, 0) _ HB.out Tryz.underlying37 rfl hsz ?_)
      | (go_at_call 25; refine (hcon _).mono ?_; rintro e w1 ⟨rfl, hk1⟩; have HK1 : Hid (Kept [] w w1) := ((Kept.refl [] w).alloc _).then hk1; clear hk1)
      | (go_at_call 135; refine (HF.out _ HK1.out).mono ?_; rintro e w2 ⟨rfl, hk2⟩; have HK2 : Hid (Kept [] w w2) := HK1.out.then hk2; clear hk2))
    refine bodyPost_ret (v := .tuple #[.slice none 0 0, .int .i64 fv]) (by simp [results, Tryz.results8, go_sem]) rfl ⟨HK2.out, fun _ => rfl, fun h => absurd h hf0, fun h => absurd h hf0⟩
end Go.Proofs.YtfcoeinhfdbcgaaGreatDoor
