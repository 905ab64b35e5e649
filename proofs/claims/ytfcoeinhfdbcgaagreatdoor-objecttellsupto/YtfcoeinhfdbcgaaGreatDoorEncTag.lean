/-
  WALK: satchelref3.Wrong of all but a tree.
  WALK: object.Encode, of a blob.
  WALK: object.Encode, of a tree.
  WALK: object.Encode, of a commit.
  WALK: object.Encode, of a tag.
-/
import Derived.Test.YtfcoeinhfdbcgaaGreatDoorRe2
import Derived.Test.YtfcoeinhfdbcgaaGreatDoorRe6
import Derived.Test.YtfcoeinhfdbcgaaGreatDoorHd
import Derived.Test.YtfcoeinhfdbcgaaGreatDoorRead0
namespace Go.Proofs.YtfcoeinhfdbcgaaGreatDoor
open Go.RowKit

set_option maxRecDepth 100000 in
set_option maxHeartbeats 2000000 in
theorem R3wrongCom_any (o : ObjL) (w : World) (h3 : o.kind = 3) (hg : o.com.Good) (hp : IdsAt w o.pv o.com.parents) :
    Calls Tryz.prog 34 #[.agg o.row.toArray] w fun e w' => e = .returned (.int .i64 (faultC o.com)) ∧ Kept [] w w' := by
  have hB := heap_alloc_new w (.cells o.row.toArray 37)
  obtain ⟨c0, _, _, c3, _⟩ := obj_cells hg.tree.1 hB
  rw [h3] at c0
  have hk : Kept [] w (w.alloc (.cells o.row.toArray 37)) := (Kept.refl _ _).alloc _
  have hcall := R3com_any o.com o.pv _ (hp.keep hk (fun _ _ _ => by simp)) hg
  have HK : Hid (Kept [] w (w.alloc (.cells o.row.toArray 37))) := hk
  have hsc : (Tryz.prog.info? 33).map (·.size) = some (o.com.row o.pv).length := by rw [com_len' _ _ hg.tree.1]; kernel_rfl
  have hun := Tryz.underlying33
  clear hp hg hB hk h3
  generalize o.row.toArray = row at *
  generalize o.com.row o.pv = cr at *
  generalize faultC o.com = fc at *
  go_enter Tryz.func34, Tryz.ntmps34
  go_wp2_with (refine wpList_load_mid (by rfl) 33 (.tmp 14) (by rfl) w.heap.size 3 (by rfl) cr _ c3 hun rfl hsc ?_)
  go_at_call 54
  refine hcall.mono ?_
  rintro e w1 ⟨rfl, k1⟩
  have HK1 : Hid (Kept [] w w1) := HK.out.then k1
  clear hcall k1
  go_wp2
  go_ret
  exact ⟨rfl, HK1.out⟩

set_option maxRecDepth 100000 in
set_option maxHeartbeats 2000000 in
theorem R3wrongTag_any (o : ObjL) (w : World) (h4 : o.kind = 4) (hc : o.com.tree.length = 32) (hg : o.tag.Good) :
    Calls Tryz.prog 34 #[.agg o.row.toArray] w fun e w' => e = .returned (.int .i64 (faultG o.tag)) ∧ Kept [] w w' := by
  obtain ⟨c0, _, c2, c3, c4, c5, c6⟩ := otag_cells hc hg.target.1 (heap_alloc_new w (.cells o.row.toArray 37))
  rw [h4] at c0
  have HK : Hid (Kept [] w (w.alloc (.cells o.row.toArray 37))) := (Kept.refl _ _).alloc _
  have hnm := fun W => RName_any o.tag.name hg.name.1 (Nat.le_trans hg.name.2 (by decide)) W
  have htl := fun W => R3told_any o.tag.who o.tag.time o.tag.text W hg.who
  have hlo := hg.lo
  have hhi := hg.hi
  obtain ⟨rv, hrv⟩ : ∃ rv : Int, rv = faultG o.tag := ⟨_, rfl⟩
  rw [← hrv]
  have HR : Hid (rv = if (decide (1 ≤ o.tag.kind) && decide (o.tag.kind ≤ 4)) = false then 30 else if nameB o.tag.name = false then 32 else if signB o.tag.who o.tag.time o.tag.text = false then 36 else 0) := hrv
  clear hrv hg h4 hc
  generalize o.row.toArray = row at *
  generalize strOfNums o.tag.name = sn at *
  generalize strOfNums o.tag.who = sw at *
  generalize strOfNums o.tag.text = st at *
  generalize nameB o.tag.name = b1 at *
  generalize signB o.tag.who o.tag.time o.tag.text = b2 at *
  generalize o.tag.time = tm at *
  generalize o.tag.kind = kd at *
  by_cases hk1 : 1 ≤ kd
  · by_cases hk4 : kd ≤ 4
    · have HS : Hid (rv = if b1 = false then 32 else if b2 = false then 36 else 0) := by
        have h := HR.out
        rw [decide_eq_true hk1, decide_eq_true hk4] at h
        exact h
      have t1 : decide (kd < 1) = false := decide_eq_false (by omega)
      have t2 : decide (4 < kd) = false := decide_eq_false (by omega)
      cases b1 <;> cases b2
      all_goals go_enter Tryz.func34, Tryz.ntmps34
      all_goals go_wp2_with (first
        | (go_at_call 24; refine (hnm _).mono ?_; rintro e w1 ⟨rfl, hw1⟩; subst w1)
        | (go_at_call 55; refine (htl _).mono ?_; rintro e w1 ⟨rfl, hw1⟩; subst w1))
      all_goals go_ret
      all_goals exact ⟨by rw [HS.out]; rfl, HK.out⟩
    · have HS : Hid (rv = 30) := by
        have h := HR.out
        rw [decide_eq_true hk1, decide_eq_false hk4] at h
        exact h
      have t1 : decide (kd < 1) = false := decide_eq_false (by omega)
      have t2 : decide (4 < kd) = true := decide_eq_true (by omega)
      go_enter Tryz.func34, Tryz.ntmps34
      go_wp2
      go_ret
      exact ⟨by rw [HS.out]; rfl, HK.out⟩
  · have HS : Hid (rv = 30) := by
      have h := HR.out
      rw [decide_eq_false hk1] at h
      exact h
    have t1 : decide (kd < 1) = true := decide_eq_true (by omega)
    go_enter Tryz.func34, Tryz.ntmps34
    go_wp2
    go_ret
    exact ⟨by rw [HS.out]; rfl, HK.out⟩

set_option maxRecDepth 100000 in
set_option maxHeartbeats 2000000 in
/-- Of a blob: nothing; of no kind: that. -/
theorem R3wrongRest_any (o : ObjL) (w : World) (hc : o.com.tree.length = 32) (h2 : o.kind ≠ 2) (h3 : o.kind ≠ 3) (h4 : o.kind ≠ 4) :
    Calls Tryz.prog 34 #[.agg o.row.toArray] w fun e w' => e = .returned (.int .i64 (if o.kind = 1 then 0 else 30)) ∧ Kept [] w w' := by
  obtain ⟨c0, _⟩ := obj_cells hc (heap_alloc_new w (.cells o.row.toArray 37))
  have HK : Hid (Kept [] w (w.alloc (.cells o.row.toArray 37))) := (Kept.refl _ _).alloc _
  generalize o.row.toArray = row at *
  generalize o.kind = kd at *
  by_cases h1 : kd = 1
  · subst h1
    go_enter Tryz.func34, Tryz.ntmps34
    go_wp2
    go_ret
    exact ⟨rfl, HK.out⟩
  · rw [if_neg h1]
    go_enter Tryz.func34, Tryz.ntmps34
    go_wp2
    go_ret
    exact ⟨rfl, HK.out⟩
end Go.Proofs.YtfcoeinhfdbcgaaGreatDoor

namespace Go.Proofs.YtfcoeinhfdbcgaaGreatDoor
open Go.RowKit

set_option maxRecDepth 100000 in
set_option maxHeartbeats 2000000 in
theorem encodeBlob (o : ObjL) (w : World) (hk : o.kind = 1) (hc : o.com.tree.length = 32) (ht : o.tag.target.length = 32) (fv : Int) (enc : List Int) (hen : enc.length ≤ 100000000)
    (hF : ∀ W, Kept [] w W → Calls Tryz.prog 115 #[o.bv] W fun e w' => e = .returned (.int .i64 fv) ∧ Kept [] W w')
    (hW : fv = 0 → ∀ W wb S, Kept [] w W → WAt W wb w.heap.size [] S → Calls Tryz.prog 116 #[o.bv, .pointer (some ⟨wb, 0, none⟩)] W fun e w' => e = .returned (.tuple #[]) ∧ Wrote W w' wb w.heap.size enc S) :
    Calls Tryz.prog 8 #[.agg o.row.toArray] w (EncP w fv enc) := by
  have hcon := fun W => contentOf_any o W (by omega) (by omega) hc ht
  have hcv : conV o = .iface 88 o.bv := by unfold conV; rw [if_pos hk]
  rw [hcv, if_pos (by rw [hk]; rfl)] at hcon
  have hsz : (Tryz.prog.info? 37).map (·.size) = some o.row.toArray.size := by
    rw [List.size_toArray, show o.row.length = 76 by unfold ObjL.row; rw [List.length_append, List.length_append, com_len' _ _ hc, show o.tag.row.length = 37 by simp [TagL.row, ht]]; rfl]
    kernel_rfl
  have HB : Hid ((w.alloc (.cells o.row.toArray 37)).heap[w.heap.size]? = some (.cells o.row.toArray 37 (0, 0))) := heap_alloc_new w _
  have hm1 := meth_blob_fault
  have hm2 := meth_blob_write
  have HF0 : Hid _ := hF
  have HW0 : Hid _ := hW
  clear hF hW hcv
  generalize o.row.toArray = orr at *
  generalize hvv : o.bv = vv at *
  clear hvv
  have HF : Hid (∀ W, Kept [] w W → Calls Tryz.prog 115 #[vv] W fun e w' => e = .returned (.int .i64 fv) ∧ Kept [] W w') := HF0
  clear HF0
  by_cases hf0 : fv = 0
  · subst hf0
    have HW : Hid (∀ W wb S, Kept [] w W → WAt W wb w.heap.size [] S → Calls Tryz.prog 116 #[vv, .pointer (some ⟨wb, 0, none⟩)] W fun e w' => e = .returned (.tuple #[]) ∧ Wrote W w' wb w.heap.size enc S) := HW0.out rfl
    clear HW0
    go_enter Tryz.func8, Tryz.ntmps8
    by_cases hl : 65536 < enc.length
    · have hd : decide (65536 < (enc.length : Int)) = true := decide_eq_true (by omega)
      go_wp2_with (first
        | (refine wpList_load_row (by rfl) 37 (.tmp 1) (by rfl) w.heap.size (by rfl) 37 orr (0, 0) _ HB.out Tryz.underlying37 rfl hsz ?_)
        | (go_at_call 25; refine (hcon _).mono ?_; rintro e w1 ⟨rfl, hk1⟩; have HK1 : Hid (Kept [] w w1) := ((Kept.refl [] w).alloc _).then hk1; clear hk1)
        | (go_at_call 115; refine (HF.out _ HK1.out).mono ?_; rintro e w2 ⟨rfl, hk2⟩; have HK2 : Hid (Kept [] w w2) := HK1.out.then hk2; clear hk2)
        | (go_at_call 26; refine (New_any _ w.heap.size HK2.out.size).mono ?_; rintro e w3 ⟨rfl, hw3, hk3⟩
           have HK3 : Hid (Kept [] w w3) := HK2.out.then hk3
           have HW3 : Hid (WAt w3 w2.heap.size w.heap.size [] [w2.heap.size]) := hw3
           have hs2 := HK2.out.size
           clear hw3 hk3)
        | (go_at_call 116; refine (HW.out _ _ _ HK3.out HW3.out).mono ?_; rintro e w4 ⟨rfl, hw4⟩
           obtain ⟨S4, hat4, hk4, _⟩ := hw4
           have HK4 : Hid (Kept [] w w4) := kept_new HK3.out hk4 hs2
           have HL4 : Hid (Calls Tryz.prog 27 #[.pointer (some ⟨w2.heap.size, 0, none⟩)] w4 fun e w' => e = .returned (.int .i64 enc.length) ∧ w' = w4) := WLen_any hat4
           have HO4 : Hid (Calls Tryz.prog 28 #[.pointer (some ⟨w2.heap.size, 0, none⟩)] w4 fun e w' => e = .returned (.slice (some ⟨w4.heap.size, 0, none⟩) enc.length enc.length) ∧ w'.heap[w4.heap.size]? = some (.cells (enc.map (Value.int .u8)).toArray 5 (0, 0)) ∧ Kept [] w4 w') := WOut_any hat4 (by omega)
           clear hat4 hk4)
        | (go_at_call 27; refine (HL4.out).mono ?_; rintro e w6 ⟨rfl, hw6⟩; subst w6))
      refine bodyPost_ret (v := .tuple #[.slice none 0 0, .int .i64 31]) (by simp [results, Tryz.results8, go_sem]) rfl ⟨HK4.out, fun h => absurd rfl h, fun _ _ => rfl, fun _ h => absurd h (by omega)⟩
    · have hd : decide (65536 < (enc.length : Int)) = false := decide_eq_false (by omega)
      go_wp2_with (first
        | (refine wpList_load_row (by rfl) 37 (.tmp 1) (by rfl) w.heap.size (by rfl) 37 orr (0, 0) _ HB.out Tryz.underlying37 rfl hsz ?_)
        | (go_at_call 25; refine (hcon _).mono ?_; rintro e w1 ⟨rfl, hk1⟩; have HK1 : Hid (Kept [] w w1) := ((Kept.refl [] w).alloc _).then hk1; clear hk1)
        | (go_at_call 115; refine (HF.out _ HK1.out).mono ?_; rintro e w2 ⟨rfl, hk2⟩; have HK2 : Hid (Kept [] w w2) := HK1.out.then hk2; clear hk2)
        | (go_at_call 26; refine (New_any _ w.heap.size HK2.out.size).mono ?_; rintro e w3 ⟨rfl, hw3, hk3⟩
           have HK3 : Hid (Kept [] w w3) := HK2.out.then hk3
           have HW3 : Hid (WAt w3 w2.heap.size w.heap.size [] [w2.heap.size]) := hw3
           have hs2 := HK2.out.size
           clear hw3 hk3)
        | (go_at_call 116; refine (HW.out _ _ _ HK3.out HW3.out).mono ?_; rintro e w4 ⟨rfl, hw4⟩
           obtain ⟨S4, hat4, hk4, _⟩ := hw4
           have HK4 : Hid (Kept [] w w4) := kept_new HK3.out hk4 hs2
           have HL4 : Hid (Calls Tryz.prog 27 #[.pointer (some ⟨w2.heap.size, 0, none⟩)] w4 fun e w' => e = .returned (.int .i64 enc.length) ∧ w' = w4) := WLen_any hat4
           have HO4 : Hid (Calls Tryz.prog 28 #[.pointer (some ⟨w2.heap.size, 0, none⟩)] w4 fun e w' => e = .returned (.slice (some ⟨w4.heap.size, 0, none⟩) enc.length enc.length) ∧ w'.heap[w4.heap.size]? = some (.cells (enc.map (Value.int .u8)).toArray 5 (0, 0)) ∧ Kept [] w4 w') := WOut_any hat4 (by omega)
           clear hat4 hk4)
        | (go_at_call 27; refine (HL4.out).mono ?_; rintro e w6 ⟨rfl, hw6⟩; subst w6)
        | (go_at_call 28; refine (HO4.out).mono ?_; rintro e w5 ⟨rfl, hb5, hk5⟩
           have HK5 : Hid (Kept [] w w5) := HK4.out.then hk5
           have HB5 : Hid _ := hb5
           have hs4 := HK4.out.size
           clear hb5 hk5))
      refine bodyPost_ret (v := .tuple #[.slice (some ⟨w4.heap.size, 0, none⟩) enc.length enc.length, .int .i64 0]) (by simp [results, Tryz.results8, go_sem]) rfl ⟨HK5.out, fun h => absurd rfl h, fun _ h => absurd h hl, fun _ _ => ⟨_, rfl, HB5.out, hs4⟩⟩
  · have hne : (fv != 0) = true := bne_iff_ne.2 hf0
    clear HW0
    go_enter Tryz.func8, Tryz.ntmps8
    go_wp2_with (first
      | (refine wpList_load_row (by rfl) 37 (.tmp 1) (by rfl) w.heap.size (by rfl) 37 orr (0, 0) _ HB.out Tryz.underlying37 rfl hsz ?_)
      | (go_at_call 25; refine (hcon _).mono ?_; rintro e w1 ⟨rfl, hk1⟩; have HK1 : Hid (Kept [] w w1) := ((Kept.refl [] w).alloc _).then hk1; clear hk1)
      | (go_at_call 115; refine (HF.out _ HK1.out).mono ?_; rintro e w2 ⟨rfl, hk2⟩; have HK2 : Hid (Kept [] w w2) := HK1.out.then hk2; clear hk2))
    refine bodyPost_ret (v := .tuple #[.slice none 0 0, .int .i64 fv]) (by simp [results, Tryz.results8, go_sem]) rfl ⟨HK2.out, fun _ => rfl, fun h => absurd h hf0, fun h => absurd h hf0⟩
end Go.Proofs.YtfcoeinhfdbcgaaGreatDoor

namespace Go.Proofs.YtfcoeinhfdbcgaaGreatDoor
open Go.RowKit

set_option maxRecDepth 100000 in
set_option maxHeartbeats 2000000 in
theorem encodeTree (o : ObjL) (w : World) (hk : o.kind = 2) (hc : o.com.tree.length = 32) (ht : o.tag.target.length = 32) (fv : Int) (enc : List Int) (hen : enc.length ≤ 100000000)
    (hF : ∀ W, Kept [] w W → Calls Tryz.prog 121 #[o.ev] W fun e w' => e = .returned (.int .i64 fv) ∧ Kept [] W w')
    (hW : fv = 0 → ∀ W wb S, Kept [] w W → WAt W wb w.heap.size [] S → Calls Tryz.prog 122 #[o.ev, .pointer (some ⟨wb, 0, none⟩)] W fun e w' => e = .returned (.tuple #[]) ∧ Wrote W w' wb w.heap.size enc S) :
    Calls Tryz.prog 8 #[.agg o.row.toArray] w (EncP w fv enc) := by
  have hcon := fun W => contentOf_any o W (by omega) (by omega) hc ht
  have hcv : conV o = .iface 89 o.ev := by unfold conV; rw [if_neg (by omega)]; rw [if_pos hk]
  rw [hcv, if_pos (by rw [hk]; rfl)] at hcon
  have hsz : (Tryz.prog.info? 37).map (·.size) = some o.row.toArray.size := by
    rw [List.size_toArray, show o.row.length = 76 by unfold ObjL.row; rw [List.length_append, List.length_append, com_len' _ _ hc, show o.tag.row.length = 37 by simp [TagL.row, ht]]; rfl]
    kernel_rfl
  have HB : Hid ((w.alloc (.cells o.row.toArray 37)).heap[w.heap.size]? = some (.cells o.row.toArray 37 (0, 0))) := heap_alloc_new w _
  have hm1 := meth_tree_fault
  have hm2 := meth_tree_write
  have HF0 : Hid _ := hF
  have HW0 : Hid _ := hW
  clear hF hW hcv
  generalize o.row.toArray = orr at *
  generalize hvv : o.ev = vv at *
  clear hvv
  have HF : Hid (∀ W, Kept [] w W → Calls Tryz.prog 121 #[vv] W fun e w' => e = .returned (.int .i64 fv) ∧ Kept [] W w') := HF0
  clear HF0
  by_cases hf0 : fv = 0
  · subst hf0
    have HW : Hid (∀ W wb S, Kept [] w W → WAt W wb w.heap.size [] S → Calls Tryz.prog 122 #[vv, .pointer (some ⟨wb, 0, none⟩)] W fun e w' => e = .returned (.tuple #[]) ∧ Wrote W w' wb w.heap.size enc S) := HW0.out rfl
    clear HW0
    go_enter Tryz.func8, Tryz.ntmps8
    by_cases hl : 65536 < enc.length
    · have hd : decide (65536 < (enc.length : Int)) = true := decide_eq_true (by omega)
      go_wp2_with (first
        | (refine wpList_load_row (by rfl) 37 (.tmp 1) (by rfl) w.heap.size (by rfl) 37 orr (0, 0) _ HB.out Tryz.underlying37 rfl hsz ?_)
        | (go_at_call 25; refine (hcon _).mono ?_; rintro e w1 ⟨rfl, hk1⟩; have HK1 : Hid (Kept [] w w1) := ((Kept.refl [] w).alloc _).then hk1; clear hk1)
        | (go_at_call 121; refine (HF.out _ HK1.out).mono ?_; rintro e w2 ⟨rfl, hk2⟩; have HK2 : Hid (Kept [] w w2) := HK1.out.then hk2; clear hk2)
        | (go_at_call 26; refine (New_any _ w.heap.size HK2.out.size).mono ?_; rintro e w3 ⟨rfl, hw3, hk3⟩
           have HK3 : Hid (Kept [] w w3) := HK2.out.then hk3
           have HW3 : Hid (WAt w3 w2.heap.size w.heap.size [] [w2.heap.size]) := hw3
           have hs2 := HK2.out.size
           clear hw3 hk3)
        | (go_at_call 122; refine (HW.out _ _ _ HK3.out HW3.out).mono ?_; rintro e w4 ⟨rfl, hw4⟩
           obtain ⟨S4, hat4, hk4, _⟩ := hw4
           have HK4 : Hid (Kept [] w w4) := kept_new HK3.out hk4 hs2
           have HL4 : Hid (Calls Tryz.prog 27 #[.pointer (some ⟨w2.heap.size, 0, none⟩)] w4 fun e w' => e = .returned (.int .i64 enc.length) ∧ w' = w4) := WLen_any hat4
           have HO4 : Hid (Calls Tryz.prog 28 #[.pointer (some ⟨w2.heap.size, 0, none⟩)] w4 fun e w' => e = .returned (.slice (some ⟨w4.heap.size, 0, none⟩) enc.length enc.length) ∧ w'.heap[w4.heap.size]? = some (.cells (enc.map (Value.int .u8)).toArray 5 (0, 0)) ∧ Kept [] w4 w') := WOut_any hat4 (by omega)
           clear hat4 hk4)
        | (go_at_call 27; refine (HL4.out).mono ?_; rintro e w6 ⟨rfl, hw6⟩; subst w6))
      refine bodyPost_ret (v := .tuple #[.slice none 0 0, .int .i64 31]) (by simp [results, Tryz.results8, go_sem]) rfl ⟨HK4.out, fun h => absurd rfl h, fun _ _ => rfl, fun _ h => absurd h (by omega)⟩
    · have hd : decide (65536 < (enc.length : Int)) = false := decide_eq_false (by omega)
      go_wp2_with (first
        | (refine wpList_load_row (by rfl) 37 (.tmp 1) (by rfl) w.heap.size (by rfl) 37 orr (0, 0) _ HB.out Tryz.underlying37 rfl hsz ?_)
        | (go_at_call 25; refine (hcon _).mono ?_; rintro e w1 ⟨rfl, hk1⟩; have HK1 : Hid (Kept [] w w1) := ((Kept.refl [] w).alloc _).then hk1; clear hk1)
        | (go_at_call 121; refine (HF.out _ HK1.out).mono ?_; rintro e w2 ⟨rfl, hk2⟩; have HK2 : Hid (Kept [] w w2) := HK1.out.then hk2; clear hk2)
        | (go_at_call 26; refine (New_any _ w.heap.size HK2.out.size).mono ?_; rintro e w3 ⟨rfl, hw3, hk3⟩
           have HK3 : Hid (Kept [] w w3) := HK2.out.then hk3
           have HW3 : Hid (WAt w3 w2.heap.size w.heap.size [] [w2.heap.size]) := hw3
           have hs2 := HK2.out.size
           clear hw3 hk3)
        | (go_at_call 122; refine (HW.out _ _ _ HK3.out HW3.out).mono ?_; rintro e w4 ⟨rfl, hw4⟩
           obtain ⟨S4, hat4, hk4, _⟩ := hw4
           have HK4 : Hid (Kept [] w w4) := kept_new HK3.out hk4 hs2
           have HL4 : Hid (Calls Tryz.prog 27 #[.pointer (some ⟨w2.heap.size, 0, none⟩)] w4 fun e w' => e = .returned (.int .i64 enc.length) ∧ w' = w4) := WLen_any hat4
           have HO4 : Hid (Calls Tryz.prog 28 #[.pointer (some ⟨w2.heap.size, 0, none⟩)] w4 fun e w' => e = .returned (.slice (some ⟨w4.heap.size, 0, none⟩) enc.length enc.length) ∧ w'.heap[w4.heap.size]? = some (.cells (enc.map (Value.int .u8)).toArray 5 (0, 0)) ∧ Kept [] w4 w') := WOut_any hat4 (by omega)
           clear hat4 hk4)
        | (go_at_call 27; refine (HL4.out).mono ?_; rintro e w6 ⟨rfl, hw6⟩; subst w6)
        | (go_at_call 28; refine (HO4.out).mono ?_; rintro e w5 ⟨rfl, hb5, hk5⟩
           have HK5 : Hid (Kept [] w w5) := HK4.out.then hk5
           have HB5 : Hid _ := hb5
           have hs4 := HK4.out.size
           clear hb5 hk5))
      refine bodyPost_ret (v := .tuple #[.slice (some ⟨w4.heap.size, 0, none⟩) enc.length enc.length, .int .i64 0]) (by simp [results, Tryz.results8, go_sem]) rfl ⟨HK5.out, fun h => absurd rfl h, fun _ h => absurd h hl, fun _ _ => ⟨_, rfl, HB5.out, hs4⟩⟩
  · have hne : (fv != 0) = true := bne_iff_ne.2 hf0
    clear HW0
    go_enter Tryz.func8, Tryz.ntmps8
    go_wp2_with (first
      | (refine wpList_load_row (by rfl) 37 (.tmp 1) (by rfl) w.heap.size (by rfl) 37 orr (0, 0) _ HB.out Tryz.underlying37 rfl hsz ?_)
      | (go_at_call 25; refine (hcon _).mono ?_; rintro e w1 ⟨rfl, hk1⟩; have HK1 : Hid (Kept [] w w1) := ((Kept.refl [] w).alloc _).then hk1; clear hk1)
      | (go_at_call 121; refine (HF.out _ HK1.out).mono ?_; rintro e w2 ⟨rfl, hk2⟩; have HK2 : Hid (Kept [] w w2) := HK1.out.then hk2; clear hk2))
    refine bodyPost_ret (v := .tuple #[.slice none 0 0, .int .i64 fv]) (by simp [results, Tryz.results8, go_sem]) rfl ⟨HK2.out, fun _ => rfl, fun h => absurd h hf0, fun h => absurd h hf0⟩
end Go.Proofs.YtfcoeinhfdbcgaaGreatDoor

namespace Go.Proofs.YtfcoeinhfdbcgaaGreatDoor
open Go.RowKit

set_option maxRecDepth 100000 in
set_option maxHeartbeats 2000000 in
theorem encodeCom (o : ObjL) (w : World) (hk : o.kind = 3) (hc : o.com.tree.length = 32) (ht : o.tag.target.length = 32) (fv : Int) (enc : List Int) (hen : enc.length ≤ 100000000)
    (hF : ∀ W, Kept [] w W → Calls Tryz.prog 128 #[(.agg (o.com.row o.pv).toArray)] W fun e w' => e = .returned (.int .i64 fv) ∧ Kept [] W w')
    (hW : fv = 0 → ∀ W wb S, Kept [] w W → WAt W wb w.heap.size [] S → Calls Tryz.prog 129 #[(.agg (o.com.row o.pv).toArray), .pointer (some ⟨wb, 0, none⟩)] W fun e w' => e = .returned (.tuple #[]) ∧ Wrote W w' wb w.heap.size enc S) :
    Calls Tryz.prog 8 #[.agg o.row.toArray] w (EncP w fv enc) := by
  have hcon := fun W => contentOf_any o W (by omega) (by omega) hc ht
  have hcv : conV o = .iface 90 (.agg (o.com.row o.pv).toArray) := by unfold conV; rw [if_neg (by omega)]; rw [if_neg (by omega)]; rw [if_pos hk]
  rw [hcv, if_pos (by rw [hk]; rfl)] at hcon
  have hsz : (Tryz.prog.info? 37).map (·.size) = some o.row.toArray.size := by
    rw [List.size_toArray, show o.row.length = 76 by unfold ObjL.row; rw [List.length_append, List.length_append, com_len' _ _ hc, show o.tag.row.length = 37 by simp [TagL.row, ht]]; rfl]
    kernel_rfl
  have HB : Hid ((w.alloc (.cells o.row.toArray 37)).heap[w.heap.size]? = some (.cells o.row.toArray 37 (0, 0))) := heap_alloc_new w _
  have hm1 := meth_commit_fault
  have hm2 := meth_commit_write
  have HF0 : Hid _ := hF
  have HW0 : Hid _ := hW
  clear hF hW hcv
  generalize o.row.toArray = orr at *
  generalize hvv : (Value.agg (o.com.row o.pv).toArray) = vv at *
  clear hvv
  have HF : Hid (∀ W, Kept [] w W → Calls Tryz.prog 128 #[vv] W fun e w' => e = .returned (.int .i64 fv) ∧ Kept [] W w') := HF0
  clear HF0
  by_cases hf0 : fv = 0
  · subst hf0
    have HW : Hid (∀ W wb S, Kept [] w W → WAt W wb w.heap.size [] S → Calls Tryz.prog 129 #[vv, .pointer (some ⟨wb, 0, none⟩)] W fun e w' => e = .returned (.tuple #[]) ∧ Wrote W w' wb w.heap.size enc S) := HW0.out rfl
    clear HW0
    go_enter Tryz.func8, Tryz.ntmps8
    by_cases hl : 65536 < enc.length
    · have hd : decide (65536 < (enc.length : Int)) = true := decide_eq_true (by omega)
      go_wp2_with (first
        | (refine wpList_load_row (by rfl) 37 (.tmp 1) (by rfl) w.heap.size (by rfl) 37 orr (0, 0) _ HB.out Tryz.underlying37 rfl hsz ?_)
        | (go_at_call 25; refine (hcon _).mono ?_; rintro e w1 ⟨rfl, hk1⟩; have HK1 : Hid (Kept [] w w1) := ((Kept.refl [] w).alloc _).then hk1; clear hk1)
        | (go_at_call 128; refine (HF.out _ HK1.out).mono ?_; rintro e w2 ⟨rfl, hk2⟩; have HK2 : Hid (Kept [] w w2) := HK1.out.then hk2; clear hk2)
        | (go_at_call 26; refine (New_any _ w.heap.size HK2.out.size).mono ?_; rintro e w3 ⟨rfl, hw3, hk3⟩
           have HK3 : Hid (Kept [] w w3) := HK2.out.then hk3
           have HW3 : Hid (WAt w3 w2.heap.size w.heap.size [] [w2.heap.size]) := hw3
           have hs2 := HK2.out.size
           clear hw3 hk3)
        | (go_at_call 129; refine (HW.out _ _ _ HK3.out HW3.out).mono ?_; rintro e w4 ⟨rfl, hw4⟩
           obtain ⟨S4, hat4, hk4, _⟩ := hw4
           have HK4 : Hid (Kept [] w w4) := kept_new HK3.out hk4 hs2
           have HL4 : Hid (Calls Tryz.prog 27 #[.pointer (some ⟨w2.heap.size, 0, none⟩)] w4 fun e w' => e = .returned (.int .i64 enc.length) ∧ w' = w4) := WLen_any hat4
           have HO4 : Hid (Calls Tryz.prog 28 #[.pointer (some ⟨w2.heap.size, 0, none⟩)] w4 fun e w' => e = .returned (.slice (some ⟨w4.heap.size, 0, none⟩) enc.length enc.length) ∧ w'.heap[w4.heap.size]? = some (.cells (enc.map (Value.int .u8)).toArray 5 (0, 0)) ∧ Kept [] w4 w') := WOut_any hat4 (by omega)
           clear hat4 hk4)
        | (go_at_call 27; refine (HL4.out).mono ?_; rintro e w6 ⟨rfl, hw6⟩; subst w6))
      refine bodyPost_ret (v := .tuple #[.slice none 0 0, .int .i64 31]) (by simp [results, Tryz.results8, go_sem]) rfl ⟨HK4.out, fun h => absurd rfl h, fun _ _ => rfl, fun _ h => absurd h (by omega)⟩
    · have hd : decide (65536 < (enc.length : Int)) = false := decide_eq_false (by omega)
      go_wp2_with (first
        | (refine wpList_load_row (by rfl) 37 (.tmp 1) (by rfl) w.heap.size (by rfl) 37 orr (0, 0) _ HB.out Tryz.underlying37 rfl hsz ?_)
        | (go_at_call 25; refine (hcon _).mono ?_; rintro e w1 ⟨rfl, hk1⟩; have HK1 : Hid (Kept [] w w1) := ((Kept.refl [] w).alloc _).then hk1; clear hk1)
        | (go_at_call 128; refine (HF.out _ HK1.out).mono ?_; rintro e w2 ⟨rfl, hk2⟩; have HK2 : Hid (Kept [] w w2) := HK1.out.then hk2; clear hk2)
        | (go_at_call 26; refine (New_any _ w.heap.size HK2.out.size).mono ?_; rintro e w3 ⟨rfl, hw3, hk3⟩
           have HK3 : Hid (Kept [] w w3) := HK2.out.then hk3
           have HW3 : Hid (WAt w3 w2.heap.size w.heap.size [] [w2.heap.size]) := hw3
           have hs2 := HK2.out.size
           clear hw3 hk3)
        | (go_at_call 129; refine (HW.out _ _ _ HK3.out HW3.out).mono ?_; rintro e w4 ⟨rfl, hw4⟩
           obtain ⟨S4, hat4, hk4, _⟩ := hw4
           have HK4 : Hid (Kept [] w w4) := kept_new HK3.out hk4 hs2
           have HL4 : Hid (Calls Tryz.prog 27 #[.pointer (some ⟨w2.heap.size, 0, none⟩)] w4 fun e w' => e = .returned (.int .i64 enc.length) ∧ w' = w4) := WLen_any hat4
           have HO4 : Hid (Calls Tryz.prog 28 #[.pointer (some ⟨w2.heap.size, 0, none⟩)] w4 fun e w' => e = .returned (.slice (some ⟨w4.heap.size, 0, none⟩) enc.length enc.length) ∧ w'.heap[w4.heap.size]? = some (.cells (enc.map (Value.int .u8)).toArray 5 (0, 0)) ∧ Kept [] w4 w') := WOut_any hat4 (by omega)
           clear hat4 hk4)
        | (go_at_call 27; refine (HL4.out).mono ?_; rintro e w6 ⟨rfl, hw6⟩; subst w6)
        | (go_at_call 28; refine (HO4.out).mono ?_; rintro e w5 ⟨rfl, hb5, hk5⟩
           have HK5 : Hid (Kept [] w w5) := HK4.out.then hk5
           have HB5 : Hid _ := hb5
           have hs4 := HK4.out.size
           clear hb5 hk5))
      refine bodyPost_ret (v := .tuple #[.slice (some ⟨w4.heap.size, 0, none⟩) enc.length enc.length, .int .i64 0]) (by simp [results, Tryz.results8, go_sem]) rfl ⟨HK5.out, fun h => absurd rfl h, fun _ h => absurd h hl, fun _ _ => ⟨_, rfl, HB5.out, hs4⟩⟩
  · have hne : (fv != 0) = true := bne_iff_ne.2 hf0
    clear HW0
    go_enter Tryz.func8, Tryz.ntmps8
    go_wp2_with (first
      | (refine wpList_load_row (by rfl) 37 (.tmp 1) (by rfl) w.heap.size (by rfl) 37 orr (0, 0) _ HB.out Tryz.underlying37 rfl hsz ?_)
      | (go_at_call 25; refine (hcon _).mono ?_; rintro e w1 ⟨rfl, hk1⟩; have HK1 : Hid (Kept [] w w1) := ((Kept.refl [] w).alloc _).then hk1; clear hk1)
      | (go_at_call 128; refine (HF.out _ HK1.out).mono ?_; rintro e w2 ⟨rfl, hk2⟩; have HK2 : Hid (Kept [] w w2) := HK1.out.then hk2; clear hk2))
    refine bodyPost_ret (v := .tuple #[.slice none 0 0, .int .i64 fv]) (by simp [results, Tryz.results8, go_sem]) rfl ⟨HK2.out, fun _ => rfl, fun h => absurd h hf0, fun h => absurd h hf0⟩
end Go.Proofs.YtfcoeinhfdbcgaaGreatDoor

namespace Go.Proofs.YtfcoeinhfdbcgaaGreatDoor
open Go.RowKit

set_option maxRecDepth 100000 in
set_option maxHeartbeats 2000000 in
theorem encodeTag (o : ObjL) (w : World) (hk : o.kind = 4) (hc : o.com.tree.length = 32) (ht : o.tag.target.length = 32) (fv : Int) (enc : List Int) (hen : enc.length ≤ 100000000)
    (hF : ∀ W, Kept [] w W → Calls Tryz.prog 135 #[(.agg o.tag.row.toArray)] W fun e w' => e = .returned (.int .i64 fv) ∧ Kept [] W w')
    (hW : fv = 0 → ∀ W wb S, Kept [] w W → WAt W wb w.heap.size [] S → Calls Tryz.prog 136 #[(.agg o.tag.row.toArray), .pointer (some ⟨wb, 0, none⟩)] W fun e w' => e = .returned (.tuple #[]) ∧ Wrote W w' wb w.heap.size enc S) :
    Calls Tryz.prog 8 #[.agg o.row.toArray] w (EncP w fv enc) := by
  have hcon := fun W => contentOf_any o W (by omega) (by omega) hc ht
  have hcv : conV o = .iface 91 (.agg o.tag.row.toArray) := by unfold conV; rw [if_neg (by omega)]; rw [if_neg (by omega)]; rw [if_neg (by omega)]; rw [if_pos hk]
  rw [hcv, if_pos (by rw [hk]; rfl)] at hcon
  have hsz : (Tryz.prog.info? 37).map (·.size) = some o.row.toArray.size := by
    rw [List.size_toArray, show o.row.length = 76 by unfold ObjL.row; rw [List.length_append, List.length_append, com_len' _ _ hc, show o.tag.row.length = 37 by simp [TagL.row, ht]]; rfl]
    kernel_rfl
  have HB : Hid ((w.alloc (.cells o.row.toArray 37)).heap[w.heap.size]? = some (.cells o.row.toArray 37 (0, 0))) := heap_alloc_new w _
  have hm1 := meth_tag_fault
  have hm2 := meth_tag_write
  have HF0 : Hid _ := hF
  have HW0 : Hid _ := hW
  clear hF hW hcv
  generalize o.row.toArray = orr at *
  generalize hvv : (Value.agg o.tag.row.toArray) = vv at *
  clear hvv
  have HF : Hid (∀ W, Kept [] w W → Calls Tryz.prog 135 #[vv] W fun e w' => e = .returned (.int .i64 fv) ∧ Kept [] W w') := HF0
  clear HF0
  by_cases hf0 : fv = 0
  · subst hf0
    have HW : Hid (∀ W wb S, Kept [] w W → WAt W wb w.heap.size [] S → Calls Tryz.prog 136 #[vv, .pointer (some ⟨wb, 0, none⟩)] W fun e w' => e = .returned (.tuple #[]) ∧ Wrote W w' wb w.heap.size enc S) := HW0.out rfl
    clear HW0
    go_enter Tryz.func8, Tryz.ntmps8
    by_cases hl : 65536 < enc.length
    · have hd : decide (65536 < (enc.length : Int)) = true := decide_eq_true (by omega)
      go_wp2_with (first
        | (refine wpList_load_row (by rfl) 37 (.tmp 1) (by rfl) w.heap.size (by rfl) 37 orr (0, 0) _ HB.out Tryz.underlying37 rfl hsz ?_)
        | (go_at_call 25; refine (hcon _).mono ?_; rintro e w1 ⟨rfl, hk1⟩; have HK1 : Hid (Kept [] w w1) := ((Kept.refl [] w).alloc _).then hk1; clear hk1)
        | (go_at_call 135; refine (HF.out _ HK1.out).mono ?_; rintro e w2 ⟨rfl, hk2⟩; have HK2 : Hid (Kept [] w w2) := HK1.out.then hk2; clear hk2)
        | (go_at_call 26; refine (New_any _ w.heap.size HK2.out.size).mono ?_; rintro e w3 ⟨rfl, hw3, hk3⟩
           have HK3 : Hid (Kept [] w w3) := HK2.out.then hk3
           have HW3 : Hid (WAt w3 w2.heap.size w.heap.size [] [w2.heap.size]) := hw3
           have hs2 := HK2.out.size
           clear hw3 hk3)
        | (go_at_call 136; refine (HW.out _ _ _ HK3.out HW3.out).mono ?_; rintro e w4 ⟨rfl, hw4⟩
           obtain ⟨S4, hat4, hk4, _⟩ := hw4
           have HK4 : Hid (Kept [] w w4) := kept_new HK3.out hk4 hs2
           have HL4 : Hid (Calls Tryz.prog 27 #[.pointer (some ⟨w2.heap.size, 0, none⟩)] w4 fun e w' => e = .returned (.int .i64 enc.length) ∧ w' = w4) := WLen_any hat4
           have HO4 : Hid (Calls Tryz.prog 28 #[.pointer (some ⟨w2.heap.size, 0, none⟩)] w4 fun e w' => e = .returned (.slice (some ⟨w4.heap.size, 0, none⟩) enc.length enc.length) ∧ w'.heap[w4.heap.size]? = some (.cells (enc.map (Value.int .u8)).toArray 5 (0, 0)) ∧ Kept [] w4 w') := WOut_any hat4 (by omega)
           clear hat4 hk4)
        | (go_at_call 27; refine (HL4.out).mono ?_; rintro e w6 ⟨rfl, hw6⟩; subst w6))
      refine bodyPost_ret (v := .tuple #[.slice none 0 0, .int .i64 31]) (by simp [results, Tryz.results8, go_sem]) rfl ⟨HK4.out, fun h => absurd rfl h, fun _ _ => rfl, fun _ h => absurd h (by omega)⟩
    · have hd : decide (65536 < (enc.length : Int)) = false := decide_eq_false (by omega)
      go_wp2_with (first
        | (refine wpList_load_row (by rfl) 37 (.tmp 1) (by rfl) w.heap.size (by rfl) 37 orr (0, 0) _ HB.out Tryz.underlying37 rfl hsz ?_)
        | (go_at_call 25; refine (hcon _).mono ?_; rintro e w1 ⟨rfl, hk1⟩; have HK1 : Hid (Kept [] w w1) := ((Kept.refl [] w).alloc _).then hk1; clear hk1)
        | (go_at_call 135; refine (HF.out _ HK1.out).mono ?_; rintro e w2 ⟨rfl, hk2⟩; have HK2 : Hid (Kept [] w w2) := HK1.out.then hk2; clear hk2)
        | (go_at_call 26; refine (New_any _ w.heap.size HK2.out.size).mono ?_; rintro e w3 ⟨rfl, hw3, hk3⟩
           have HK3 : Hid (Kept [] w w3) := HK2.out.then hk3
           have HW3 : Hid (WAt w3 w2.heap.size w.heap.size [] [w2.heap.size]) := hw3
           have hs2 := HK2.out.size
           clear hw3 hk3)
        | (go_at_call 136; refine (HW.out _ _ _ HK3.out HW3.out).mono ?_; rintro e w4 ⟨rfl, hw4⟩
           obtain ⟨S4, hat4, hk4, _⟩ := hw4
           have HK4 : Hid (Kept [] w w4) := kept_new HK3.out hk4 hs2
           have HL4 : Hid (Calls Tryz.prog 27 #[.pointer (some ⟨w2.heap.size, 0, none⟩)] w4 fun e w' => e = .returned (.int .i64 enc.length) ∧ w' = w4) := WLen_any hat4
           have HO4 : Hid (Calls Tryz.prog 28 #[.pointer (some ⟨w2.heap.size, 0, none⟩)] w4 fun e w' => e = .returned (.slice (some ⟨w4.heap.size, 0, none⟩) enc.length enc.length) ∧ w'.heap[w4.heap.size]? = some (.cells (enc.map (Value.int .u8)).toArray 5 (0, 0)) ∧ Kept [] w4 w') := WOut_any hat4 (by omega)
           clear hat4 hk4)
        | (go_at_call 27; refine (HL4.out).mono ?_; rintro e w6 ⟨rfl, hw6⟩; subst w6)
        | (go_at_call 28; refine (HO4.out).mono ?_; rintro e w5 ⟨rfl, hb5, hk5⟩
           have HK5 : Hid (Kept [] w w5) := HK4.out.then hk5
           have HB5 : Hid _ := hb5
           have hs4 := HK4.out.size
           clear hb5 hk5))
      refine bodyPost_ret (v := .tuple #[.slice (some ⟨w4.heap.size, 0, none⟩) enc.length enc.length, .int .i64 0]) (by simp [results, Tryz.results8, go_sem]) rfl ⟨HK5.out, fun h => absurd rfl h, fun _ h => absurd h hl, fun _ _ => ⟨_, rfl, HB5.out, hs4⟩⟩
  · have hne : (fv != 0) = true := bne_iff_ne.2 hf0
    clear HW0
    go_enter Tryz.func8, Tryz.ntmps8
    go_wp2_with (first
      | (refine wpList_load_row (by rfl) 37 (.tmp 1) (by rfl) w.heap.size (by rfl) 37 orr (0, 0) _ HB.out Tryz.underlying37 rfl hsz ?_)
      | (go_at_call 25; refine (hcon _).mono ?_; rintro e w1 ⟨rfl, hk1⟩; have HK1 : Hid (Kept [] w w1) := ((Kept.refl [] w).alloc _).then hk1; clear hk1)
      | (go_at_call 135; refine (HF.out _ HK1.out).mono ?_; rintro e w2 ⟨rfl, hk2⟩; have HK2 : Hid (Kept [] w w2) := HK1.out.then hk2; clear hk2))
    refine bodyPost_ret (v := .tuple #[.slice none 0 0, .int .i64 fv]) (by simp [results, Tryz.results8, go_sem]) rfl ⟨HK2.out, fun _ => rfl, fun h => absurd h hf0, fun h => absurd h hf0⟩
end Go.Proofs.YtfcoeinhfdbcgaaGreatDoor
