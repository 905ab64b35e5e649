/-
  WALK: satchelref3.Same, of two commits that say the same.
  WALK: object.read of bytes that begin with no kind; Parse of what is no encoding.
  WALKS: object.read of a blob's bytes, of bytes that are too long; of any bytes; object.objectOf of any content; object.Parse of any bytes.
  WALKS: object.objectOf of any content; object.Parse of any bytes.
-/
import Derived.Test.YtddhhjgegkkjbaaGreatDoorGp3
import Derived.Test.YtddhhjgegkkjbaaGreatDoorHdS
import Derived.Deep.RegionHeld
import Derived.Test.YtddhhjgegkkjbaaGreatDoorConv
import Derived.Test.YtddhhjgegkkjbaaGreatDoorReadC
import Derived.Test.YtddhhjgegkkjbaaGreatDoorReadG
import Derived.Test.YtddhhjgegkkjbaaGreatDoorRt1
namespace Go.Proofs.YtddhhjgegkkjbaaGreatDoor
open Go.RowKit

theorem Kept.setRowN {S : List Nat} {a w : World} (h : Kept S a w) {g : Nat} (hg : a.heap.size ≤ g) (cs : Array Value) : Kept S a (w.setRow g cs) :=
  h.trans (S' := [g]) ⟨rfl, rfl, rfl, by simp [World.setRow], fun k _ hn => setRow_other w g k cs (fun e => hn (by simp [e]))⟩ (fun x hx => by simp at hx; exact Or.inr (by omega))
theorem ComL.row_len {c : ComL} (hl : c.tree.length = 32) (pv : Value) : (c.row pv).length = 36 := by simp [ComL.row, hl]

theorem wantedS {P : Program} {ops : Array Oper} {rest : List Oper} {o : Oper} {a : Act} {w : World} {Q : Exit → Act → World → Prop} (hw : Region.wanted o (yielded ops a.tmps) = true)
    (h : ∀ K : Act → World → Prop, (∀ a w, wpList P ops Q rest a w → K a w) → o.wp P a w K Q) : wpList P ops Q (o :: rest) a w :=
  wpList_step fun K hK => by rw [if_pos hw]; exact h K hK
theorem alloc_letter {K : Act → World → Prop} {a : Act} {w : World} {Z : Array Value} {t : TypeId} {n : Nat} (hz : Z.size = n)
    (h : ∀ W1 Z1, Hid (Z1.size = n) → Hid (W1.heap[w.heap.size]? = some (.cells Z1 t (0, 0))) → W1.heap.size = w.heap.size + 1 → Hid (Kept [] w W1) → K a W1) : K a (w.alloc (.cells Z t)) :=
  h _ Z hz (heap_alloc_new w _) (World.size_alloc _ _) ((Kept.refl [] w).alloc _)
theorem alloc_letterd {K : Act → World → Prop} {a : Act} {w : World} {Z : Array Value} {t : TypeId} {n : Nat} (hz : Z.size = n)
    (h : ∀ W1 Z1, Hid (Z1.size = n) → Hid (W1.heap[w.heap.size]? = some (.cells Z1 t (0, 0))) → W1.heap.size = w.heap.size + 1 → Hid (Kept [] w W1) → K a W1) : K a (w.alloc (.cells Z t)).drew :=
  h _ Z hz (heap_alloc_new w _) (World.size_alloc _ _) ((Kept.refl [] w).alloc _).drew

end Go.Proofs.YtddhhjgegkkjbaaGreatDoor

namespace Go.Proofs.YtddhhjgegkkjbaaGreatDoor
open Go.RowKit

set_option maxRecDepth 100000 in
set_option maxHeartbeats 2000000 in
theorem readKind (v : Value) (xs : List Int) (w : World) (hv : BytesAt w v xs) (ho : Octs xs) (hl : xs.length ≤ 65536) (y0 : Took) (h0 : Hid (y0 = takeL xs 0 0 0 1 0)) (k : Int) (hk : Hid (y0.n = k)) (n1 : ¬ k = 1) (n2 : ¬ k = 2) (n3 : ¬ k = 3) (n4 : ¬ k = 4) :
    Calls Tryz.prog 34 #[v] w fun e w' => Kept [] w w' ∧ e = .returned (.tuple #[.nilIface, .int .i64 30]) := by
  have hread := Read_any v xs w hv (by omega) ho
  have HU8 : Hid (∀ W r g, Rdr W r g xs 0 0 → Calls Tryz.prog 48 #[.pointer (some ⟨r, 0, none⟩)] W fun e w' => e = .returned (.int .u8 k) ∧ Rdr w' r g xs y0.pl y0.f ∧ Kept [r] W w') := fun W r g q => by
    have h := U8_any q y0 h0
    rw [hk.out] at h
    exact h
  have hlx : decide (65536 < (xs.length : Int)) = false := decide_eq_false (by omega)
  obtain ⟨ao, cap, rfl, _⟩ := hv
  go_enter Tryz.func34, Tryz.ntmps34
  go_wp2_with (first
    | (go_at_call 47; refine hread.mono ?_; rintro e w1 ⟨r, g, rfl, hr1, hk1, hrs, hgs⟩
       have HR1 : Hid (Rdr w1 r g xs 0 0) := hr1
       have HK1 : Hid (Kept [] w w1) := hk1
       clear hr1 hk1)
    | (go_at_call 48; refine (HU8.out _ r g HR1.out).mono ?_; rintro e w2 ⟨rfl, hr2, hk2⟩
       have HK2 : Hid (Kept [] w w2) := kept_new HK1.out hk2 hrs
       clear hr2 hk2))
  refine bodyPost_ret (v := .tuple #[.nilIface, .int .i64 30]) (by simp [results, Tryz.results34, go_sem]) rfl ⟨HK2.out, rfl⟩

end Go.Proofs.YtddhhjgegkkjbaaGreatDoor

namespace Go.Proofs.YtddhhjgegkkjbaaGreatDoor
open Go.RowKit

set_option maxRecDepth 100000 in
set_option maxHeartbeats 2000000 in
theorem readLongA [TabC] (v : Value) (xs : List Int) (w : World) (hf : ∃ ao c, v = .slice ao xs.length c) (hl : 65536 < xs.length) : Calls Tryz.prog 34 #[v] w (ReadA w xs) := by
  have hp : parErr xs = 31 := by unfold parErr; rw [if_pos hl]
  have HF : Hid (∀ e W, e = .returned (.tuple #[.nilIface, .int .i64 31]) → Kept [] w W → ReadA w xs e W) := fun e W he hk => readA_bad hk hp (by decide) he
  obtain ⟨ao, cap, rfl⟩ := hf
  have hlx : decide (65536 < (xs.length : Int)) = true := decide_eq_true (by omega)
  clear hp
  go_enter Tryz.func34, Tryz.ntmps34
  go_wp2
  exact bodyPost_ret (v := .tuple #[.nilIface, .int .i64 31]) (by simp [results, Tryz.results34, go_sem]) rfl (HF.out _ _ rfl (Kept.refl _ _))

set_option maxRecDepth 100000 in
set_option maxHeartbeats 2000000 in
theorem readBlobA [TabC] (v : Value) (xs : List Int) (w : World) (hv : BytesAt w v xs) (ho : Octs xs) (hl : xs.length ≤ 65536) (hk : xAt xs 0 = 1) (hne : xs ≠ []) : Calls Tryz.prog 34 #[v] w (ReadA w xs) := by
  have hread := Read_any v xs w hv (by omega) ho
  have hpos := List.length_pos_iff.2 hne
  have h0 := take_first ho hne
  rw [hk] at h0
  have HU8 : Hid (∀ W r g, Rdr W r g xs 0 0 → Calls Tryz.prog 48 #[.pointer (some ⟨r, 0, none⟩)] W fun e w' => e = .returned (.int .u8 1) ∧ Rdr w' r g xs 1 0 ∧ Kept [r] W w') := fun W r g q => U8_any q ⟨1, [], 1, 0⟩ h0.symm
  have hdl : (xs.drop 1).length = xs.length - 1 := List.length_drop
  have hb := back_raw xs 1 (xs.drop 1) [] (by rw [List.append_nil])
  have HRAW : Hid (∀ W r g, Rdr W r g xs 1 0 → Calls Tryz.prog 49 #[.pointer (some ⟨r, 0, none⟩), .int .i64 ((xs.length : Int) - 1)] W fun e w' => ∃ q, e = .returned (.slice (some ⟨q, 0, none⟩) (xs.length - 1) (xs.length - 1)) ∧ BytesAt w' (.slice (some ⟨q, 0, none⟩) (xs.length - 1) (xs.length - 1)) (xs.drop 1) ∧ W.heap.size ≤ q ∧ Rdr w' r g xs xs.length 0 ∧ Kept [r] W w') := fun W r g q => by
    have h := Raw_any q ((xs.length : Int) - 1) (by omega) ⟨0, xs.drop 1, 1 + (xs.drop 1).length, 0⟩ (by show _ = _; rw [← hb, hdl]; congr 1; omega)
    refine h.mono ?_
    rintro e w' ⟨q1, he, hrow, hq, hR, hk⟩
    dsimp only at he hrow hR
    have hbb := row_bytes' hrow
    rw [hdl] at he hbb hR
    rw [show 1 + (xs.length - 1) = xs.length by omega] at hR
    exact ⟨q1, he, hbb, hq, hR, hk⟩
  have HEND : Hid (∀ W r g, Rdr W r g xs xs.length 0 → Calls Tryz.prog 54 #[.pointer (some ⟨r, 0, none⟩)] W fun e w' => e = .returned (.int .i64 0) ∧ ∃ n, w' = W.drewN n) := fun W r g q => by
    have h := End_any q (by decide)
    rw [if_neg (by decide), if_neg (by omega)] at h
    exact h
  have HFB : Hid (∀ W v, BytesAt W v (xs.drop 1) → Calls Tryz.prog 124 #[v] W fun e w' => e = .returned (.int .i64 0) ∧ Kept [] W w') := fun W v hvb => by
    have h := blobFault_any v (xs.drop 1) W hvb (by omega)
    rw [show faultB (xs.drop 1) = 0 from if_neg (by omega)] at h
    exact h
  have hm1 := meth_blob_fault
  have hp := parErr_kind (xs := xs) (by omega) (by omega)
  rw [if_pos (gok_blob hk hne)] at hp
  have HF : Hid (∀ e W q, e = .returned (.tuple #[.iface 98 (.slice (some ⟨q, 0, none⟩) (xs.length - 1) (xs.length - 1)), .int .i64 0]) → Kept [] w W → BytesAt W (.slice (some ⟨q, 0, none⟩) (xs.length - 1) (xs.length - 1)) (xs.drop 1) → w.heap.size ≤ q → ReadA w xs e W) := fun e W q he hkp hbt hq => by
    refine ⟨hkp, fun h => absurd hp h, fun _ => ⟨.slice (some ⟨q, 0, none⟩) (xs.length - 1) (xs.length - 1), nilV, nilV, ?_, ?_, fun b hb => ?_⟩⟩
    · rw [guessO_blob hk]; exact he
    · rw [guessO_blob hk]
      exact ⟨(by decide : (-9223372036854775808 : Int) ≤ 1), (by decide : (1 : Int) ≤ 9223372036854775807), hbt, ⟨octs_drop ho 1, by show (xs.drop 1).length ≤ _; omega⟩, ents_nil W, (fun e he => by cases he), ids_nil W, zeroC_good, zeroG_good⟩
    · rw [guessO_blob hk] at hb
      rcases hb with h | h | h
      · have e : q = b := by simpa [blkOf] using h
        omega
      · cases h
      · cases h
  have hlx : decide (65536 < (xs.length : Int)) = false := decide_eq_false (by omega)
  obtain ⟨ao, cap, rfl, _⟩ := hv
  clear hp hb h0 ho hdl
  go_enter Tryz.func34, Tryz.ntmps34
  go_wp2_with (first
    | (go_at_call 47; refine hread.mono ?_; rintro e w1 ⟨r, g, rfl, hr1, hk1, hrs, hgs⟩
       have HR1 : Hid (Rdr w1 r g xs 0 0) := hr1
       have HK1 : Hid (Kept [] w w1) := hk1
       clear hr1 hk1)
    | (go_at_call 48; refine (HU8.out _ r g HR1.out).mono ?_; rintro e w2 ⟨rfl, hr2, hk2⟩
       have HR2 : Hid (Rdr w2 r g xs 1 0) := hr2
       have HK2 : Hid (Kept [] w w2) := kept_new HK1.out hk2 hrs
       have hlf := Left_any hr2
       clear hr2 hk2)
    | (go_at_call 50; refine hlf.mono ?_; rintro e w3 ⟨rfl, n3, hw3⟩
       have kd : Kept [] w2 w3 := by rw [hw3]; exact (Kept.refl [] w2).drewN n3
       have HR3 : Hid (Rdr w3 r g xs 1 0) := HR2.out.kept kd (by simp) (by simp)
       have HK3 : Hid (Kept [] w w3) := HK2.out.then kd
       clear hlf kd hw3)
    | (go_at_call 49; refine (HRAW.out _ r g HR3.out).mono ?_; rintro e w4 ⟨q, rfl, hb4, hq4, hr4, hk4⟩
       have HR4 : Hid (Rdr w4 r g xs xs.length 0) := hr4
       have HB4 : Hid (BytesAt w4 (.slice (some ⟨q, 0, none⟩) (xs.length - 1) (xs.length - 1)) (xs.drop 1)) := hb4
       have HQ4 : Hid (w.heap.size ≤ q) := Nat.le_trans HK3.out.size hq4
       have HK4 : Hid (Kept [] w w4) := kept_new HK3.out hk4 hrs
       clear hr4 hk4 hb4 hq4)
    | (go_at_call 54; refine (HEND.out _ r g HR4.out).mono ?_; rintro e w5 ⟨rfl, n5, hw5⟩
       have kd5 : Kept [] w4 w5 := by rw [hw5]; exact (Kept.refl [] w4).drewN n5
       have HK5 : Hid (Kept [] w w5) := HK4.out.then kd5
       have HB5 : Hid (BytesAt w5 (.slice (some ⟨q, 0, none⟩) (xs.length - 1) (xs.length - 1)) (xs.drop 1)) := HB4.out.keep kd5 (fun _ _ _ => by simp)
       clear kd5 hw5)
    | (go_at_call 124; refine (HFB.out _ _ HB5.out).mono ?_; rintro e w6 ⟨rfl, hk6⟩
       have HK6 : Hid (Kept [] w w6) := HK5.out.then hk6
       have HB6 : Hid (BytesAt w6 (.slice (some ⟨q, 0, none⟩) (xs.length - 1) (xs.length - 1)) (xs.drop 1)) := HB5.out.keep hk6 (fun _ _ _ => by simp)
       clear hk6))
  refine bodyPost_ret (v := .tuple #[.iface 98 (.slice (some ⟨q, 0, none⟩) (xs.length - 1) (xs.length - 1)), .int .i64 0]) (by simp [results, Tryz.results34, go_sem]) rfl (HF.out _ _ q rfl HK6.out HB6.out HQ4.out)

theorem read_any [TabC] (v : Value) (xs : List Int) (w : World) (hv : BytesAt w v xs) (ho : Octs xs) (hT : Tabs w) : Calls Tryz.prog 34 #[v] w (ReadA w xs) := by
  by_cases hl : 65536 < xs.length
  · obtain ⟨ao, cap, hvf, _⟩ := hv
    exact readLongA v xs w ⟨ao, cap, hvf⟩ hl
  · by_cases hne : xs = []
    · have h0 : xAt xs 0 = 0 := by rw [hne]; rfl
      have hp : parErr xs = 30 := by unfold parErr; rw [if_neg hl, if_pos (by omega)]
      refine (readKind v xs w hv ho (by omega) _ rfl 0 (by show (takeL xs 0 0 0 1 0).n = 0; rw [hne]; rfl) (by decide) (by decide) (by decide) (by decide)).mono ?_
      rintro e w' ⟨hk, he⟩
      exact readA_bad hk hp (by decide) he
    · by_cases hk : 1 ≤ xAt xs 0 ∧ xAt xs 0 ≤ 4
      · by_cases k1 : xAt xs 0 = 1
        · exact readBlobA v xs w hv ho (by omega) k1 hne
        · by_cases k2 : xAt xs 0 = 2
          · exact readTreeA v xs w hv ho (by omega) hT k2 hne
          · by_cases k3 : xAt xs 0 = 3
            · exact readComA v xs w hv ho (by omega) hT k3 hne
            · exact readTagA v xs w hv ho (by omega) hT (by omega) hne
      · have hp : parErr xs = 30 := by unfold parErr; rw [if_neg hl, if_pos hk]
        refine (readKind v xs w hv ho (by omega) _ rfl (xAt xs 0) (by show (takeL xs 0 0 0 1 0).n = xAt xs 0; rw [take_first ho hne]) (by omega) (by omega) (by omega) (by omega)).mono ?_
        rintro e w' ⟨hk, he⟩
        exact readA_bad hk hp (by decide) he
end Go.Proofs.YtddhhjgegkkjbaaGreatDoor

namespace Go.Proofs.YtddhhjgegkkjbaaGreatDoor
open Go.RowKit

theorem built_blobO (ao : Option Addr) (n c : Nat) (bl : List Int) : Tryz.prog.built 61 [(0, .int .i64 1), (1, .slice ao n c)] = some ({ kindO 1 with bv := .slice ao n c, blob := bl } : ObjL).row.toArray := by
  rw [Tryz.builtObj, fill_step (fun i => (#[(0, 1), (1, 1), (2, 1), (3, 36), (39, 37)] : Array (Nat × Nat))[i]?) zeroO.row.toArray 0 (.int .i64 1) _ 0 1 rfl rfl (by decide)]
  have e1 : (Value.int .i64 1).cells.toList = [.int .i64 1] := rfl
  rw [e1, setL_put _ _ _ (by decide)]
  have e2 : putL zeroO.row 0 [.int .i64 1] = [.int .i64 1, .slice none 0 0, .slice none 0 0] ++ (zeroC.row (.slice none 0 0) ++ zeroG.row) := put0 _ _ _ _ _
  rw [e2, fill_step (fun i => (#[(0, 1), (1, 1), (2, 1), (3, 36), (39, 37)] : Array (Nat × Nat))[i]?) _ 1 (.slice ao n c) _ 1 1 rfl rfl (by decide)]
  have e3 : (Value.slice ao n c).cells.toList = [.slice ao n c] := rfl
  rw [e3, setL_put _ _ _ (by show 1 + 1 ≤ 76; decide), fill_nil]
  rfl
theorem built_treeO (ao : Option Addr) (n c : Nat) (es : List EntL) : Tryz.prog.built 61 [(0, .int .i64 2), (2, .slice ao n c)] = some ({ kindO 2 with ev := .slice ao n c, es := es } : ObjL).row.toArray := by
  rw [Tryz.builtObj, fill_step (fun i => (#[(0, 1), (1, 1), (2, 1), (3, 36), (39, 37)] : Array (Nat × Nat))[i]?) zeroO.row.toArray 0 (.int .i64 2) _ 0 1 rfl rfl (by decide)]
  have e1 : (Value.int .i64 2).cells.toList = [.int .i64 2] := rfl
  rw [e1, setL_put _ _ _ (by decide)]
  have e2 : putL zeroO.row 0 [.int .i64 2] = [.int .i64 2, .slice none 0 0, .slice none 0 0] ++ (zeroC.row (.slice none 0 0) ++ zeroG.row) := put0 _ _ _ _ _
  rw [e2, fill_step (fun i => (#[(0, 1), (1, 1), (2, 1), (3, 36), (39, 37)] : Array (Nat × Nat))[i]?) _ 2 (.slice ao n c) _ 2 1 rfl rfl (by decide)]
  have e3 : (Value.slice ao n c).cells.toList = [.slice ao n c] := rfl
  rw [e3, setL_put _ _ _ (by show 2 + 1 ≤ 76; decide), fill_nil]
  rfl

set_option maxRecDepth 100000 in
set_option maxHeartbeats 2000000 in
theorem objectOfBlob (ao : Option Addr) (n c : Nat) (bl : List Int) (w : World) :
    Calls Tryz.prog 35 #[.iface 98 (.slice ao n c)] w fun e w' => e = .returned (.agg ({ kindO 1 with bv := .slice ao n c, blob := bl } : ObjL).row.toArray) ∧ Kept [] w w' := by
  have hbl := built_blobO ao n c bl
  have hoz : ({ kindO 1 with bv := .slice ao n c, blob := bl } : ObjL).row.toArray.size = 76 := rfl
  have hos : (Tryz.prog.info? 61).map (·.size) = some ({ kindO 1 with bv := .slice ao n c, blob := bl } : ObjL).row.toArray.size := by rw [hoz]; kernel_rfl
  have hzz : Tryz.zeroCells61.size = ({ kindO 1 with bv := .slice ao n c, blob := bl } : ObjL).row.toArray.size := by rw [hoz]; kernel_rfl
  have hpo : ({ kindO 1 with bv := .slice ao n c, blob := bl } : ObjL).row.toArray.all (·.oneCell') = true := objV_one rfl rfl rfl
  have HZ : Hid ((w.alloc (.cells Tryz.zeroCells61 61)).heap[w.heap.size]? = some (.cells Tryz.zeroCells61 61 (0, 0))) := heap_alloc_new w _
  have HKF : Hid (Kept [] w ((w.alloc (.cells Tryz.zeroCells61 61)).setRow w.heap.size ({ kindO 1 with bv := .slice ao n c, blob := bl } : ObjL).row.toArray)) := kept_setRow ((Kept.refl [] w).alloc _) (Nat.le_refl _) _
  generalize hob : ({ kindO 1 with bv := .slice ao n c, blob := bl } : ObjL).row.toArray = orr at *
  clear hob
  have ta1 : ∀ W, (Instr.typeAssert (.iface 98 (.slice ao n c)) 81 98 true).run Tryz.prog W = .ok (.tuple #[.slice ao n c, .bool true]) W := fun W => by kernel_rfl
  go_enter Tryz.func35, Tryz.ntmps35
  go_wp2_with (first
    | (refine wpList_build_some (by rfl) 61 _ (by rfl) orr (by simp; exact hbl) ?_)
    | (refine wpList_store_row (by rfl) 61 (.tmp 2) (.tmp 12) (by rfl) w.heap.size orr (by rfl) (by rfl) 61 _ HZ.out hos hzz hpo ?_))
  refine bodyPost_ret (v := .agg orr) ?_ rfl ⟨rfl, HKF.out⟩
  rw [results_cell1 rfl]
  exact run_loadVar_row (P := Tryz.prog) _ w.heap.size 61 61 orr (0, 0) _ (setRow_heap _ _ _ _ _ _ HZ.out) Tryz.underlying61 rfl hos
set_option maxRecDepth 100000 in
set_option maxHeartbeats 2000000 in
theorem objectOfTree (ao : Option Addr) (n c : Nat) (es : List EntL) (w : World) :
    Calls Tryz.prog 35 #[.iface 100 (.slice ao n c)] w fun e w' => e = .returned (.agg ({ kindO 2 with ev := .slice ao n c, es := es } : ObjL).row.toArray) ∧ Kept [] w w' := by
  have hbl := built_treeO ao n c es
  have hoz : ({ kindO 2 with ev := .slice ao n c, es := es } : ObjL).row.toArray.size = 76 := rfl
  have hos : (Tryz.prog.info? 61).map (·.size) = some ({ kindO 2 with ev := .slice ao n c, es := es } : ObjL).row.toArray.size := by rw [hoz]; kernel_rfl
  have hzz : Tryz.zeroCells61.size = ({ kindO 2 with ev := .slice ao n c, es := es } : ObjL).row.toArray.size := by rw [hoz]; kernel_rfl
  have hpo : ({ kindO 2 with ev := .slice ao n c, es := es } : ObjL).row.toArray.all (·.oneCell') = true := objV_one rfl rfl rfl
  have HZ : Hid ((w.alloc (.cells Tryz.zeroCells61 61)).heap[w.heap.size]? = some (.cells Tryz.zeroCells61 61 (0, 0))) := heap_alloc_new w _
  have HKF : Hid (Kept [] w ((w.alloc (.cells Tryz.zeroCells61 61)).setRow w.heap.size ({ kindO 2 with ev := .slice ao n c, es := es } : ObjL).row.toArray)) := kept_setRow ((Kept.refl [] w).alloc _) (Nat.le_refl _) _
  generalize hob : ({ kindO 2 with ev := .slice ao n c, es := es } : ObjL).row.toArray = orr at *
  clear hob
  have ta1 : ∀ W, (Instr.typeAssert (.iface 100 (.slice ao n c)) 81 98 true).run Tryz.prog W = .ok (.tuple #[.slice none 0 0, .bool false]) W := fun W => by kernel_rfl
  have ta2 : ∀ W, (Instr.typeAssert (.iface 100 (.slice ao n c)) 81 100 true).run Tryz.prog W = .ok (.tuple #[.slice ao n c, .bool true]) W := fun W => by kernel_rfl
  go_enter Tryz.func35, Tryz.ntmps35
  go_wp2_with (first
    | (refine wpList_build_some (by rfl) 61 _ (by rfl) orr (by simp; exact hbl) ?_)
    | (refine wpList_store_row (by rfl) 61 (.tmp 2) (.tmp 17) (by rfl) w.heap.size orr (by rfl) (by rfl) 61 _ HZ.out hos hzz hpo ?_))
  refine bodyPost_ret (v := .agg orr) ?_ rfl ⟨rfl, HKF.out⟩
  rw [results_cell1 rfl]
  exact run_loadVar_row (P := Tryz.prog) _ w.heap.size 61 61 orr (0, 0) _ (setRow_heap _ _ _ _ _ _ HZ.out) Tryz.underlying61 rfl hos
/-- objectOf, of what a read has answered. -/
theorem objectOf_any {xs : List Int} {bv ev pv : Value} {W0 : World} (hk : 1 ≤ xAt xs 0 ∧ xAt xs 0 ≤ 4) (hg : ObjL.Good W0 (guessO xs bv ev pv)) (w : World) :
    Calls Tryz.prog 35 #[conV (guessO xs bv ev pv)] w fun e w' => e = .returned (.agg (guessO xs bv ev pv).row.toArray) ∧ Kept [] w w' := by
  by_cases k1 : xAt xs 0 = 1
  · rw [guessO_blob k1] at hg ⊢
    obtain ⟨ao, c, hv, _⟩ := hg.bv
    have hv : bv = .slice ao (xs.drop 1).length c := hv
    rw [hv]
    exact objectOfBlob ao _ c (xs.drop 1) w
  · by_cases k2 : xAt xs 0 = 2
    · rw [guessO_tree k2] at hg ⊢
      obtain ⟨ao, c, hv, _⟩ := hg.ev.form
      have hv : ev = .slice ao (gTree xs).length c := hv
      rw [hv]
      exact objectOfTree ao _ c (gTree xs) w
    · by_cases k3 : xAt xs 0 = 3
      · rw [guessO_com k3] at hg ⊢
        obtain ⟨ao, c, hv, _⟩ := hg.pv
        have hv : pv = .slice ao (gCom xs).parents.length c := hv
        rw [hv]
        exact objectOfCom (gCom xs) _ w hg.com.tree.1 (comO_one (gCom xs) _ rfl) (com_one (gCom xs) _ rfl)
      · have k4 : xAt xs 0 = 4 := by omega
        rw [guessO_tag k4] at hg ⊢
        exact objectOfTag (gTag xs) w hg.tag.target.1 (tagO_one (gTag xs)) (tag_one (gTag xs))
theorem parErr_zero [TabC] {xs : List Int} (h : parErr xs = 0) : xs.length ≤ 65536 ∧ 1 ≤ xAt xs 0 ∧ xAt xs 0 ≤ 4 := by
  unfold parErr at h
  split at h
  · exact absurd h (by decide)
  · split at h
    · exact absurd h (by decide)
    · rename_i h1 h2
      have := Classical.not_not.1 h2
      omega

/-- As ParA; and the lists are new memory. -/
def ParF [TabC] (w : World) (xs : List Int) (e : Ending) (w' : World) : Prop :=
  ∃ o, e = .returned (.tuple #[.agg o.row.toArray, .int .i64 (parErr xs)]) ∧ ObjL.Good w' o ∧ Kept [] w w' ∧ (parErr xs = 0 → ∃ bv ev pv, o = guessO xs bv ev pv) ∧ (parErr xs ≠ 0 → o = zeroO) ∧
    ∀ b, (blkOf o.bv = some b ∨ blkOf o.ev = some b ∨ blkOf o.pv = some b) → w.heap.size ≤ b
set_option maxRecDepth 100000 in
set_option maxHeartbeats 4000000 in
/-- object.Parse, of any bytes. -/
theorem Parse_new [TabC] (v : Value) (xs : List Int) (w : World) (hv : BytesAt w v xs) (ho : Octs xs) (hT : Tabs w) : Calls Tryz.prog 23 #[v] w (ParF w xs) := by
  have k0 : Kept [] w (w.alloc (.cells Tryz.zeroCells61 61)) := (Kept.refl _ _).alloc _
  have hrd := read_any v xs _ (hv.keep k0 (fun _ _ _ => by simp)) ho (hT.kept k0)
  have HK0 : Hid (Kept [] w (w.alloc (.cells Tryz.zeroCells61 61))) := k0
  have HZ : Hid ((w.alloc (.cells Tryz.zeroCells61 61)).heap[w.heap.size]? = some (.cells Tryz.zeroCells61 61 (0, 0))) := heap_alloc_new w _
  have hun := Tryz.underlying61
  obtain ⟨ao, cap, rfl, _⟩ := hv
  by_cases her : parErr xs = 0
  · obtain ⟨_, hk1, hk4⟩ := parErr_zero her
    clear ho hT k0
    go_enter Tryz.func23, Tryz.ntmps23
    go_wp2_with fail
    go_at_call 34
    refine hrd.mono ?_
    rintro e w1 ⟨k1, _, hok⟩
    obtain ⟨bv, ev, pv, rfl, hg1, hlow⟩ := hok her
    have hob := objectOf_any ⟨hk1, hk4⟩ hg1
    have hlow2 : ∀ b, (blkOf (guessO xs bv ev pv).bv = some b ∨ blkOf (guessO xs bv ev pv).ev = some b ∨ blkOf (guessO xs bv ev pv).pv = some b) → b ≠ w.heap.size := fun b hb => by
      have h := hlow b hb
      rw [World.size_alloc] at h
      omega
    have hoz : (guessO xs bv ev pv).row.toArray.size = 76 := by rw [List.size_toArray]; exact objL_len hg1.com.tree.1 hg1.tag.target.1
    have hos : (Tryz.prog.info? 61).map (·.size) = some (guessO xs bv ev pv).row.toArray.size := by rw [hoz]; kernel_rfl
    have hzz : Tryz.zeroCells61.size = (guessO xs bv ev pv).row.toArray.size := by rw [hoz]; kernel_rfl
    have hpo : (guessO xs bv ev pv).row.toArray.all (·.oneCell') = true := objL_one hg1
    have HK1 : Hid (Kept [] w w1) := HK0.out.then k1
    have HZ1 : Hid (w1.heap[w.heap.size]? = some (.cells Tryz.zeroCells61 61 (0, 0))) := k1.heap HZ.out (by simp)
    have HGW : Hid (∀ W, Kept [] w1 W → ObjL.Good (W.setRow w.heap.size (guessO xs bv ev pv).row.toArray) (guessO xs bv ev pv)) := fun W k => good_keep (hg1.kept k) ⟨rfl, rfl, rfl, by simp [World.setRow], fun j _ hn => setRow_other _ _ j _ (fun e => hn (by simp [e]))⟩ hlow2
    have HFin : Hid (∀ W e, e = .returned (.tuple #[.agg (guessO xs bv ev pv).row.toArray, .int .i64 0]) → Kept [] w W → ObjL.Good W (guessO xs bv ev pv) → ParF w xs e W) := fun W e he hk hg => ⟨guessO xs bv ev pv, by rw [her]; exact he, hg, hk, fun _ => ⟨bv, ev, pv, rfl⟩, fun h => absurd her h, fun b hb => by
      have h := hlow b hb
      rw [World.size_alloc] at h
      omega⟩
    clear hrd k1 hg1 hlow hlow2 hok
    generalize conV (guessO xs bv ev pv) = cv at *
    generalize hor : (guessO xs bv ev pv).row.toArray = orr at *
    clear hor
    go_wp2_with fail
    go_at_call 35
    refine (hob _).mono ?_
    rintro e w2 ⟨rfl, k2⟩
    have HK2 : Hid (Kept [] w w2) := HK1.out.then k2
    have HZ2 : Hid (w2.heap[w.heap.size]? = some (.cells Tryz.zeroCells61 61 (0, 0))) := k2.heap HZ1.out (by simp)
    have HG2 := HGW.out w2 k2
    clear hob k2
    go_wp2_with (refine wpList_store_row (by rfl) 61 (.tmp 2) (.tmp 16) (by rfl) w.heap.size orr (by rfl) (by rfl) 61 _ HZ2.out hos hzz hpo ?_)
    refine bodyPost_ret (v := .tuple #[.agg orr, .int .i64 0]) ?_ rfl (HFin.out _ _ rfl (kept_setRow HK2.out (Nat.le_refl _) _) HG2)
    rw [results_cell_tmp rfl]
    have hld := run_loadVar_row (P := Tryz.prog) _ w.heap.size 61 61 orr (0, 0) _ (setRow_heap _ _ _ _ _ _ HZ2.out) hun rfl hos
    simp [asAddr, Result.andThen, hld]
  · have hbz := built_zero
    have hzz : Tryz.zeroCells61.size = zeroO.row.toArray.size := by kernel_rfl
    have hzs : (Tryz.prog.info? 61).map (·.size) = some zeroO.row.toArray.size := by kernel_rfl
    have hz1 : zeroO.row.toArray.all (·.oneCell') = true := by kernel_rfl
    have HFin : Hid (∀ W e, e = .returned (.tuple #[.agg zeroO.row.toArray, .int .i64 (parErr xs)]) → Kept [] w W → ParF w xs e W) := fun W e he hk => ⟨zeroO, he, zeroO_good W, hk, fun h => absurd h her, fun _ => rfl, fun b hb => by
      rcases hb with h | h | h <;> cases h⟩
    have hne0 : (parErr xs != 0) = true := bne_iff_ne.2 her
    clear ho hT k0
    generalize hzr : zeroO.row.toArray = zr at *
    clear hzr
    go_enter Tryz.func23, Tryz.ntmps23
    go_wp2_with fail
    go_at_call 34
    refine hrd.mono ?_
    rintro e w1 ⟨k1, hbad, _⟩
    obtain rfl := hbad her
    have HK1 : Hid (Kept [] w w1) := HK0.out.then k1
    have HZ1 : Hid (w1.heap[w.heap.size]? = some (.cells Tryz.zeroCells61 61 (0, 0))) := k1.heap HZ.out (by simp)
    clear hrd k1 hbad
    generalize parErr xs = er at *
    go_wp2_with (first
      | (refine wpList_build_some (by rfl) 61 _ (by rfl) zr (by simp; exact hbz) ?_)
      | (refine wpList_store_row (by rfl) 61 (.tmp 2) (.tmp 13) (by rfl) w.heap.size zr (by rfl) (by rfl) 61 _ HZ1.out hzs hzz hz1 ?_))
    refine bodyPost_ret (v := .tuple #[.agg zr, .int .i64 er]) ?_ rfl (HFin.out _ _ rfl (kept_setRow HK1.out (Nat.le_refl _) _))
    rw [results_cell_tmp rfl]
    have hld := run_loadVar_row (P := Tryz.prog) _ w.heap.size 61 61 zr (0, 0) _ (setRow_heap _ _ _ _ _ _ HZ1.out) hun rfl hzs
    simp [asAddr, Result.andThen, hld]
theorem Parse_any [TabC] (v : Value) (xs : List Int) (w : World) (hv : BytesAt w v xs) (ho : Octs xs) (hT : Tabs w) : Calls Tryz.prog 23 #[v] w (ParA w xs) :=
  (Parse_new v xs w hv ho hT).mono fun _ _ ⟨o, h1, h2, h3, h4, h5, _⟩ => ⟨o, h1, h2, h3, h4, h5⟩
end Go.Proofs.YtddhhjgegkkjbaaGreatDoor
