/-
  WALK: satchelref3.Same, of two commits that say the same.
  WALK: object.read of bytes that begin with no kind; Parse of what is no encoding.
  WALKS: object.read of a blob's bytes, of bytes that are too long; of any bytes; object.objectOf of any content; object.Parse of any bytes.
-/
import Derived.Test.YtbphibolgckmnaaGreatDoorGp2
import Derived.Test.YtbphibolgckmnaaGreatDoorHdS
import Derived.Deep.RegionHeld
import Derived.Test.YtbphibolgckmnaaGreatDoorConv
import Derived.Test.YtbphibolgckmnaaGreatDoorReadC
import Derived.Test.YtbphibolgckmnaaGreatDoorReadG
import Derived.Test.YtbphibolgckmnaaGreatDoorRt1
import Derived.Test.YtbphibolgckmnaaGreatDoorGp3
namespace Go.Proofs.YtbphibolgckmnaaGreatDoor
open Go.RowKit

theorem Kept.setRowN {S : List Nat} {a w : World} (h : Kept S a w) {g : Nat} (hg : a.heap.size ≤ g) (cs : Array Value) : Kept S a (w.setRow g cs) :=
  h.trans (S' := [g]) ⟨rfl, rfl, rfl, by simp [World.setRow], fun k _ hn => setRow_other w g k cs (fun e => hn (by simp [e]))⟩ (fun x hx => by simp at hx; exact Or.inr (by omega))
theorem ComL.row_len {c : ComL} (hl : c.tree.length = 32) (pv : Value) : (c.row pv).length = 36 := by simp [ComL.row, hl]

theorem wantedS {P : Program} {ops : Array Oper} {rest : List Oper} {o : Oper} {a : Act} {w : World} {Q : Exit → Act → World → Prop} (hw : Region.wanted o (yielded ops a.tmps) = true)
    (h : ∀ K : Act → World → Prop, (∀ a w, wpList P ops Q rest a w → K a w) → o.wp P a w K Q) : wpList P ops Q (o :: rest) a w :=
  wpList_step fun K hK => by rw [if_pos hw]; exact h K hK
theorem alloc_letter {K : Act → World → Prop} {a : Act} {w : World} {Z : Array Value} {t : TypeId} {n : Nat} (hz : Z.size = n)
    (h : ∀ W1 Z1, Hid (Z1.size = n) → Hid (W1.heap[w.heap.size]? = some (.cells Z1 t (0, 0))) → W1.heap.size = w.heap.size + 1 → Hid (Kept [] w W1) → K a W1) : K a (w.alloc (.cells Z t)) :=
  h _ Z hz (heap_alloc_new w _) (World.size_alloc _ _) ((Kept.refl [] w).alloc _)
theorem alloc_letterd {K : Act → World → Prop} {a : Act} {w : World} {Z : Array Value} {t : TypeId} {n : Nat} (hz : Z.size = n)
    (h : ∀ W1 Z1, Hid (Z1.size = n) → Hid (W1.heap[w.heap.size]? = some (.cells Z1 t (0, 0))) → W1.heap.size = w.heap.size + 1 → Hid (Kept [] w W1) → K a W1) : K a (w.alloc (.cells Z t)).drew :=
  h _ Z hz (heap_alloc_new w _) (World.size_alloc _ _) ((Kept.refl [] w).alloc _).drew

end Go.Proofs.YtbphibolgckmnaaGreatDoor

namespace Go.Proofs.YtbphibolgckmnaaGreatDoor
open Go.RowKit

set_option maxRecDepth 100000 in
set_option maxHeartbeats 2000000 in
theorem readKind (v : Value) (xs : List Int) (w : World) (hv : BytesAt w v xs) (ho : Octs xs) (hl : xs.length ≤ 65536) (y0 : Took) (h0 : Hid (y0 = takeL xs 0 0 0 1 0)) (k : Int) (hk : Hid (y0.n = k)) (n1 : ¬ k = 1) (n2 : ¬ k = 2) (n3 : ¬ k = 3) (n4 : ¬ k = 4) :
    Calls Tryz.prog 43 #[v] w fun e w' => Kept [] w w' ∧ e = .returned (.tuple #[.nilIface, .int .i64 30]) := by
  have hread := Read_any v xs w hv (by omega) ho
  have HU8 : Hid (∀ W r g, Rdr W r g xs 0 0 → Calls Tryz.prog 55 #[.pointer (some ⟨r, 0, none⟩)] W fun e w' => e = .returned (.int .u8 k) ∧ Rdr w' r g xs y0.pl y0.f ∧ Kept [r] W w') := fun W r g q => by
    have h := U8_any q y0 h0
    rw [hk.out] at h
    exact h
  have hlx : decide (65536 < (xs.length : Int)) = false := decide_eq_false (by omega)
  obtain ⟨ao, cap, rfl, _⟩ := hv
  go_enter Tryz.func43, Tryz.ntmps43
  go_wp2_with (first
    | (go_at_call 54; refine hread.mono ?_; rintro e w1 ⟨r, g, rfl, hr1, hk1, hrs, hgs⟩
       have HR1 : Hid (Rdr w1 r g xs 0 0) := hr1
       have HK1 : Hid (Kept [] w w1) := hk1
       clear hr1 hk1)
    | (go_at_call 55; refine (HU8.out _ r g HR1.out).mono ?_; rintro e w2 ⟨rfl, hr2, hk2⟩
       have HK2 : Hid (Kept [] w w2) := kept_new HK1.out hk2 hrs
       clear hr2 hk2))
  refine bodyPost_ret (v := .tuple #[.nilIface, .int .i64 30]) (by simp [results, Tryz.results43, go_sem]) rfl ⟨HK2.out, rfl⟩

end Go.Proofs.YtbphibolgckmnaaGreatDoor

namespace Go.Proofs.YtbphibolgckmnaaGreatDoor
open Go.RowKit

set_option maxRecDepth 100000 in
set_option maxHeartbeats 2000000 in
theorem readLongA [TabC] (v : Value) (xs : List Int) (w : World) (hf : ∃ ao c, v = .slice ao xs.length c) (hl : 65536 < xs.length) : Calls Tryz.prog 43 #[v] w (ReadA w xs) := by
  have hp : parErr xs = 31 := by unfold parErr; rw [if_pos hl]
  have HF : Hid (∀ e W, e = .returned (.tuple #[.nilIface, .int .i64 31]) → Kept [] w W → ReadA w xs e W) := fun e W he hk => readA_bad hk hp (by decide) he
  obtain ⟨ao, cap, rfl⟩ := hf
  have hlx : decide (65536 < (xs.length : Int)) = true := decide_eq_true (by omega)
  clear hp
  go_enter Tryz.func43, Tryz.ntmps43
  go_wp2
  exact bodyPost_ret (v := .tuple #[.nilIface, .int .i64 31]) (by simp [results, Tryz.results43, go_sem]) rfl (HF.out _ _ rfl (Kept.refl _ _))

set_option maxRecDepth 100000 in
set_option maxHeartbeats 2000000 in
theorem readBlobA [TabC] (v : Value) (xs : List Int) (w : World) (hv : BytesAt w v xs) (ho : Octs xs) (hl : xs.length ≤ 65536) (hk : xAt xs 0 = 1) (hne : xs ≠ []) : Calls Tryz.prog 43 #[v] w (ReadA w xs) := by
  have hread := Read_any v xs w hv (by omega) ho
  have hpos := List.length_pos_iff.2 hne
  have h0 := take_first ho hne
  rw [hk] at h0
  have HU8 : Hid (∀ W r g, Rdr W r g xs 0 0 → Calls Tryz.prog 55 #[.pointer (some ⟨r, 0, none⟩)] W fun e w' => e = .returned (.int .u8 1) ∧ Rdr w' r g xs 1 0 ∧ Kept [r] W w') := fun W r g q => U8_any q ⟨1, [], 1, 0⟩ h0.symm
  have hdl : (xs.drop 1).length = xs.length - 1 := List.length_drop
  have hb := back_raw xs 1 (xs.drop 1) [] (by rw [List.append_nil])
  have HRAW : Hid (∀ W r g, Rdr W r g xs 1 0 → Calls Tryz.prog 56 #[.pointer (some ⟨r, 0, none⟩), .int .i64 ((xs.length : Int) - 1)] W fun e w' => ∃ q, e = .returned (.slice (some ⟨q, 0, none⟩) (xs.length - 1) (xs.length - 1)) ∧ BytesAt w' (.slice (some ⟨q, 0, none⟩) (xs.length - 1) (xs.length - 1)) (xs.drop 1) ∧ W.heap.size ≤ q ∧ Rdr w' r g xs xs.length 0 ∧ Kept [r] W w') := fun W r g q => by
    have h := Raw_any q ((xs.length : Int) - 1) (by omega) ⟨0, xs.drop 1, 1 + (xs.drop 1).length, 0⟩ (by show _ = _; rw [← hb, hdl]; congr 1; omega)
    refine h.mono ?_
    rintro e w' ⟨q1, he, hrow, hq, hR, hk⟩
    dsimp only at he hrow hR
    have hbb := row_bytes' hrow
    rw [hdl] at he hbb hR
    rw [show 1 + (xs.length - 1) = xs.length by omega] at hR
    exact ⟨q1, he, hbb, hq, hR, hk⟩
  have HEND : Hid (∀ W r g, Rdr W r g xs xs.length 0 → Calls Tryz.prog 61 #[.pointer (some ⟨r, 0, none⟩)] W fun e w' => e = .returned (.int .i64 0) ∧ ∃ n, w' = W.drewN n) := fun W r g q => by
    have h := End_any q (by decide)
    rw [if_neg (by decide), if_neg (by omega)] at h
    exact h
  have HFB : Hid (∀ W v, BytesAt W v (xs.drop 1) → Calls Tryz.prog 135 #[v] W fun e w' => e = .returned (.int .i64 0) ∧ Kept [] W w') := fun W v hvb => by
    have h := blobFault_any v (xs.drop 1) W hvb (by omega)
    rw [show faultB (xs.drop 1) = 0 from if_neg (by omega)] at h
    exact h
  have hm1 := meth_blob_fault
  have hp := parErr_kind (xs := xs) (by omega) (by omega)
  rw [if_pos (gok_blob hk hne)] at hp
  have HF : Hid (∀ e W q, e = .returned (.tuple #[.iface 110 (.slice (some ⟨q, 0, none⟩) (xs.length - 1) (xs.length - 1)), .int .i64 0]) → Kept [] w W → BytesAt W (.slice (some ⟨q, 0, none⟩) (xs.length - 1) (xs.length - 1)) (xs.drop 1) → w.heap.size ≤ q → ReadA w xs e W) := fun e W q he hkp hbt hq => by
    refine ⟨hkp, fun h => absurd hp h, fun _ => ⟨.slice (some ⟨q, 0, none⟩) (xs.length - 1) (xs.length - 1), nilV, nilV, ?_, ?_, fun b hb => ?_⟩⟩
    · rw [guessO_blob hk]; exact he
    · rw [guessO_blob hk]
      exact ⟨(by decide : (-9223372036854775808 : Int) ≤ 1), (by decide : (1 : Int) ≤ 9223372036854775807), hbt, ⟨octs_drop ho 1, by show (xs.drop 1).length ≤ _; omega⟩, ents_nil W, (fun e he => by cases he), ids_nil W, zeroC_good, zeroG_good⟩
    · rw [guessO_blob hk] at hb
      rcases hb with h | h | h
      · have e : q = b := by simpa [blkOf] using h
        omega
      · cases h
      · cases h
  have hlx : decide (65536 < (xs.length : Int)) = false := decide_eq_false (by omega)
  obtain ⟨ao, cap, rfl, _⟩ := hv
  clear hp hb h0 ho hdl
  go_enter Tryz.func43, Tryz.ntmps43
  go_wp2_with (first
    | (go_at_call 54; refine hread.mono ?_; rintro e w1 ⟨r, g, rfl, hr1, hk1, hrs, hgs⟩
       have HR1 : Hid (Rdr w1 r g xs 0 0) := hr1
       have HK1 : Hid (Kept [] w w1) := hk1
       clear hr1 hk1)
    | (go_at_call 55; refine (HU8.out _ r g HR1.out).mono ?_; rintro e w2 ⟨rfl, hr2, hk2⟩
       have HR2 : Hid (Rdr w2 r g xs 1 0) := hr2
       have HK2 : Hid (Kept [] w w2) := kept_new HK1.out hk2 hrs
       have hlf := Left_any hr2
       clear hr2 hk2)
    | (go_at_call 57; refine hlf.mono ?_; rintro e w3 ⟨rfl, n3, hw3⟩
       have kd : Kept [] w2 w3 := by rw [hw3]; exact (Kept.refl [] w2).drewN n3
       have HR3 : Hid (Rdr w3 r g xs 1 0) := HR2.out.kept kd (by simp) (by simp)
       have HK3 : Hid (Kept [] w w3) := HK2.out.then kd
       clear hlf kd hw3)
    | (go_at_call 56; refine (HRAW.out _ r g HR3.out).mono ?_; rintro e w4 ⟨q, rfl, hb4, hq4, hr4, hk4⟩
       have HR4 : Hid (Rdr w4 r g xs xs.length 0) := hr4
       have HB4 : Hid (BytesAt w4 (.slice (some ⟨q, 0, none⟩) (xs.length - 1) (xs.length - 1)) (xs.drop 1)) := hb4
       have HQ4 : Hid (w.heap.size ≤ q) := Nat.le_trans HK3.out.size hq4
       have HK4 : Hid (Kept [] w w4) := kept_new HK3.out hk4 hrs
       clear hr4 hk4 hb4 hq4)
    | (go_at_call 61; refine (HEND.out _ r g HR4.out).mono ?_; rintro e w5 ⟨rfl, n5, hw5⟩
       have kd5 : Kept [] w4 w5 := by rw [hw5]; exact (Kept.refl [] w4).drewN n5
       have HK5 : Hid (Kept [] w w5) := HK4.out.then kd5
       have HB5 : Hid (BytesAt w5 (.slice (some ⟨q, 0, none⟩) (xs.length - 1) (xs.length - 1)) (xs.drop 1)) := HB4.out.keep kd5 (fun _ _ _ => by simp)
       clear kd5 hw5)
    | (go_at_call 135; refine (HFB.out _ _ HB5.out).mono ?_; rintro e w6 ⟨rfl, hk6⟩
       have HK6 : Hid (Kept [] w w6) := HK5.out.then hk6
       have HB6 : Hid (BytesAt w6 (.slice (some ⟨q, 0, none⟩) (xs.length - 1) (xs.length - 1)) (xs.drop 1)) := HB5.out.keep hk6 (fun _ _ _ => by simp)
       clear hk6))
  refine bodyPost_ret (v := .tuple #[.iface 110 (.slice (some ⟨q, 0, none⟩) (xs.length - 1) (xs.length - 1)), .int .i64 0]) (by simp [results, Tryz.results43, go_sem]) rfl (HF.out _ _ q rfl HK6.out HB6.out HQ4.out)

theorem read_any [TabC] (v : Value) (xs : List Int) (w : World) (hv : BytesAt w v xs) (ho : Octs xs) (hT : Tabs w) : Calls Tryz.prog 43 #[v] w (ReadA w xs) := by
  by_cases hl : 65536 < xs.length
  · obtain ⟨ao, cap, hvf, _⟩ := hv
    exact readLongA v xs w ⟨ao, cap, hvf⟩ hl
  · by_cases hne : xs = []
    · have h0 : xAt xs 0 = 0 := by rw [hne]; rfl
      have hp : parErr xs = 30 := by unfold parErr; rw [if_neg hl, if_pos (by omega)]
      refine (readKind v xs w hv ho (by omega) _ rfl 0 (by show (takeL xs 0 0 0 1 0).n = 0; rw [hne]; rfl) (by decide) (by decide) (by decide) (by decide)).mono ?_
      rintro e w' ⟨hk, he⟩
      exact readA_bad hk hp (by decide) he
    · by_cases hk : 1 ≤ xAt xs 0 ∧ xAt xs 0 ≤ 4
      · by_cases k1 : xAt xs 0 = 1
        · exact readBlobA v xs w hv ho (by omega) k1 hne
        · by_cases k2 : xAt xs 0 = 2
          · exact readTreeA v xs w hv ho (by omega) hT k2 hne
          · by_cases k3 : xAt xs 0 = 3
            · exact readComA v xs w hv ho (by omega) hT k3 hne
            · exact readTagA v xs w hv ho (by omega) hT (by omega) hne
      · have hp : parErr xs = 30 := by unfold parErr; rw [if_neg hl, if_pos hk]
        refine (readKind v xs w hv ho (by omega) _ rfl (xAt xs 0) (by show (takeL xs 0 0 0 1 0).n = xAt xs 0; rw [take_first ho hne]) (by omega) (by omega) (by omega) (by omega)).mono ?_
        rintro e w' ⟨hk, he⟩
        exact readA_bad hk hp (by decide) he
end Go.Proofs.YtbphibolgckmnaaGreatDoor
