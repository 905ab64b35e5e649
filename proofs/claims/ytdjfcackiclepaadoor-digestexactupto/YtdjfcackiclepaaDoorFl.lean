/-
  WALKS: satchellaw2.flip, for a list of one's own; satchellaw2.flipped.
-/
import Derived.Test.YtdjfcackiclepaaDoorRk
namespace Go.Proofs.YtdjfcackiclepaaDoor
open Go.RowKit

/-- A byte turned; a list of them; the first k of a list. -/
def fl1 (x : Int) : Int := bits .xor .u8 x 85
def flL (xs : List Int) : List Int := xs.map fl1
def flK (L : List Int) (k : Nat) : List Int := (L.take k).map fl1 ++ L.drop k
theorem fl1_fits (x : Int) : 0 ≤ fl1 x ∧ fl1 x ≤ 255 := ⟨bits_lo_u8 _ _ _, bits_hi_u8 _ _ _⟩
theorem fl1_twice_nat (n : Nat) (h : n < 256) : fl1 (fl1 (n : Int)) = (n : Int) := by
  have key : (List.range 256).all (fun n => decide (fl1 (fl1 (n : Int)) = (n : Int))) = true := by kernel_rfl
  exact of_decide_eq_true (List.all_eq_true.1 key n (List.mem_range.2 h))
theorem fl1_twice (x : Int) (h0 : 0 ≤ x) (h1 : x ≤ 255) : fl1 (fl1 x) = x := by
  obtain ⟨n, rfl⟩ := Int.eq_ofNat_of_zero_le h0
  exact fl1_twice_nat n (by omega)
theorem flL_octs (xs : List Int) : Octs (flL xs) := fun u hu => by
  obtain ⟨x, _, rfl⟩ := List.mem_map.1 hu
  exact fl1_fits x
theorem flL_twice (xs : List Int) (h : Octs xs) : flL (flL xs) = xs := by
  unfold flL
  rw [List.map_map]
  refine (List.map_congr_left fun x hx => ?_).trans (List.map_id xs)
  exact fl1_twice x (h x hx).1 (h x hx).2
theorem flL_len (xs : List Int) : (flL xs).length = xs.length := by simp [flL]
theorem flK_zero (L : List Int) : flK L 0 = L := by simp [flK]
theorem flK_len (L : List Int) (k : Nat) : (flK L k).length = L.length := by simp [flK]; omega
theorem flK_at (L : List Int) (k : Nat) (h : k < L.length) : at0 (flK L k) k = at0 L k := by
  unfold flK at0
  rw [List.getElem?_append_right (by simp; omega), List.getElem?_drop]
  congr 2
  simp
  omega
theorem flK_succ (L : List Int) (k : Nat) (h : k < L.length) : (flK L k).set k (fl1 (at0 L k)) = flK L (k + 1) := by
  unfold flK
  have hk : ((L.take k).map fl1).length = k := by simp; omega
  rw [List.set_append_right _ _ (by omega), hk, Nat.sub_self, List.drop_eq_getElem_cons h, List.set_cons_zero, List.take_succ_eq_append_getElem h, List.map_append, List.append_assoc]
  simp [at0, List.getElem?_eq_getElem h]
theorem flK_front (xs ms : List Int) : flK (xs ++ ms) xs.length = flL xs ++ ms := by simp [flK, flL]

/-- One byte of a list of one's own is written. -/
theorem OwnB.put {w : World} {B g n cap : Nat} {L : List Int} (h : OwnB w B (.slice (some ⟨g, 0, none⟩) n cap) L) (i : Nat) (x : Int) : OwnB (w.setCell ⟨g, i, none⟩ (.int .u8 x)) B (.slice (some ⟨g, 0, none⟩) n cap) (L.set i x) := by
  rcases h.2 with ⟨hv, _⟩ | ⟨g', cap', cur, hv, hg, hh, hnc, hcm, hcs, htk⟩
  · cases hv
  · cases hv
    refine ⟨by simp, Or.inr ⟨g, cap, cur.setIfInBounds i (.int .u8 x), by rw [List.length_set], hg, heap_setCell_same _ _ _ _ _ _ hh, by rw [List.length_set]; exact hnc, hcm, by simpa using hcs, ?_⟩⟩
    rw [Array.toList_setIfInBounds, List.take_set, List.length_set, htk, List.map_set]
theorem OwnB.frozen {w : World} {B g n cap : Nat} {L : List Int} (h : OwnB w B (.slice (some ⟨g, 0, none⟩) n cap) L) (i : Nat) : w.frozen? ⟨g, i, none⟩ = false := by
  rcases h.2 with ⟨hv, _⟩ | ⟨g', cap', cur, hv, hg, hh, rest⟩
  · cases hv
  · cases hv
    exact frozen_of_row w g i _ _ hh

set_option maxRecDepth 100000 in
set_option maxHeartbeats 2000000 in
theorem flip_any (w : World) (B g N cap m : Nat) (L : List Int) (h : OwnB w B (.slice (some ⟨g, 0, none⟩) N cap) L) (hm : m ≤ L.length) (hmm : m ≤ 140737488355328) (c : Nat) (hmc : m ≤ c) :
    Calls Tryd.prog 14 #[.slice (some ⟨g, 0, none⟩) m c] w fun e w' => e = .returned (.tuple #[]) ∧ OwnB w' B (.slice (some ⟨g, 0, none⟩) N cap) (flK L m) ∧ Kept [g] w w' := by
  have H0 : Hid (OwnB w B (.slice (some ⟨g, 0, none⟩) N cap) L) := h
  clear h
  go_enter Tryd.func14, Tryd.ntmps14
  go_wp2
  go_loopw [2] (fun s2 wr => ∃ k : Nat, k ≤ m ∧ s2 = .int .i64 k ∧ Hid (OwnB wr B (.slice (some ⟨g, 0, none⟩) N cap) (flK L k)) ∧ Hid (Kept [g] w wr)) (fun s2 _ => m - (intOf s2).toNat)
  case atStart => exact ⟨0, Nat.zero_le _, rfl, by rw [flK_zero]; exact H0, Kept.refl _ _⟩
  case round =>
    obtain ⟨k, hk, rfl, HO, HK⟩ := hrel
    by_cases hlt : k < m
    · have hd : decide ((k : Int) < (m : Int)) = true := decide_eq_true (by omega)
      have hkl : k < (flK L k).length := by rw [flK_len]; omega
      have c1 := HO.out.cell k hkl
      rw [flK_at L k (by omega)] at c1
      have f1 := HO.out.frozen k
      have HP : Hid (∀ x, OwnB (wr.setCell ⟨g, k, none⟩ (.int .u8 x)) B (.slice (some ⟨g, 0, none⟩) N cap) ((flK L k).set k x)) := fun x => HO.out.put k x
      have HN : Hid ((flK L k).set k (bits .xor .u8 (at0 L k) 85) = flK L (k + 1)) := flK_succ L k (by omega)
      generalize at0 L k = z at *
      clear hkl
      go_wp2
      go_roundw
      case rel =>
        refine ⟨k + 1, by omega, by go_num, ?_, HK.out.setCell (Or.inl (by simp)) _⟩
        rw [← HN.out]
        exact HP.out _
      case measure => simp [intOf]; omega
    · obtain rfl : k = m := by omega
      go_wp2
      go_end0
      exact ⟨rfl, HO.out, HK.out⟩
theorem flipLent_any (w : World) (B g cap : Nat) (ys : List Int) (h : Lent w B g cap ys) (hm : ys.length ≤ 140737488351232) :
    Calls Tryd.prog 14 #[.slice (some ⟨g, 0, none⟩) ys.length cap] w fun e w' => e = .returned (.tuple #[]) ∧ Lent w' B g cap (flL ys) ∧ Kept [g] w w' := by
  refine (flip_any w B g (ys.length + 3) cap ys.length _ h (by simp) (by omega) cap (by have := h.room; omega)).mono fun e w' hh => ⟨hh.1, ?_, hh.2.2⟩
  have := hh.2.1
  rw [flK_front] at this
  unfold Lent
  rw [flL_len]
  exact this

set_option maxRecDepth 100000 in
set_option maxHeartbeats 2000000 in
theorem flipped_any (w : World) (v : Value) (ys : List Int) (h : BytesAt w v ys) (hm : ys.length ≤ 140737488351232) :
    Calls Tryd.prog 16 #[v] w fun e w' => ∃ g, e = .returned (.slice (some ⟨g, 0, none⟩) ys.length ys.length) ∧ w.heap.size ≤ g ∧ BytesAt w' (.slice (some ⟨g, 0, none⟩) ys.length ys.length) (flL ys) ∧ Kept [] w w' := by
  have HC := Copy0_any v ys w h (by omega)
  obtain ⟨ao, cap, rfl, hc, _, _⟩ := id h
  clear h
  go_enter Tryd.func16, Tryd.ntmps16
  go_wp2_with (first
    | (go_at_call 26; refine HC.mono ?_; rintro e w1 ⟨rfl, hr1, hk1⟩
       have HF := flip_any w1 w.heap.size w.heap.size ys.length ys.length ys.length ys (own_row hr1 (by omega)) (Nat.le_refl _) (by omega) ys.length (Nat.le_refl _)
       have HK1 : Hid (Kept [] w w1) := hk1
       clear hr1 hk1)
    | (go_at_call 14; refine HF.mono ?_; rintro e w2 ⟨rfl, ho2, hk2⟩
       have HO2 : Hid _ := ho2
       have HK2 : Hid (Kept [] w w2) := HK1.out.trans hk2 (fun x hx => Or.inr (by simp at hx; omega))
       clear ho2 hk2))
  go_ret
  refine ⟨_, rfl, Nat.le_refl _, ?_, HK2.out⟩
  have h2 := HO2.out
  have e : flK ys ys.length = flL ys := by simp [flK, flL]
  rw [e] at h2
  exact OwnB.bytes h2
end Go.Proofs.YtdjfcackiclepaaDoor
