/-
  WALKS: digest.Hex, for every id.
-/
import Derived.Test.YtonnapjbplknlaaHalf
import Derived.Test.YtonnapjbplknlaaConv
namespace Go.Proofs.Ytonnapjbplknlaa
open Go.RowKit

/-- The letter of a digit; the digits of an id. -/
def digitL (n : Int) : Int := if n < 10 then 48 + n else 87 + n
def hexL (bs : List Int) : List Int := (List.range 64).map fun k => digitL (halfL bs k)

theorem hexL_len (bs : List Int) : (hexL bs).length = 64 := by simp [hexL]
theorem hexL_get (bs : List Int) (k : Nat) (h : k < 64) : (hexL bs)[k]?.getD 0 = digitL (halfL bs k) := by
  unfold hexL
  rw [List.getElem?_map, List.getElem?_range h]
  rfl
theorem halfL_fits (bs : List Int) (ho : Octs bs) (k : Nat) : 0 ≤ halfL bs k ∧ halfL bs k < 16 := by
  have := octs_getD ho (k / 2)
  unfold halfL
  split <;> omega
theorem digit_index (n : Int) (h0 : 0 ≤ n) (h1 : n < 16) (w : World) :
    (Instr.index 9 (.string { data := #[48, 49, 50, 51, 52, 53, 54, 55, 56, 57, 97, 98, 99, 100, 101, 102] }) (.int .u8 n)).run Try.prog w = .ok (.int .u8 (digitL n)) w := by
  have h : n = 0 ∨ n = 1 ∨ n = 2 ∨ n = 3 ∨ n = 4 ∨ n = 5 ∨ n = 6 ∨ n = 7 ∨ n = 8 ∨ n = 9 ∨ n = 10 ∨ n = 11 ∨ n = 12 ∨ n = 13 ∨ n = 14 ∨ n = 15 := by omega
  rw [run_index_string w _ _ _ _ Try.underlying9]
  rcases h with rfl | rfl | rfl | rfl | rfl | rfl | rfl | rfl | rfl | rfl | rfl | rfl | rfl | rfl | rfl | rfl <;> rfl
theorem mid_put (zs ys : List Int) (k : Nat) (h : k < zs.length) (hl : ys.length = zs.length) : (zs.take k ++ ys.drop k).set k (zs[k]?.getD 0) = zs.take (k + 1) ++ ys.drop (k + 1) := by
  have hk : (zs.take k).length = k := by simp; omega
  rw [List.set_append_right _ _ (by omega), hk, Nat.sub_self, List.drop_eq_getElem_cons (show k < ys.length by omega), List.set_cons_zero, List.getElem?_eq_getElem h, List.take_succ_eq_append_getElem h, List.append_assoc]
  rfl
theorem row_put {w : World} {g : Nat} {l : List Int} (h : w.heap[g]? = some (.cells (l.map (Value.int .u8)).toArray 5 (0, 0))) (k : Nat) (x : Int) :
    (w.setCell ⟨g, k, none⟩ (.int .u8 x)).heap[g]? = some (.cells ((l.set k x).map (Value.int .u8)).toArray 5 (0, 0)) := by
  rw [heap_setCell_same _ _ _ _ _ _ h]
  simp [List.map_set]
theorem row_bytes' {w : World} {q : Nat} {ys : List Int} (h : w.heap[q]? = some (.cells (ys.map (Value.int .u8)).toArray 5 (0, 0))) : BytesAt w (.slice (some ⟨q, 0, none⟩) ys.length ys.length) ys := by
  refine ⟨_, _, rfl, Nat.le_refl _, fun e => (by simp at e), fun _ => ⟨q, 0, rfl, fun i u hu => ?_⟩⟩
  rw [cell_of_row _ _ _ _ _ _ h, Nat.zero_add, ← Array.getElem?_toList]
  simp [hu]

theorem kept_rep : madeCells #[.int .u8 0] 64 = (List.replicate 64 (Value.int .u8 0)).toArray := by
  rw [← toList_madeCells_one]
theorem Try.infoID : (Try.prog.info? 24).map (·.size) = some 32 := by kernel_rfl
theorem idC_size {bs : List Int} (h : bs.length = 32) : (idC bs).size = 32 := by simp [idC, h]

set_option maxRecDepth 100000 in
set_option maxHeartbeats 1000000 in
theorem Hex_any (bs : List Int) (w : World) (hl : bs.length = 32) (ho : Octs bs) :
    Calls Try.prog 8 #[.agg (idC bs)] w fun e w' => e = .returned (.string (strOfNums (hexL bs))) ∧ Kept [] w w' := by
  have hmk : ∀ W : World, (Instr.makeSlice 25 (.int .i64 64) (.int .i64 64)).run Try.prog W = .ok (.slice (some ⟨W.heap.size, 0, none⟩) 64 64) (W.alloc (.cells (madeCells #[.int .u8 0] 64) 5)) := run_make_row' (P := Try.prog) 25 5 (.int .u8 0) 1 Try.underlying25 Try.info_u8 rfl .i64 .i64 64 (by omega) (by omega)
  have hsz : (Try.prog.info? 24).map (·.size) = some (idC bs).size := by rw [idC_size hl]; exact Try.infoID
  have HH : Hid (∀ W (k : Nat), k < 64 → Calls Try.prog 11 #[.agg (idC bs), .int .i64 k] W fun e w' => e = .returned (.int .u8 (halfL bs k)) ∧ Kept [] W w') := fun W k hk => half_any bs W hl ho k hk
  have HF : Hid (∀ k, 0 ≤ halfL bs k ∧ halfL bs k < 16) := halfL_fits bs ho
  have HG : Hid (∀ k, k < 64 → (hexL bs)[k]?.getD 0 = digitL (halfL bs k)) := hexL_get bs
  have hlen := hexL_len bs
  generalize hexL bs = hs at *
  generalize idC bs = cs at *
  go_enter Try.func8, Try.ntmps8
  go_wp2
  go_loopw [8] (fun i wr => ∃ k : Nat, k ≤ 64 ∧ i = .int .i64 k ∧ Hid (wr.heap[w.heap.size]? = some (.cells cs 24 (0, 0))) ∧ Hid (wr.heap[w.heap.size + 1]? = some (.cells ((hs.take k ++ (List.replicate 64 0).drop k).map (Value.int .u8)).toArray 5 (0, 0))) ∧ Kept [] w wr) (fun i _ => 64 - (intOf i).toNat)
  case atStart =>
    refine ⟨0, Nat.zero_le _, rfl, ?_, ?_, ((Kept.refl _ _).alloc _).alloc _⟩
    · have h := Below.heap_alloc (w.alloc (.cells cs 24)) (.cells (madeCells #[.int .u8 0] 64) 5) w.heap.size (by simp)
      exact h.trans (heap_alloc_new w _)
    · have h := heap_alloc2_new w (.cells cs 24) (.cells (madeCells #[.int .u8 0] 64) 5)
      have e : madeCells #[.int .u8 0] 64 = ((hs.take 0 ++ (List.replicate 64 0).drop 0).map (Value.int .u8)).toArray := by
        rw [List.take_zero, List.nil_append, List.drop_zero, List.map_replicate]
        exact kept_rep
      exact h.trans (by rw [e])
  case round =>
    obtain ⟨k, hk, rfl, H0, H1, hkw⟩ := hrel
    by_cases hlt : k < 64
    · have hh := HF.out k
      have hhc := HH.out wr k hlt
      have hg := HG.out k hlt
      generalize halfL bs k = n at *
      have hix := fun W => digit_index n hh.1 hh.2 W
      have hcell : ∀ W : World, W.heap[w.heap.size + 1]? = some (.cells ((hs.take k ++ (List.replicate 64 0).drop k).map (Value.int .u8)).toArray 5 (0, 0)) → ∃ u, W.cell? ⟨w.heap.size + 1, k, none⟩ = some u := by
        intro W hW
        rw [cell_of_row _ _ _ _ _ _ hW]
        exact ⟨_, Array.getElem?_eq_getElem (by simp; omega)⟩
      have hb0 := lt_of_block H0.out
      have hb1 := lt_of_block H1.out
      go_wp2_with (first
        | (refine wpList_load_row rfl 24 (.tmp 1) rfl w.heap.size rfl 24 cs (0, 0) _ H0.out Try.underlying24 rfl hsz ?_)
        | (go_at_call 11; refine hhc.mono ?_; rintro e w2 ⟨rfl, hk2⟩
           have H02 : Hid _ := hk2.heap H0.out (by simp)
           have H12 : Hid (w2.heap[w.heap.size + 1]? = some (.cells ((hs.take k ++ (List.replicate 64 0).drop k).map (Value.int .u8)).toArray 5 (0, 0))) := hk2.heap H1.out (by simp)
           obtain ⟨u1, c1⟩ := hcell w2 H12.out
           have f1 := frozen_of_row w2 (w.heap.size + 1) k _ _ H12.out
           skip))
      go_roundw
      case rel =>
        refine ⟨k + 1, by omega, by go_num, (heap_setCell_other _ _ _ _ (by simp)).trans H02.out, ?_, (hkw.then hk2).setCell (Or.inr (by simp)) _⟩
        have h := row_put H12.out k (digitL n)
        rw [← hg, mid_put hs _ k (by omega) (by simp; omega)] at h
        rw [hg] at h
        exact h
      case measure => simp [intOf]; omega
    · obtain rfl : k = 64 := by omega
      have hcv := (row_bytes' H1.out).conv
      rw [List.take_of_length_le (by omega), List.drop_eq_nil_of_le (by simp), List.append_nil, hlen] at hcv
      go_wp2
      go_ret
      exact ⟨rfl, hkw⟩
end Go.Proofs.Ytonnapjbplknlaa
