/-
  WALK: digest.half, for every id.
  WALKS: digest.Hex, for every id.
  PLAIN: digits there and back.
  WALKS: digest.half, digest.value, satchellaw2.small, for every id and letter.
-/
import Derived.Test.YtddhhjgegkkjbaaGreatDoorPlain
import Derived.Test.YtddhhjgegkkjbaaGreatDoorSha2
import Derived.Laws.BytesArg
import Derived.Test.YtddhhjgegkkjbaaGreatDoorIdEq
import Derived.Test.YtddhhjgegkkjbaaGreatDoorRowP
namespace Go.Proofs.YtddhhjgegkkjbaaGreatDoor
open Go.RowKit

/-- The number of the digit at place k. -/
def halfL (bs : List Int) (k : Nat) : Int := if k % 2 = 0 then (bs[k / 2]?.getD 0) / 16 else (bs[k / 2]?.getD 0) % 16

theorem and15 (m : Int) (h0 : 0 ≤ m) (h1 : m ≤ 255) : bits .and .u8 m 15 = m % 16 := by
  obtain ⟨n, rfl⟩ : ∃ n : Nat, m = (n : Int) := ⟨m.toNat, by omega⟩
  have h := u8_and_nat n 15 (by omega) (by decide)
  rw [show ((15 : Nat) : Int) = 15 from rfl] at h
  rw [h, show (15 : Nat) = 2 ^ 4 - 1 from rfl, Nat.and_two_pow_sub_one_eq_mod]
  omega

set_option maxHeartbeats 1000000 in
theorem half_any (bs : List Int) (w : World) (hl : bs.length = 32) (ho : Octs bs) (k : Nat) (hk : k < 64) :
    Calls Tryz.prog 29 #[.agg (idC bs), .int .i64 k] w fun e w' => e = .returned (.int .u8 (halfL bs k)) ∧ Kept [] w w' := by
  have g1 := idC_get (bs := bs) (j := k / 2) (by omega)
  have hz := octs_getD ho (k / 2)
  have r1 : Int.tmod (k : Int) 2 = ((k % 2 : Nat) : Int) := by rw [Int.tmod_eq_emod_of_nonneg (by omega)]; omega
  have r2 : Int.tdiv (k : Int) 2 = ((k / 2 : Nat) : Int) := by rw [Int.tdiv_eq_ediv_of_nonneg (by omega)]; omega
  have hv : halfL bs k = if k % 2 = 0 then (bs[k / 2]?.getD 0) / 16 else (bs[k / 2]?.getD 0) % 16 := rfl
  rw [hv]
  have j0 : k / 2 < 32 := by omega
  generalize bs[k / 2]?.getD 0 = z at *
  have a15 := and15 z hz.1 hz.2
  generalize k / 2 = j at *
  have i1 : (0 : Int) ≤ (j : Int) := by omega
  have i2 : (j : Int) < 32 := by omega
  generalize idC bs = cs at *
  by_cases hp : k % 2 = 0
  · rw [if_pos hp]
    rw [hp] at r1
    go_enter Tryz.func29, Tryz.ntmps29
    go_wp2
    go_ret
    exact ⟨rfl, (Kept.refl _ _).alloc _⟩
  · rw [if_neg hp]
    rw [show k % 2 = 1 by omega] at r1
    go_enter Tryz.func29, Tryz.ntmps29
    go_wp2
    go_ret
    exact ⟨rfl, (Kept.refl _ _).alloc _⟩
end Go.Proofs.YtddhhjgegkkjbaaGreatDoor

namespace Go.Proofs.YtddhhjgegkkjbaaGreatDoor
open Go.RowKit

/-- The letter of a digit; the digits of an id. -/
def digitL (n : Int) : Int := if n < 10 then 48 + n else 87 + n
def hexL (bs : List Int) : List Int := (List.range 64).map fun k => digitL (halfL bs k)

theorem hexL_len (bs : List Int) : (hexL bs).length = 64 := by simp [hexL]
theorem hexL_get (bs : List Int) (k : Nat) (h : k < 64) : (hexL bs)[k]?.getD 0 = digitL (halfL bs k) := by
  unfold hexL
  rw [List.getElem?_map, List.getElem?_range h]
  rfl
theorem halfL_fits (bs : List Int) (ho : Octs bs) (k : Nat) : 0 ≤ halfL bs k ∧ halfL bs k < 16 := by
  have := octs_getD ho (k / 2)
  unfold halfL
  split <;> omega
theorem digit_index (n : Int) (h0 : 0 ≤ n) (h1 : n < 16) (w : World) :
    (Instr.index 9 (.string { data := #[48, 49, 50, 51, 52, 53, 54, 55, 56, 57, 97, 98, 99, 100, 101, 102] }) (.int .u8 n)).run Tryz.prog w = .ok (.int .u8 (digitL n)) w := by
  have h : n = 0 ∨ n = 1 ∨ n = 2 ∨ n = 3 ∨ n = 4 ∨ n = 5 ∨ n = 6 ∨ n = 7 ∨ n = 8 ∨ n = 9 ∨ n = 10 ∨ n = 11 ∨ n = 12 ∨ n = 13 ∨ n = 14 ∨ n = 15 := by omega
  rw [run_index_string w _ _ _ _ Tryz.underlying9]
  rcases h with rfl | rfl | rfl | rfl | rfl | rfl | rfl | rfl | rfl | rfl | rfl | rfl | rfl | rfl | rfl | rfl <;> rfl
theorem kept_rep : madeCells #[.int .u8 0] 64 = (List.replicate 64 (Value.int .u8 0)).toArray := by
  rw [← toList_madeCells_one]

set_option maxRecDepth 100000 in
set_option maxHeartbeats 1000000 in
theorem Hex_any (bs : List Int) (w : World) (hl : bs.length = 32) (ho : Octs bs) :
    Calls Tryz.prog 14 #[.agg (idC bs)] w fun e w' => e = .returned (.string (strOfNums (hexL bs))) ∧ Kept [] w w' := by
  have hmk : ∀ W : World, (Instr.makeSlice 37 (.int .i64 64) (.int .i64 64)).run Tryz.prog W = .ok (.slice (some ⟨W.heap.size, 0, none⟩) 64 64) (W.alloc (.cells (madeCells #[.int .u8 0] 64) 5)) := run_make_row' (P := Tryz.prog) 37 5 (.int .u8 0) 1 Tryz.underlying37 Tryz.info_u8 rfl .i64 .i64 64 (by omega) (by omega)
  have hsz : (Tryz.prog.info? 36).map (·.size) = some (idC bs).size := by rw [idC_size hl]; exact Tryz.infoID
  have HH : Hid (∀ W (k : Nat), k < 64 → Calls Tryz.prog 29 #[.agg (idC bs), .int .i64 k] W fun e w' => e = .returned (.int .u8 (halfL bs k)) ∧ Kept [] W w') := fun W k hk => half_any bs W hl ho k hk
  have HF : Hid (∀ k, 0 ≤ halfL bs k ∧ halfL bs k < 16) := halfL_fits bs ho
  have HG : Hid (∀ k, k < 64 → (hexL bs)[k]?.getD 0 = digitL (halfL bs k)) := hexL_get bs
  have hlen := hexL_len bs
  generalize hexL bs = hs at *
  generalize idC bs = cs at *
  go_enter Tryz.func14, Tryz.ntmps14
  go_wp2
  go_loopw [8] (fun i wr => ∃ k : Nat, k ≤ 64 ∧ i = .int .i64 k ∧ Hid (wr.heap[w.heap.size]? = some (.cells cs 36 (0, 0))) ∧ Hid (wr.heap[w.heap.size + 1]? = some (.cells ((hs.take k ++ (List.replicate 64 0).drop k).map (Value.int .u8)).toArray 5 (0, 0))) ∧ Kept [] w wr) (fun i _ => 64 - (intOf i).toNat)
  case atStart =>
    refine ⟨0, Nat.zero_le _, rfl, ?_, ?_, ((Kept.refl _ _).alloc _).alloc _⟩
    · have h := Below.heap_alloc (w.alloc (.cells cs 36)) (.cells (madeCells #[.int .u8 0] 64) 5) w.heap.size (by simp)
      exact h.trans (heap_alloc_new w _)
    · have h := heap_alloc2_new w (.cells cs 36) (.cells (madeCells #[.int .u8 0] 64) 5)
      have e : madeCells #[.int .u8 0] 64 = ((hs.take 0 ++ (List.replicate 64 0).drop 0).map (Value.int .u8)).toArray := by
        rw [List.take_zero, List.nil_append, List.drop_zero, List.map_replicate]
        exact kept_rep
      exact h.trans (by rw [e])
  case round =>
    obtain ⟨k, hk, rfl, H0, H1, hkw⟩ := hrel
    by_cases hlt : k < 64
    · have hh := HF.out k
      have hhc := HH.out wr k hlt
      have hg := HG.out k hlt
      generalize halfL bs k = n at *
      have hix := fun W => digit_index n hh.1 hh.2 W
      have hcell : ∀ W : World, W.heap[w.heap.size + 1]? = some (.cells ((hs.take k ++ (List.replicate 64 0).drop k).map (Value.int .u8)).toArray 5 (0, 0)) → ∃ u, W.cell? ⟨w.heap.size + 1, k, none⟩ = some u := by
        intro W hW
        rw [cell_of_row _ _ _ _ _ _ hW]
        exact ⟨_, Array.getElem?_eq_getElem (by simp; omega)⟩
      have hb0 := lt_of_block H0.out
      have hb1 := lt_of_block H1.out
      go_wp2_with (first
        | (refine wpList_load_row rfl 36 (.tmp 1) rfl w.heap.size rfl 36 cs (0, 0) _ H0.out Tryz.underlying36 rfl hsz ?_)
        | (go_at_call 29; refine hhc.mono ?_; rintro e w2 ⟨rfl, hk2⟩
           have H02 : Hid _ := hk2.heap H0.out (by simp)
           have H12 : Hid (w2.heap[w.heap.size + 1]? = some (.cells ((hs.take k ++ (List.replicate 64 0).drop k).map (Value.int .u8)).toArray 5 (0, 0))) := hk2.heap H1.out (by simp)
           obtain ⟨u1, c1⟩ := hcell w2 H12.out
           have f1 := frozen_of_row w2 (w.heap.size + 1) k _ _ H12.out
           skip))
      go_roundw
      case rel =>
        refine ⟨k + 1, by omega, by go_num, (heap_setCell_other _ _ _ _ (by simp)).trans H02.out, ?_, (hkw.then hk2).setCell (Or.inr (by simp)) _⟩
        have h := row_put H12.out k (digitL n)
        rw [← hg, mid_put hs _ k (by omega) (by simp; omega)] at h
        rw [hg] at h
        exact h
      case measure => simp [intOf]; omega
    · obtain rfl : k = 64 := by omega
      have hcv := (row_bytes' H1.out).conv
      rw [List.take_of_length_le (by omega), List.drop_eq_nil_of_le (by simp), List.append_nil, hlen] at hcv
      go_wp2
      go_ret
      exact ⟨rfl, hkw⟩
end Go.Proofs.YtddhhjgegkkjbaaGreatDoor

namespace Go.Proofs.YtddhhjgegkkjbaaGreatDoor
open Go.RowKit

/-- The value of a digit, and whether it is one. -/
def valL (c : Int) : Int := if 48 ≤ c ∧ c ≤ 57 then c - 48 else if 97 ≤ c ∧ c ≤ 102 then c - 87 else 0
def isDigit (c : Int) : Prop := 48 ≤ c ∧ c ≤ 57 ∨ 97 ≤ c ∧ c ≤ 102
instance (c : Int) : Decidable (isDigit c) := inferInstanceAs (Decidable (48 ≤ c ∧ c ≤ 57 ∨ 97 ≤ c ∧ c ≤ 102))

/-- What the digit at place i of the first k adds; the id that the first k digits begin. -/
def vAt (ds : List Int) (k i : Nat) : Int := if i < k then valL (ds[i]?.getD 0) else 0
def begL (ds : List Int) (k : Nat) : List Int := (List.range 32).map fun j => 16 * vAt ds k (2 * j) + vAt ds k (2 * j + 1)

theorem begL_len (ds : List Int) (k : Nat) : (begL ds k).length = 32 := by simp [begL]
theorem begL_get (ds : List Int) (k j : Nat) (h : j < 32) : (begL ds k)[j]?.getD 0 = 16 * vAt ds k (2 * j) + vAt ds k (2 * j + 1) := by
  unfold begL
  rw [List.getElem?_map, List.getElem?_range h]
  rfl
theorem valL_fits (c : Int) : 0 ≤ valL c ∧ valL c < 16 := by unfold valL; split <;> (try split) <;> omega
theorem vAt_fits (ds : List Int) (k i : Nat) : 0 ≤ vAt ds k i ∧ vAt ds k i < 16 := by
  unfold vAt
  split
  · exact valL_fits _
  · omega
theorem begL_zero (ds : List Int) : begL ds 0 = zero32 := by
  unfold begL vAt zero32
  simp
  rfl
theorem begL_succ (ds : List Int) (k : Nat) (h : k < 64) :
    begL ds (k + 1) = (begL ds k).set (k / 2) ((begL ds k)[k / 2]?.getD 0 + (if k % 2 = 0 then 16 * valL (ds[k]?.getD 0) else valL (ds[k]?.getD 0))) := by
  apply List.ext_getElem?
  intro j
  by_cases hj : j < 32
  · have e1 : (begL ds (k + 1))[j]? = some (16 * vAt ds (k + 1) (2 * j) + vAt ds (k + 1) (2 * j + 1)) := by
      unfold begL; rw [List.getElem?_map, List.getElem?_range hj]; rfl
    have e2 : (begL ds k)[j]? = some (16 * vAt ds k (2 * j) + vAt ds k (2 * j + 1)) := by
      unfold begL; rw [List.getElem?_map, List.getElem?_range hj]; rfl
    rw [e1, List.getElem?_set, begL_len, begL_get ds k (k / 2) (by omega), e2]
    by_cases hk : k / 2 = j
    · subst hk
      rw [if_pos rfl, if_pos (by omega)]
      congr 1
      by_cases hp : k % 2 = 0
      · rw [if_pos hp]
        have a : 2 * (k / 2) = k := by omega
        unfold vAt
        rw [a, if_pos (by omega), if_neg (by omega), if_neg (by omega), if_neg (by omega)]
        omega
      · rw [if_neg hp]
        have a : 2 * (k / 2) + 1 = k := by omega
        unfold vAt
        rw [a, if_pos (by omega), if_pos (by omega), if_pos (by omega), if_neg (by omega)]
        omega
    · rw [if_neg hk]
      congr 1
      unfold vAt
      have a1 : (2 * j < k + 1) = (2 * j < k) := by apply propext; omega
      have a2 : (2 * j + 1 < k + 1) = (2 * j + 1 < k) := by apply propext; omega
      simp only [a1, a2]
  · rw [List.getElem?_eq_none (by rw [begL_len]; omega), List.getElem?_eq_none (by rw [List.length_set, begL_len]; omega)]
theorem digit_is (n : Int) (h0 : 0 ≤ n) (h1 : n < 16) : isDigit (digitL n) ∧ valL (digitL n) = n ∧ 0 ≤ digitL n ∧ digitL n ≤ 255 := by
  unfold digitL
  split
  · refine ⟨Or.inl (by omega), ?_, by omega, by omega⟩
    unfold valL
    rw [if_pos (by omega)]
    omega
  · refine ⟨Or.inr (by omega), ?_, by omega, by omega⟩
    unfold valL
    rw [if_neg (by omega), if_pos (by omega)]
    omega
theorem hexL_mem (bs : List Int) (ho : Octs bs) : ∀ c ∈ hexL bs, isDigit c ∧ 0 ≤ c ∧ c ≤ 255 := by
  intro c hc
  unfold hexL at hc
  obtain ⟨k, _, rfl⟩ := List.mem_map.1 hc
  have h := halfL_fits bs ho k
  have h2 := digit_is _ h.1 h.2
  exact ⟨h2.1, h2.2.2⟩
theorem beg_hex (bs : List Int) (hl : bs.length = 32) (ho : Octs bs) : begL (hexL bs) 64 = bs := by
  apply List.ext_getElem?
  intro j
  by_cases hj : j < 32
  · unfold begL
    rw [List.getElem?_map, List.getElem?_range hj, List.getElem?_eq_getElem (show j < bs.length by omega)]
    simp only [Option.map_some]
    congr 1
    unfold vAt
    rw [if_pos (by omega), if_pos (by omega), hexL_get bs (2 * j) (by omega), hexL_get bs (2 * j + 1) (by omega)]
    have h1 := halfL_fits bs ho (2 * j)
    have h2 := halfL_fits bs ho (2 * j + 1)
    rw [(digit_is _ h1.1 h1.2).2.1, (digit_is _ h2.1 h2.2).2.1]
    unfold halfL
    rw [if_pos (by omega), if_neg (by omega), show 2 * j / 2 = j by omega, show (2 * j + 1) / 2 = j by omega, List.getElem?_eq_getElem (show j < bs.length by omega)]
    have := ho bs[j] (List.getElem_mem _)
    simp only [Option.getD_some]
    omega
  · rw [List.getElem?_eq_none (by rw [begL_len]; omega), List.getElem?_eq_none (by omega)]
end Go.Proofs.YtddhhjgegkkjbaaGreatDoor

namespace Go.Proofs.YtddhhjgegkkjbaaGreatDoor
open Go.RowKit

set_option maxHeartbeats 1000000 in
theorem value_any (c : Int) (w : World) (h0 : 0 ≤ c) (h1 : c ≤ 255) :
    Calls Tryz.prog 60 #[.int .u8 c] w fun e w' => e = .returned (.tuple #[.int .u8 (valL c), .bool (decide (isDigit c))]) ∧ w' = w := by
  by_cases a1 : 48 ≤ c ∧ c ≤ 57
  · rw [show valL c = c - 48 from if_pos a1, decide_eq_true (show isDigit c from Or.inl a1)]
    obtain ⟨a1, a2⟩ := a1
    have r1 : IntKind.u8.wrap (c - 48) = c - 48 := by rw [IntKind.wrap_u8']; omega
    go_enter Tryz.func60, Tryz.ntmps60
    go_wp2
    exact bodyPost_ret (v := .tuple #[.int .u8 (c - 48), .bool true]) (by simp [results, Tryz.results60, go_sem]) rfl ⟨rfl, rfl⟩
  · by_cases a3 : 97 ≤ c ∧ c ≤ 102
    · rw [show valL c = c - 87 from (if_neg a1).trans (if_pos a3), decide_eq_true (show isDigit c from Or.inr a3)]
      obtain ⟨a3, a4⟩ := a3
      have a2 : ¬ c ≤ 57 := by omega
      have a5 : 48 ≤ c := by omega
      have r1 : IntKind.u8.wrap (c - 97) = c - 97 := by rw [IntKind.wrap_u8']; omega
      have r2 : IntKind.u8.wrap (c - 97 + 10) = c - 87 := by rw [IntKind.wrap_u8']; omega
      clear a1
      go_enter Tryz.func60, Tryz.ntmps60
      go_wp2
      exact bodyPost_ret (v := .tuple #[.int .u8 (c - 87), .bool true]) (by simp [results, Tryz.results60, go_sem]) rfl ⟨rfl, rfl⟩
    · rw [show valL c = 0 from (if_neg a1).trans (if_neg a3), decide_eq_false (show ¬ isDigit c by unfold isDigit; omega)]
      by_cases a5 : 48 ≤ c
      · have a2 : ¬ c ≤ 57 := fun h => a1 ⟨a5, h⟩
        by_cases a6 : 97 ≤ c
        · have a4 : ¬ c ≤ 102 := fun h => a3 ⟨a6, h⟩
          clear a1 a3
          go_enter Tryz.func60, Tryz.ntmps60
          go_wp2
          exact bodyPost_ret (v := .tuple #[.int .u8 (0), .bool false]) (by simp [results, Tryz.results60, go_sem]) rfl ⟨rfl, rfl⟩
        · clear a1 a3
          go_enter Tryz.func60, Tryz.ntmps60
          go_wp2
          exact bodyPost_ret (v := .tuple #[.int .u8 (0), .bool false]) (by simp [results, Tryz.results60, go_sem]) rfl ⟨rfl, rfl⟩
      · have a6 : ¬ 97 ≤ c := by omega
        clear a1 a3
        go_enter Tryz.func60, Tryz.ntmps60
        go_wp2
        exact bodyPost_ret (v := .tuple #[.int .u8 (0), .bool false]) (by simp [results, Tryz.results60, go_sem]) rfl ⟨rfl, rfl⟩
end Go.Proofs.YtddhhjgegkkjbaaGreatDoor
