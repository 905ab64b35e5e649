/-
  WALKS: digest.Parse, for every text; and what Hex and Parse are to each other.
-/
import Derived.Test.YtnnbfdnkpohnfaaHex2
namespace Go.Proofs.Ytnnbfdnkpohnfaa
open Go.RowKit

theorem zero_lit : (#[Value.int .u8 0, Value.int .u8 0, Value.int .u8 0, Value.int .u8 0, Value.int .u8 0, Value.int .u8 0, Value.int .u8 0, Value.int .u8 0, Value.int .u8 0, Value.int .u8 0, Value.int .u8 0, Value.int .u8 0, Value.int .u8 0, Value.int .u8 0, Value.int .u8 0, Value.int .u8 0, Value.int .u8 0, Value.int .u8 0, Value.int .u8 0, Value.int .u8 0, Value.int .u8 0, Value.int .u8 0, Value.int .u8 0, Value.int .u8 0, Value.int .u8 0, Value.int .u8 0, Value.int .u8 0, Value.int .u8 0, Value.int .u8 0, Value.int .u8 0, Value.int .u8 0, Value.int .u8 0] : Array Value) = idC zero32 := rfl

set_option maxRecDepth 100000 in
set_option maxHeartbeats 2000000 in
theorem Parse_any (ds : List Int) (w : World) (ho : Octs ds) :
    Calls Try.prog 30 #[.string (strOfNums ds)] w fun e w' => Kept [] w w' ∧
      ((ds.length = 64 ∧ ∀ c ∈ ds, isDigit c) → e = .returned (.tuple #[.agg (idC (begL ds ds.length)), .int .i64 0])) ∧
      ((¬ (ds.length = 64 ∧ ∀ c ∈ ds, isDigit c)) → e = .returned (.tuple #[.agg (idC zero32), .int .i64 20])) := by
  have hsize := strOfNums_size ds
  have hsz0 : (Try.prog.info? 79).map (·.size) = some (idC zero32).size := Try.infoID
  have hall0 : (idC zero32).all (·.oneCell') = true := all_oneCell_toArray (map_oneCell _)
  have HZ : Hid ((w.alloc (.cells (idC zero32) 79)).heap[w.heap.size]? = some (.cells (idC zero32) 79 (0, 0))) := heap_alloc_new w _
  by_cases hl : ds.length = 64
  · have hbeg := beginning_any ds (w.alloc (.cells (idC zero32) 79)) ho (by omega)
    have HQ : Hid (∃ ls e0, ((ds.length = 64 ∧ ∀ c ∈ ds, isDigit c) → ls = begL ds ds.length ∧ e0 = 0) ∧ ((¬ (ds.length = 64 ∧ ∀ c ∈ ds, isDigit c)) → ls = zero32 ∧ e0 = 20) ∧ ls.length = 32 ∧
        Calls Try.prog 60 #[.string (strOfNums ds)] (w.alloc (.cells (idC zero32) 79)) fun e w' => Kept [] (w.alloc (.cells (idC zero32) 79)) w' ∧ e = .returned (.tuple #[.agg (idC ls), .int .i64 e0])) := by
      by_cases hd : ∀ c ∈ ds, isDigit c
      · exact ⟨begL ds ds.length, 0, fun _ => ⟨rfl, rfl⟩, fun h => absurd ⟨hl, hd⟩ h, begL_len _ _, hbeg.mono fun e w' h => ⟨h.1, h.2.1 hd⟩⟩
      · exact ⟨zero32, 20, fun h => absurd h.2 hd, fun _ => ⟨rfl, rfl⟩, rfl, hbeg.mono fun e w' h => ⟨h.1, h.2.2 hd⟩⟩
    obtain ⟨ls, e0, q1, q2, q3, q4⟩ := HQ.out
    have hsz : (Try.prog.info? 79).map (·.size) = some (idC ls).size := by rw [idC_size q3]; exact Try.infoID
    have hall : (idC ls).all (·.oneCell') = true := all_oneCell_toArray (map_oneCell _)
    have hos : (idC zero32).size = (idC ls).size := by rw [idC_size q3]; rfl
    have HQ1 : Hid _ := q1
    have HQ2 : Hid _ := q2
    clear hbeg HQ q1 q2 q3
    generalize strOfNums ds = S at *
    generalize hcs : idC ls = cs at *
    have HCS : Hid (idC ls = cs) := hcs
    clear hcs
    rw [hl] at hsize
    go_enter Try.func30, Try.ntmps30
    go_wp2_with (first
      | (go_at_call 60; refine q4.mono ?_; rintro e w1 ⟨hk1, rfl⟩; have H1 : Hid _ := hk1.heap HZ.out (by simp); have HK1 : Hid (Kept [] w w1) := ((Kept.refl [] w).alloc _).then hk1; clear hk1)
      | (refine wpList_store_row (by rfl) 79 (.tmp 2) (.tmp 10) (by rfl) w.heap.size cs (by rfl) (by rfl) 79 (idC zero32) H1.out hsz hos hall ?_))
    refine bodyPost_ret (v := .tuple #[.agg cs, .int .i64 e0]) ?_ rfl ⟨kept_setRow HK1.out (Nat.le_refl _) _, fun h => ?_, fun h => ?_⟩
    · rw [results_cell_tmp rfl]
      have hld := run_loadVar_row (P := Try.prog) (w1.setRow w.heap.size cs) w.heap.size 79 79 cs (0, 0) _ (setRow_heap _ _ _ _ _ _ H1.out) Try.underlying79 rfl hsz
      simp [asAddr, Result.andThen, hld]
    · obtain ⟨a1, a2⟩ := HQ1.out h
      rw [← HCS.out, a1, a2]
    · obtain ⟨a1, a2⟩ := HQ2.out h
      rw [← HCS.out, a1, a2]
  · have HN : Hid (¬ (ds.length = 64 ∧ ∀ c ∈ ds, isDigit c)) := fun h => hl h.1
    have hne : ((ds.length : Int) != 64) = true := by simp; omega
    generalize strOfNums ds = S at *
    go_enter Try.func30, Try.ntmps30
    go_wp2_with (first
      | (refine wpList_store_row (by rfl) 79 (.tmp 2) (.tmp 7) (by rfl) w.heap.size (idC zero32) (by rfl) (by rfl) 79 (idC zero32) HZ.out hsz0 rfl hall0 ?_))
    refine bodyPost_ret (v := .tuple #[.agg (idC zero32), .int .i64 20]) ?_ rfl ⟨kept_setRow ((Kept.refl [] w).alloc _) (Nat.le_refl _) _, fun h => absurd h HN.out, fun _ => rfl⟩
    rw [results_cell_tmp rfl, zero_lit]
    have hld := run_loadVar_row (P := Try.prog) ((w.alloc (.cells (idC zero32) 79)).setRow w.heap.size (idC zero32)) w.heap.size 79 79 (idC zero32) (0, 0) _ (setRow_heap _ _ _ _ _ _ HZ.out) Try.underlying79 rfl hsz0
    simp [asAddr, Result.andThen, hld]

theorem digit_is (n : Int) (h0 : 0 ≤ n) (h1 : n < 16) : isDigit (digitL n) ∧ valL (digitL n) = n ∧ 0 ≤ digitL n ∧ digitL n ≤ 255 := by
  unfold digitL
  split
  · refine ⟨Or.inl (by omega), ?_, by omega, by omega⟩
    unfold valL
    rw [if_pos (by omega)]
    omega
  · refine ⟨Or.inr (by omega), ?_, by omega, by omega⟩
    unfold valL
    rw [if_neg (by omega), if_pos (by omega)]
    omega
theorem digit_back (c : Int) (h : isDigit c) : digitL (valL c) = c := by
  rcases h with h | h
  · unfold valL digitL
    rw [if_pos h, if_pos (by omega)]
    omega
  · unfold valL digitL
    rw [if_neg (by omega), if_pos h, if_neg (by omega)]
    omega
theorem hexL_mem (bs : List Int) (ho : Octs bs) : ∀ c ∈ hexL bs, isDigit c ∧ 0 ≤ c ∧ c ≤ 255 := by
  intro c hc
  unfold hexL at hc
  obtain ⟨k, _, rfl⟩ := List.mem_map.1 hc
  have h := halfL_fits bs ho k
  have h2 := digit_is _ h.1 h.2
  exact ⟨h2.1, h2.2.2⟩
theorem beg_hex (bs : List Int) (hl : bs.length = 32) (ho : Octs bs) : begL (hexL bs) 64 = bs := by
  apply List.ext_getElem?
  intro j
  by_cases hj : j < 32
  · unfold begL
    rw [List.getElem?_map, List.getElem?_range hj, List.getElem?_eq_getElem (show j < bs.length by omega)]
    simp only [Option.map_some]
    congr 1
    unfold vAt
    rw [if_pos (by omega), if_pos (by omega), hexL_get bs (2 * j) (by omega), hexL_get bs (2 * j + 1) (by omega)]
    have h1 := halfL_fits bs ho (2 * j)
    have h2 := halfL_fits bs ho (2 * j + 1)
    rw [(digit_is _ h1.1 h1.2).2.1, (digit_is _ h2.1 h2.2).2.1]
    unfold halfL
    rw [if_pos (by omega), if_neg (by omega), show 2 * j / 2 = j by omega, show (2 * j + 1) / 2 = j by omega, List.getElem?_eq_getElem (show j < bs.length by omega)]
    have := ho bs[j] (List.getElem_mem _)
    simp only [Option.getD_some]
    omega
  · rw [List.getElem?_eq_none (by rw [begL_len]; omega), List.getElem?_eq_none (by omega)]
theorem hex_beg (ds : List Int) (hl : ds.length = 64) (hd : ∀ c ∈ ds, isDigit c) : hexL (begL ds 64) = ds := by
  apply List.ext_getElem?
  intro k
  by_cases hk : k < 64
  · have e1 : (hexL (begL ds 64))[k]? = some (digitL (halfL (begL ds 64) k)) := by
      unfold hexL; rw [List.getElem?_map, List.getElem?_range hk]; rfl
    rw [e1, List.getElem?_eq_getElem (show k < ds.length by omega)]
    congr 1
    have h1 := vAt_fits ds 64 (2 * (k / 2))
    have h2 := vAt_fits ds 64 (2 * (k / 2) + 1)
    have hg := begL_get ds 64 (k / 2) (by omega)
    have e2 : halfL (begL ds 64) k = vAt ds 64 k := by
      unfold halfL
      rw [hg]
      by_cases hp : k % 2 = 0
      · rw [if_pos hp, show 2 * (k / 2) = k by omega]
        rw [show 2 * (k / 2) = k by omega] at h1 h2
        omega
      · rw [if_neg hp]
        have a : 2 * (k / 2) + 1 = k := by omega
        rw [a] at h2 ⊢
        omega
    rw [e2]
    unfold vAt
    rw [if_pos hk, List.getElem?_eq_getElem (show k < ds.length by omega)]
    exact digit_back _ (hd _ (List.getElem_mem _))
  · rw [List.getElem?_eq_none (by rw [hexL_len]; omega), List.getElem?_eq_none (by omega)]
end Go.Proofs.Ytnnbfdnkpohnfaa
