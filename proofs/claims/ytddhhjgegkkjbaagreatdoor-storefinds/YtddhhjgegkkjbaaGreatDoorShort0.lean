/-
  WALKS: digest.beginning and digest.Parse, for every text of at most 64 letters.
  How many digits two ids have in common; the WALK of digest.common.
-/
import Derived.Test.YtddhhjgegkkjbaaGreatDoorHex0
import Derived.Laws.ResultCell
import Derived.Test.YtddhhjgegkkjbaaGreatDoorIdEq
import Derived.Test.YtddhhjgegkkjbaaGreatDoorPb0
namespace Go.Proofs.YtddhhjgegkkjbaaGreatDoor
open Go.RowKit

theorem or16 : ∀ a : Nat, a < 16 → ∀ n : Nat, n < 16 → (16 * a) ||| n = 16 * a + n := by decide
theorem or_odd (a n : Int) (h0 : 0 ≤ a) (h1 : a < 16) (h2 : 0 ≤ n) (h3 : n < 16) : bits .or .u8 (16 * a) n = 16 * a + n := by
  obtain ⟨A, rfl⟩ : ∃ A : Nat, a = (A : Int) := ⟨a.toNat, by omega⟩
  obtain ⟨N, rfl⟩ : ∃ N : Nat, n = (N : Int) := ⟨n.toNat, by omega⟩
  have h := u8_or_nat (16 * A) N (by omega) (by omega)
  rw [or16 A (by omega) N (by omega)] at h
  simpa using h
theorem or_even (n : Int) (h2 : 0 ≤ n) (h3 : n < 256) : bits .or .u8 0 n = n := by
  obtain ⟨N, rfl⟩ : ∃ N : Nat, n = (N : Int) := ⟨n.toNat, by omega⟩
  have h := u8_or_nat 0 N (by omega) (by omega)
  rw [Nat.zero_or] at h
  exact h
theorem str_index (ds : List Int) (ho : Octs ds) (k : Nat) (h : k < ds.length) (w : World) :
    (Instr.index 9 (.string (strOfNums ds)) (.int .i64 k)).run Tryz.prog w = .ok (.int .u8 (ds[k]?.getD 0)) w := by
  have hz := octs_getD ho k
  rw [run_index_string w _ _ _ _ Tryz.underlying9, dif_pos ⟨by omega, by rw [strOfNums_size]; omega⟩]
  congr 2
  have e : ((strOfNums ds)[(k : Int).toNat]'(by rw [strOfNums_size]; omega)) = UInt8.ofNat (ds[k]?.getD 0).toNat := by
    have hsz : (strOfNums ds).data.size = ds.length := strOfNums_size ds
    show (strOfNums ds).data[(k : Int).toNat]'(by rw [hsz]; omega) = _
    simp [strOfNums, List.getElem?_eq_getElem h]
  rw [e]
  simp only [UInt8.toNat_ofNat']
  omega

/-- The id block's cell is changed. -/
theorem id_put {w : World} {g : Nat} {l : List Int} (h : w.heap[g]? = some (.cells (idC l) 36 (0, 0))) (k : Nat) (x : Int) :
    (w.setCell ⟨g, k, none⟩ (.int .u8 x)).heap[g]? = some (.cells (idC (l.set k x)) 36 (0, 0)) := by
  rw [heap_setCell_same _ _ _ _ _ _ h]
  simp [idC, List.map_set]

set_option maxRecDepth 100000 in
set_option maxHeartbeats 2000000 in
theorem beginning_any (ds : List Int) (w : World) (ho : Octs ds) (hn : ds.length ≤ 64) :
    Calls Tryz.prog 42 #[.string (strOfNums ds)] w fun e w' => Kept [] w w' ∧
      ((∀ c ∈ ds, isDigit c) → e = .returned (.tuple #[.agg (idC (begL ds ds.length)), .int .i64 0])) ∧
      ((¬ ∀ c ∈ ds, isDigit c) → e = .returned (.tuple #[.agg (idC zero32), .int .i64 20])) := by
  have HI : Hid (∀ k, k < ds.length → ∀ W, (Instr.index 9 (.string (strOfNums ds)) (.int .i64 k)).run Tryz.prog W = .ok (.int .u8 (ds[k]?.getD 0)) W) := fun k hk W => str_index ds ho k hk W
  have hsize := strOfNums_size ds
  generalize strOfNums ds = S at *
  go_enter Tryz.func42, Tryz.ntmps42
  go_wp2
  go_loopw [10] (fun i wr => ∃ k : Nat, k ≤ ds.length ∧ i = .int .i64 k ∧ Hid (∀ j, j < k → isDigit (ds[j]?.getD 0)) ∧ Hid (wr.heap[w.heap.size]? = some (.cells (idC zero32) 36 (0, 0))) ∧ Hid (wr.heap[w.heap.size + 1]? = some (.cells (idC (begL ds k)) 36 (0, 0))) ∧ Kept [] w wr) (fun i _ => ds.length - (intOf i).toNat)
  case atStart =>
    refine ⟨0, Nat.zero_le _, rfl, fun j hj => absurd hj (Nat.not_lt_zero _), ?_, ?_, ((Kept.refl _ _).alloc _).alloc _⟩
    · exact (Below.heap_alloc _ _ _ (by simp)).trans (heap_alloc_new w _)
    · rw [begL_zero]
      exact heap_alloc2_new w _ _
  case round =>
    obtain ⟨k, hk, rfl, HD, H0, H1, hkw⟩ := hrel
    have hb0 := lt_of_block H0.out
    have hb1 := lt_of_block H1.out
    by_cases hlt : k < ds.length
    · have hix := HI.out k hlt
      have hc := octs_getD ho k
      have HV : Hid (∀ W, Calls Tryz.prog 60 #[.int .u8 (ds[k]?.getD 0)] W fun e w' => e = .returned (.tuple #[.int .u8 (valL (ds[k]?.getD 0)), .bool (decide (isDigit (ds[k]?.getD 0)))]) ∧ w' = W) := fun W => value_any _ W hc.1 hc.2
      by_cases hd : isDigit (ds[k]?.getD 0)
      · have HN : Hid (begL ds (k + 1) = (begL ds k).set (k / 2) ((begL ds k)[k / 2]?.getD 0 + (if k % 2 = 0 then 16 * valL (ds[k]?.getD 0) else valL (ds[k]?.getD 0)))) := begL_succ ds k (by omega)
        have HD1 : Hid (∀ j, j < k + 1 → isDigit (ds[j]?.getD 0)) := by
          intro j hj
          by_cases e : j = k
          · subst e; exact hd
          · exact HD.out j (by omega)
        rw [decide_eq_true hd] at HV
        have hv := valL_fits (ds[k]?.getD 0)
        have hget : (begL ds k)[k / 2]?.getD 0 = 16 * vAt ds k (2 * (k / 2)) + vAt ds k (2 * (k / 2) + 1) := begL_get ds k (k / 2) (by omega)
        have c1 : wr.cell? ⟨w.heap.size + 1, k / 2, none⟩ = some (.int .u8 ((begL ds k)[k / 2]?.getD 0)) := by
          rw [cell_of_row _ _ _ _ _ _ H1.out]
          exact idC_get (by rw [begL_len]; omega)
        have f1 := frozen_of_row wr (w.heap.size + 1) (k / 2) _ _ H1.out
        have r1 : Int.tmod (k : Int) 2 = ((k % 2 : Nat) : Int) := by rw [Int.tmod_eq_emod_of_nonneg (by omega)]; omega
        have r2 : Int.tdiv (k : Int) 2 = ((k / 2 : Nat) : Int) := by rw [Int.tdiv_eq_ediv_of_nonneg (by omega)]; omega
        have i1 : (0 : Int) ≤ ((k / 2 : Nat) : Int) := by omega
        have i2 : ((k / 2 : Nat) : Int) < 32 := by omega
        have HP : Hid (∀ x, Hid ((wr.setCell ⟨w.heap.size + 1, k / 2, none⟩ (.int .u8 x)).heap[w.heap.size + 1]? = some (.cells (idC ((begL ds k).set (k / 2) x)) 36 (0, 0)))) := fun x => id_put H1.out (k / 2) x
        generalize valL (ds[k]?.getD 0) = n at *
        generalize ds[k]?.getD 0 = c at *
        by_cases hp : k % 2 = 0
        · have ho1 : (begL ds k)[k / 2]?.getD 0 = 0 := by
            rw [hget]
            unfold vAt
            rw [if_neg (by omega), if_neg (by omega)]
            rfl
          rw [if_pos hp, ho1, Int.zero_add] at HN
          rw [ho1] at c1
          rw [hp] at r1
          have r3 : IntKind.u8.wrap (n * 16) = 16 * n := by rw [IntKind.wrap_u8']; omega
          have r4 := or_even (16 * n) (by omega) (by omega)
          generalize k / 2 = j at *
          clear hget HI hd
          go_wp2_with (go_at_call 60; refine (HV.out _).mono ?_; rintro e w2 ⟨rfl, rfl⟩)
          go_roundw
          case rel =>
            refine ⟨k + 1, by omega, by go_num, HD1, (heap_setCell_other _ _ _ _ (by simp)).trans H0.out, ?_, hkw.setCell (Or.inr (by simp)) _⟩
            rw [HN.out]
            exact HP.out _
          case measure => simp [intOf]; omega
        · have ha := vAt_fits ds k (2 * (k / 2))
          have ho1 : (begL ds k)[k / 2]?.getD 0 = 16 * vAt ds k (2 * (k / 2)) := by
            rw [hget]
            have : vAt ds k (2 * (k / 2) + 1) = 0 := if_neg (by omega)
            omega
          rw [if_neg hp, ho1] at HN
          rw [ho1] at c1
          rw [show k % 2 = 1 by omega] at r1
          have r4 := or_odd (vAt ds k (2 * (k / 2))) n ha.1 ha.2 hv.1 hv.2
          generalize vAt ds k (2 * (k / 2)) = a at *
          generalize k / 2 = j at *
          clear hget HI hd
          go_wp2_with (go_at_call 60; refine (HV.out _).mono ?_; rintro e w2 ⟨rfl, rfl⟩)
          go_roundw
          case rel =>
            refine ⟨k + 1, by omega, by go_num, HD1, (heap_setCell_other _ _ _ _ (by simp)).trans H0.out, ?_, hkw.setCell (Or.inr (by simp)) _⟩
            rw [HN.out]
            exact HP.out _
          case measure => simp [intOf]; omega
      · rw [decide_eq_false hd] at HV
        have HA : Hid (¬ ∀ c ∈ ds, isDigit c) := fun h => hd (h _ (by rw [List.getElem?_eq_getElem hlt]; exact List.getElem_mem _))
        have hsz0 : (Tryz.prog.info? 36).map (·.size) = some (idC zero32).size := Tryz.infoID
        have hall0 : (idC zero32).all (·.oneCell') = true := all_oneCell_toArray (map_oneCell _)
        clear HI hd
        generalize valL (ds[k]?.getD 0) = n at *
        generalize ds[k]?.getD 0 = c at *
        go_wp2_with (first
          | (go_at_call 60; refine (HV.out _).mono ?_; rintro e w2 ⟨rfl, rfl⟩)
          | (refine wpList_store_row (by rfl) 36 (.tmp 2) (.tmp 22) (by rfl) w.heap.size (idC zero32) (by rfl) (by rfl) 36 (idC zero32) H0.out hsz0 rfl hall0 ?_))
        refine bodyPost_ret (v := .tuple #[.agg (idC zero32), .int .i64 20]) ?_ rfl ⟨kept_setRow hkw (Nat.le_refl _) _, fun h => absurd h HA.out, fun _ => rfl⟩
        rw [results_cell_tmp rfl]
        have hld := run_loadVar_row (P := Tryz.prog) (w2.setRow w.heap.size (idC zero32)) w.heap.size 36 36 (idC zero32) (0, 0) _ (setRow_heap _ _ _ _ _ _ H0.out) Tryz.underlying36 rfl hsz0
        clear hsz0 hall0 H0 H1
        generalize idC zero32 = zc at hld ⊢
        simp [asAddr, Result.andThen, hld]
    · obtain rfl : k = ds.length := by omega
      have HA : Hid (∀ c ∈ ds, isDigit c) := by
        intro c hc
        obtain ⟨j, hj, rfl⟩ := List.mem_iff_getElem.1 hc
        have := HD.out j hj
        rwa [List.getElem?_eq_getElem hj] at this
      have hsz : (Tryz.prog.info? 36).map (·.size) = some (idC (begL ds ds.length)).size := by rw [idC_size (begL_len _ _)]; exact Tryz.infoID
      have hall : (idC (begL ds ds.length)).all (·.oneCell') = true := all_oneCell_toArray (map_oneCell _)
      have hos : (idC zero32).size = (idC (begL ds ds.length)).size := by rw [idC_size (begL_len _ _)]; rfl
      generalize hcs : idC (begL ds ds.length) = cs at *
      have HCS : Hid (idC (begL ds ds.length) = cs) := hcs
      clear hcs
      clear HI HD
      go_wp2_with (first
        | (refine wpList_load_row rfl 36 (.tmp 4) rfl (w.heap.size + 1) rfl 36 cs (0, 0) _ H1.out Tryz.underlying36 rfl hsz ?_)
        | (refine wpList_store_row rfl 36 (.tmp 2) (.tmp 36) rfl w.heap.size cs rfl rfl 36 _ H0.out hsz hos hall ?_))
      refine bodyPost_ret (v := .tuple #[.agg cs, .int .i64 0]) ?_ rfl ⟨kept_setRow hkw (Nat.le_refl _) _, fun _ => by rw [HCS.out], fun h => absurd HA.out h⟩
      rw [results_cell_tmp rfl]
      have hld := run_loadVar_row (P := Tryz.prog) (wr.setRow w.heap.size cs) w.heap.size 36 36 cs (0, 0) _ (setRow_heap _ _ _ _ _ _ H0.out) Tryz.underlying36 rfl hsz
      simp [asAddr, Result.andThen, hld]
end Go.Proofs.YtddhhjgegkkjbaaGreatDoor

namespace Go.Proofs.YtddhhjgegkkjbaaGreatDoor
open Go.RowKit

def comL (a b : List Int) : Nat := ((List.range 64).takeWhile fun k => halfL a k == halfL b k).length

theorem takeWhile_range (p : Nat → Bool) (n : Nat) : ∀ k, k ≤ n → (∀ j, j < k → p j = true) → (k < n → p k = false) → ((List.range n).takeWhile p).length = k := by
  intro k hk hall hstop
  have e : List.range n = List.range k ++ (List.range (n - k)).map (k + ·) := by
    rw [← List.range_add]; congr 1; omega
  rw [e, List.takeWhile_append_of_pos (fun j hj => hall j (List.mem_range.1 hj)), List.length_append, List.length_range]
  have : ((List.range (n - k)).map (k + ·)).takeWhile p = [] := by
    by_cases hkn : k < n
    · obtain ⟨m, hm⟩ : ∃ m, n - k = m + 1 := ⟨n - k - 1, by omega⟩
      rw [hm, List.range_succ_eq_map, List.map_cons, List.takeWhile_cons, Nat.add_zero, hstop hkn]
      rfl
    · have : n - k = 0 := by omega
      rw [this]; rfl
  rw [this]; rfl

theorem comL_eq (a b : List Int) (k : Nat) (hk : k ≤ 64) (hall : ∀ j, j < k → halfL a j = halfL b j) (hstop : k < 64 → halfL a k ≠ halfL b k) : comL a b = k :=
  takeWhile_range _ 64 k hk (fun j hj => by simpa using hall j hj) (fun h => by simpa using hstop h)

set_option maxRecDepth 100000 in
set_option maxHeartbeats 2000000 in
theorem common_any (xs bs : List Int) (w : World) (hla : xs.length = 32) (hoa : Octs xs) (hlb : bs.length = 32) (hob : Octs bs) :
    Calls Tryz.prog 30 #[.agg (idC xs), .agg (idC bs)] w fun e w' => e = .returned (.int .i64 (comL xs bs)) ∧ Kept [] w w' := by
  have hsa : (Tryz.prog.info? 36).map (·.size) = some (xs.map (Value.int .u8)).length := by rw [List.length_map, hla]; exact Tryz.infoID
  have hsb : (Tryz.prog.info? 36).map (·.size) = some (bs.map (Value.int .u8)).length := by rw [List.length_map, hlb]; exact Tryz.infoID
  have hna : (xs.map (Value.int .u8)).length = 32 := by rw [List.length_map, hla]
  have hnb : (bs.map (Value.int .u8)).length = 32 := by rw [List.length_map, hlb]
  have hca := map_oneCell xs
  have hcb := map_oneCell bs
  have hun := Tryz.underlying36
  clear hna hnb hca hcb
  have HA : Hid (∀ W (k : Nat), k < 64 → Calls Tryz.prog 29 #[.agg (idC xs), .int .i64 k] W fun e w' => e = .returned (.int .u8 (halfL xs k)) ∧ Kept [] W w') := fun W k hk => half_any xs W hla hoa k hk
  have HB : Hid (∀ W (k : Nat), k < 64 → Calls Tryz.prog 29 #[.agg (idC bs), .int .i64 k] W fun e w' => e = .returned (.int .u8 (halfL bs k)) ∧ Kept [] W w') := fun W k hk => half_any bs W hlb hob k hk
  have HR : Hid (∀ W, Kept [] ((w.alloc (.cells (idC xs) 36)).alloc (.cells (idC bs) 36)) W → W.rangeAt w.heap.size 0 (xs.map (Value.int .u8)) ∧ W.rangeAt (w.heap.size + 1) 0 (bs.map (Value.int .u8))) := fun W k => by
    have h2 := range_box (w.alloc (.cells (idC xs) 36)) bs 36
    rw [World.size_alloc] at h2
    exact ⟨range_kept (range_kept (range_box w xs 36) ((Kept.refl [] _).alloc (.cells (idC bs) 36)) (by simp)) k (by simp), range_kept h2 k (by simp)⟩
  go_enter Tryz.func30, Tryz.ntmps30
  go_wp2
  go_loopw [5, 6] (fun _ s6 wr => ∃ k : Nat, k ≤ 64 ∧ s6 = .int .i64 k ∧ Hid (∀ j, j < k → halfL xs j = halfL bs j) ∧ Hid (Kept [] ((w.alloc (.cells (idC xs) 36)).alloc (.cells (idC bs) 36)) wr)) (fun _ s6 _ => 64 - (intOf s6).toNat)
  case atStart => exact ⟨0, Nat.zero_le _, rfl, fun j hj => absurd hj (by omega), Kept.refl _ _⟩
  case round =>
    obtain ⟨k, hk, rfl, HE, HK⟩ := hrel
    have HKW : Hid (Kept [] w wr) := (((Kept.refl [] w).alloc _).alloc _).then HK.out
    by_cases hlt : k < 64
    · go_wp2_with fail
      refine region_quiet (Kept [] ((w.alloc (.cells (idC xs) 36)).alloc (.cells (idC bs) 36))) (by kernel_rfl) (by kernel_rfl) HK.out.drew ?_
      refine quiet_row (by rfl) _ _ rfl w.heap.size 0 rfl (xs.map (Value.int .u8)) _ (fun W hW => (HR.out W hW).1) hun rfl hsa ?_
      simp only [Act.put, List.setIfInBounds_toArray, List.set_cons_zero, List.set_cons_succ]
      refine quiet_val (by rfl) (.int .i64 k) (fun W => rfl) ?_
      simp only [Act.put, List.setIfInBounds_toArray, List.set_cons_zero, List.set_cons_succ]
      refine quiet_call (by rfl) 29 #[.agg (idC xs), .int .i64 k] (.int .u8 (halfL xs k)) (fun W => by go_simp; rfl) (fun W hW => (HA.out W k hlt).mono fun e w' h => ⟨h.1, hW.then h.2⟩) ?_
      simp only [Act.put, List.setIfInBounds_toArray, List.set_cons_zero, List.set_cons_succ]
      refine quiet_row (by rfl) _ _ rfl (w.heap.size + 1) 0 rfl (bs.map (Value.int .u8)) _ (fun W hW => (HR.out W hW).2) hun rfl hsb ?_
      simp only [Act.put, List.setIfInBounds_toArray, List.set_cons_zero, List.set_cons_succ]
      refine quiet_val (by rfl) (.int .i64 k) (fun W => rfl) ?_
      simp only [Act.put, List.setIfInBounds_toArray, List.set_cons_zero, List.set_cons_succ]
      refine quiet_call (by rfl) 29 #[.agg (idC bs), .int .i64 k] (.int .u8 (halfL bs k)) (fun W => by go_simp; rfl) (fun W hW => (HB.out W k hlt).mono fun e w' h => ⟨h.1, hW.then h.2⟩) ?_
      simp only [Act.put, List.setIfInBounds_toArray, List.set_cons_zero, List.set_cons_succ]
      refine quiet_val (by rfl) (.bool (halfL xs k != halfL bs k)) (fun W => by rfl) ?_
      simp only [Act.put, List.setIfInBounds_toArray, List.set_cons_zero, List.set_cons_succ]
      refine wpQuiet_nil fun w3 hk3 => ?_
      have HK3 : Hid _ := hk3
      have HKW3 : Hid (Kept [] w w3) := (((Kept.refl [] w).alloc _).alloc _).then hk3
      clear hk3
      by_cases heq : halfL xs k = halfL bs k
      · have hb : (halfL xs k != halfL bs k) = false := by simp [heq]
        rw [hb]
        have HE' : Hid (∀ j, j < k + 1 → halfL xs j = halfL bs j) := fun j hj => by
          by_cases hjk : j = k
          · rw [hjk]; exact heq
          · exact HE.out j (by omega)
        clear heq hb
        go_wp2
        go_roundw
        case rel => exact ⟨k + 1, by omega, by go_num, HE', HK3⟩
        case measure => simp [intOf]; omega
      · have hb : (halfL xs k != halfL bs k) = true := by simp [heq]
        rw [hb]
        have HC : Hid (comL xs bs = k) := comL_eq xs bs k hk HE.out (fun _ => heq)
        clear heq hb
        go_wp2
        go_ret
        exact ⟨by rw [HC.out]; rfl, HKW3.out⟩
    · obtain rfl : k = 64 := by omega
      go_wp2
      go_ret
      exact ⟨by rw [comL_eq xs bs 64 (Nat.le_refl _) HE.out (fun h => by omega)]; rfl, HKW.out⟩
end Go.Proofs.YtddhhjgegkkjbaaGreatDoor
