/-
  WALKS: digest.beginning and digest.Parse, for every text of at most 64 letters.
-/
import Derived.Test.YtlljiipmkjjhhaaDoorHex0
import Derived.Test.YtlljiipmkjjhhaaDoorHex1
import Derived.Laws.ResultCell
namespace Go.Proofs.YtlljiipmkjjhhaaDoor
open Go.RowKit

theorem or16 : ∀ a : Nat, a < 16 → ∀ n : Nat, n < 16 → (16 * a) ||| n = 16 * a + n := by decide
theorem or_odd (a n : Int) (h0 : 0 ≤ a) (h1 : a < 16) (h2 : 0 ≤ n) (h3 : n < 16) : bits .or .u8 (16 * a) n = 16 * a + n := by
  obtain ⟨A, rfl⟩ : ∃ A : Nat, a = (A : Int) := ⟨a.toNat, by omega⟩
  obtain ⟨N, rfl⟩ : ∃ N : Nat, n = (N : Int) := ⟨n.toNat, by omega⟩
  have h := u8_or_nat (16 * A) N (by omega) (by omega)
  rw [or16 A (by omega) N (by omega)] at h
  simpa using h
theorem or_even (n : Int) (h2 : 0 ≤ n) (h3 : n < 256) : bits .or .u8 0 n = n := by
  obtain ⟨N, rfl⟩ : ∃ N : Nat, n = (N : Int) := ⟨n.toNat, by omega⟩
  have h := u8_or_nat 0 N (by omega) (by omega)
  rw [Nat.zero_or] at h
  exact h
theorem str_index (ds : List Int) (ho : Octs ds) (k : Nat) (h : k < ds.length) (w : World) :
    (Instr.index 9 (.string (strOfNums ds)) (.int .i64 k)).run Tryd.prog w = .ok (.int .u8 (ds[k]?.getD 0)) w := by
  have hz := octs_getD ho k
  rw [run_index_string w _ _ _ _ Tryd.underlying9, dif_pos ⟨by omega, by rw [strOfNums_size]; omega⟩]
  congr 2
  have e : ((strOfNums ds)[(k : Int).toNat]'(by rw [strOfNums_size]; omega)) = UInt8.ofNat (ds[k]?.getD 0).toNat := by
    have hsz : (strOfNums ds).data.size = ds.length := strOfNums_size ds
    show (strOfNums ds).data[(k : Int).toNat]'(by rw [hsz]; omega) = _
    simp [strOfNums, List.getElem?_eq_getElem h]
  rw [e]
  simp only [UInt8.toNat_ofNat']
  omega

/-- The id block's cell is changed. -/
theorem id_put {w : World} {g : Nat} {l : List Int} (h : w.heap[g]? = some (.cells (idC l) 24 (0, 0))) (k : Nat) (x : Int) :
    (w.setCell ⟨g, k, none⟩ (.int .u8 x)).heap[g]? = some (.cells (idC (l.set k x)) 24 (0, 0)) := by
  rw [heap_setCell_same _ _ _ _ _ _ h]
  simp [idC, List.map_set]

set_option maxRecDepth 100000 in
set_option maxHeartbeats 2000000 in
theorem beginning_any (ds : List Int) (w : World) (ho : Octs ds) (hn : ds.length ≤ 64) :
    Calls Tryd.prog 18 #[.string (strOfNums ds)] w fun e w' => Kept [] w w' ∧
      ((∀ c ∈ ds, isDigit c) → e = .returned (.tuple #[.agg (idC (begL ds ds.length)), .int .i64 0])) ∧
      ((¬ ∀ c ∈ ds, isDigit c) → e = .returned (.tuple #[.agg (idC zero32), .int .i64 20])) := by
  have HI : Hid (∀ k, k < ds.length → ∀ W, (Instr.index 9 (.string (strOfNums ds)) (.int .i64 k)).run Tryd.prog W = .ok (.int .u8 (ds[k]?.getD 0)) W) := fun k hk W => str_index ds ho k hk W
  have hsize := strOfNums_size ds
  generalize strOfNums ds = S at *
  go_enter Tryd.func18, Tryd.ntmps18
  go_wp2
  go_loopw [10] (fun i wr => ∃ k : Nat, k ≤ ds.length ∧ i = .int .i64 k ∧ Hid (∀ j, j < k → isDigit (ds[j]?.getD 0)) ∧ Hid (wr.heap[w.heap.size]? = some (.cells (idC zero32) 24 (0, 0))) ∧ Hid (wr.heap[w.heap.size + 1]? = some (.cells (idC (begL ds k)) 24 (0, 0))) ∧ Kept [] w wr) (fun i _ => ds.length - (intOf i).toNat)
  case atStart =>
    refine ⟨0, Nat.zero_le _, rfl, fun j hj => absurd hj (Nat.not_lt_zero _), ?_, ?_, ((Kept.refl _ _).alloc _).alloc _⟩
    · exact (Below.heap_alloc _ _ _ (by simp)).trans (heap_alloc_new w _)
    · rw [begL_zero]
      exact heap_alloc2_new w _ _
  case round =>
    obtain ⟨k, hk, rfl, HD, H0, H1, hkw⟩ := hrel
    have hb0 := lt_of_block H0.out
    have hb1 := lt_of_block H1.out
    by_cases hlt : k < ds.length
    · have hix := HI.out k hlt
      have hc := octs_getD ho k
      have HV : Hid (∀ W, Calls Tryd.prog 32 #[.int .u8 (ds[k]?.getD 0)] W fun e w' => e = .returned (.tuple #[.int .u8 (valL (ds[k]?.getD 0)), .bool (decide (isDigit (ds[k]?.getD 0)))]) ∧ w' = W) := fun W => value_any _ W hc.1 hc.2
      by_cases hd : isDigit (ds[k]?.getD 0)
      · have HN : Hid (begL ds (k + 1) = (begL ds k).set (k / 2) ((begL ds k)[k / 2]?.getD 0 + (if k % 2 = 0 then 16 * valL (ds[k]?.getD 0) else valL (ds[k]?.getD 0)))) := begL_succ ds k (by omega)
        have HD1 : Hid (∀ j, j < k + 1 → isDigit (ds[j]?.getD 0)) := by
          intro j hj
          by_cases e : j = k
          · subst e; exact hd
          · exact HD.out j (by omega)
        rw [decide_eq_true hd] at HV
        have hv := valL_fits (ds[k]?.getD 0)
        have hget : (begL ds k)[k / 2]?.getD 0 = 16 * vAt ds k (2 * (k / 2)) + vAt ds k (2 * (k / 2) + 1) := begL_get ds k (k / 2) (by omega)
        have c1 : wr.cell? ⟨w.heap.size + 1, k / 2, none⟩ = some (.int .u8 ((begL ds k)[k / 2]?.getD 0)) := by
          rw [cell_of_row _ _ _ _ _ _ H1.out]
          exact idC_get (by rw [begL_len]; omega)
        have f1 := frozen_of_row wr (w.heap.size + 1) (k / 2) _ _ H1.out
        have r1 : Int.tmod (k : Int) 2 = ((k % 2 : Nat) : Int) := by rw [Int.tmod_eq_emod_of_nonneg (by omega)]; omega
        have r2 : Int.tdiv (k : Int) 2 = ((k / 2 : Nat) : Int) := by rw [Int.tdiv_eq_ediv_of_nonneg (by omega)]; omega
        have i1 : (0 : Int) ≤ ((k / 2 : Nat) : Int) := by omega
        have i2 : ((k / 2 : Nat) : Int) < 32 := by omega
        have HP : Hid (∀ x, Hid ((wr.setCell ⟨w.heap.size + 1, k / 2, none⟩ (.int .u8 x)).heap[w.heap.size + 1]? = some (.cells (idC ((begL ds k).set (k / 2) x)) 24 (0, 0)))) := fun x => id_put H1.out (k / 2) x
        generalize valL (ds[k]?.getD 0) = n at *
        generalize ds[k]?.getD 0 = c at *
        by_cases hp : k % 2 = 0
        · have ho1 : (begL ds k)[k / 2]?.getD 0 = 0 := by
            rw [hget]
            unfold vAt
            rw [if_neg (by omega), if_neg (by omega)]
            rfl
          rw [if_pos hp, ho1, Int.zero_add] at HN
          rw [ho1] at c1
          rw [hp] at r1
          have r3 : IntKind.u8.wrap (n * 16) = 16 * n := by rw [IntKind.wrap_u8']; omega
          have r4 := or_even (16 * n) (by omega) (by omega)
          generalize k / 2 = j at *
          clear hget HI hd
          go_wp2_with (go_at_call 32; refine (HV.out _).mono ?_; rintro e w2 ⟨rfl, rfl⟩)
          go_roundw
          case rel =>
            refine ⟨k + 1, by omega, by go_num, HD1, (heap_setCell_other _ _ _ _ (by simp)).trans H0.out, ?_, hkw.setCell (Or.inr (by simp)) _⟩
            rw [HN.out]
            exact HP.out _
          case measure => simp [intOf]; omega
        · have ha := vAt_fits ds k (2 * (k / 2))
          have ho1 : (begL ds k)[k / 2]?.getD 0 = 16 * vAt ds k (2 * (k / 2)) := by
            rw [hget]
            have : vAt ds k (2 * (k / 2) + 1) = 0 := if_neg (by omega)
            omega
          rw [if_neg hp, ho1] at HN
          rw [ho1] at c1
          rw [show k % 2 = 1 by omega] at r1
          have r4 := or_odd (vAt ds k (2 * (k / 2))) n ha.1 ha.2 hv.1 hv.2
          generalize vAt ds k (2 * (k / 2)) = a at *
          generalize k / 2 = j at *
          clear hget HI hd
          go_wp2_with (go_at_call 32; refine (HV.out _).mono ?_; rintro e w2 ⟨rfl, rfl⟩)
          go_roundw
          case rel =>
            refine ⟨k + 1, by omega, by go_num, HD1, (heap_setCell_other _ _ _ _ (by simp)).trans H0.out, ?_, hkw.setCell (Or.inr (by simp)) _⟩
            rw [HN.out]
            exact HP.out _
          case measure => simp [intOf]; omega
      · rw [decide_eq_false hd] at HV
        have HA : Hid (¬ ∀ c ∈ ds, isDigit c) := fun h => hd (h _ (by rw [List.getElem?_eq_getElem hlt]; exact List.getElem_mem _))
        have hsz0 : (Tryd.prog.info? 24).map (·.size) = some (idC zero32).size := Tryd.infoID
        have hall0 : (idC zero32).all (·.oneCell') = true := all_oneCell_toArray (map_oneCell _)
        clear HI hd
        generalize valL (ds[k]?.getD 0) = n at *
        generalize ds[k]?.getD 0 = c at *
        go_wp2_with (first
          | (go_at_call 32; refine (HV.out _).mono ?_; rintro e w2 ⟨rfl, rfl⟩)
          | (refine wpList_store_row (by rfl) 24 (.tmp 2) (.tmp 22) (by rfl) w.heap.size (idC zero32) (by rfl) (by rfl) 24 (idC zero32) H0.out hsz0 rfl hall0 ?_))
        refine bodyPost_ret (v := .tuple #[.agg (idC zero32), .int .i64 20]) ?_ rfl ⟨kept_setRow hkw (Nat.le_refl _) _, fun h => absurd h HA.out, fun _ => rfl⟩
        rw [results_cell_tmp rfl]
        have hld := run_loadVar_row (P := Tryd.prog) (w2.setRow w.heap.size (idC zero32)) w.heap.size 24 24 (idC zero32) (0, 0) _ (setRow_heap _ _ _ _ _ _ H0.out) Tryd.underlying24 rfl hsz0
        clear hsz0 hall0 H0 H1
        generalize idC zero32 = zc at hld ⊢
        simp [asAddr, Result.andThen, hld]
    · obtain rfl : k = ds.length := by omega
      have HA : Hid (∀ c ∈ ds, isDigit c) := by
        intro c hc
        obtain ⟨j, hj, rfl⟩ := List.mem_iff_getElem.1 hc
        have := HD.out j hj
        rwa [List.getElem?_eq_getElem hj] at this
      have hsz : (Tryd.prog.info? 24).map (·.size) = some (idC (begL ds ds.length)).size := by rw [idC_size (begL_len _ _)]; exact Tryd.infoID
      have hall : (idC (begL ds ds.length)).all (·.oneCell') = true := all_oneCell_toArray (map_oneCell _)
      have hos : (idC zero32).size = (idC (begL ds ds.length)).size := by rw [idC_size (begL_len _ _)]; rfl
      generalize hcs : idC (begL ds ds.length) = cs at *
      have HCS : Hid (idC (begL ds ds.length) = cs) := hcs
      clear hcs
      clear HI HD
      go_wp2_with (first
        | (refine wpList_load_row rfl 24 (.tmp 4) rfl (w.heap.size + 1) rfl 24 cs (0, 0) _ H1.out Tryd.underlying24 rfl hsz ?_)
        | (refine wpList_store_row rfl 24 (.tmp 2) (.tmp 36) rfl w.heap.size cs rfl rfl 24 _ H0.out hsz hos hall ?_))
      refine bodyPost_ret (v := .tuple #[.agg cs, .int .i64 0]) ?_ rfl ⟨kept_setRow hkw (Nat.le_refl _) _, fun _ => by rw [HCS.out], fun h => absurd HA.out h⟩
      rw [results_cell_tmp rfl]
      have hld := run_loadVar_row (P := Tryd.prog) (wr.setRow w.heap.size cs) w.heap.size 24 24 cs (0, 0) _ (setRow_heap _ _ _ _ _ _ H0.out) Tryd.underlying24 rfl hsz
      simp [asAddr, Result.andThen, hld]
end Go.Proofs.YtlljiipmkjjhhaaDoor
