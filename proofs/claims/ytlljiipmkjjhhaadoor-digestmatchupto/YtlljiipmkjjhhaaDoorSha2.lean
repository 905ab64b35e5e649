/-
  WALK: digest.stretched, for every block of 64 bytes.
-/
import Derived.Test.YtlljiipmkjjhhaaDoorSha1
import Derived.Laws.ResultCell
import Derived.BigQuiet
import Derived.Deep.QuietTactic
namespace Go.Proofs.YtlljiipmkjjhhaaDoor
open Go.RowKit

/-- Words as cells. -/
def wC (ws : List Int) : Array Value := (ws.map (Value.int .u32)).toArray
theorem wC_get {ws : List Int} {j : Nat} (h : j < ws.length) : (wC ws)[j]? = some (.int .u32 (at0 ws j)) := by
  unfold wC at0
  rw [← Array.getElem?_toList]
  simp [List.getElem?_eq_getElem h]
theorem wC_size (ws : List Int) : (wC ws).size = ws.length := by simp [wC]
theorem wC_cell {w : World} {g : Nat} {ty : TypeId} {fr : Nat × Nat} {ws : List Int} (h : w.heap[g]? = some (.cells (wC ws) ty fr)) {j : Nat} (hj : j < ws.length) : w.cell? ⟨g, j, none⟩ = some (.int .u32 (at0 ws j)) := by
  rw [cell_of_row _ _ _ _ _ _ h]; exact wC_get hj
theorem wC_put {w : World} {g : Nat} {ty : TypeId} {l : List Int} (h : w.heap[g]? = some (.cells (wC l) ty (0, 0))) (k : Nat) (x : Int) :
    (w.setCell ⟨g, k, none⟩ (.int .u32 x)).heap[g]? = some (.cells (wC (l.set k x)) ty (0, 0)) := by
  rw [heap_setCell_same _ _ _ _ _ _ h]
  simp [wC, List.map_set]
theorem results_cell {fn : Func} {p : Tmp} {ty : TypeId} (h : fn.results = #[.cell p ty]) (tmps : Array Value) (P : Program) (w : World) :
    (results fn tmps).run P w = ((asAddr (tmps.getD p undef)).run P w).andThen fun a w₁ => (loadVar ty a).run P w₁ := by
  simp only [results, h]
  simp [Sem.run_bind, Result.andThen]
theorem Tryd.infoW64 : (Tryd.prog.info? 134).map (·.size) = some 64 := by kernel_rfl

set_option maxRecDepth 100000 in
set_option maxHeartbeats 2000000 in
theorem stretched_any (blk : List Int) (w : World) (b : Nat) (ho : Octs blk) (hc : ∀ i, i < 64 → w.cell? ⟨b, 8 + i, none⟩ = some (.int .u8 (at0 blk i))) :
    Calls Tryd.prog 86 #[.pointer (some ⟨b, 8, none⟩)] w fun e w' => e = .returned (.agg (wC (stretchL blk 48))) ∧ Kept [] w w' := by
  have HC : Hid (∀ W, Kept [] w W → ∀ i, i < 64 → W.cell? ⟨b, 8 + i, none⟩ = some (.int .u8 (at0 blk i))) := fun W hW i hi => hW.cell (hc i hi) (by simp)
  clear hc
  go_enter Tryd.func86, Tryd.ntmps86
  go_wp2
  go_loopw [12] (fun i wr => ∃ k : Nat, k ≤ 64 ∧ i = .int .i64 k ∧ Hid (wr.heap[w.heap.size]? = some (.cells (wC zero64) 134 (0, 0))) ∧ Hid (wr.heap[w.heap.size + 1]? = some (.cells (wC (packL blk k)) 134 (0, 0))) ∧ Kept [] w wr) (fun i _ => 64 - (intOf i).toNat)
  case atStart =>
    refine ⟨0, Nat.zero_le _, rfl, ?_, ?_, ((Kept.refl _ _).alloc _).alloc _⟩
    · exact (Below.heap_alloc _ _ _ (by simp)).trans (heap_alloc_new w _)
    · rw [packL_zero]
      exact heap_alloc2_new w _ _
  case round =>
    obtain ⟨k, hk, rfl, H0, H1, hkw⟩ := hrel
    have hb0 := lt_of_block H0.out
    have hb1 := lt_of_block H1.out
    by_cases hlt : k < 64
    · have hz := octs_getD ho k
      have c0 := HC.out wr hkw k hlt
      have c1 := wC_cell H1.out (j := k / 4) (by rw [packL_len]; omega)
      have f1 := frozen_of_row wr (w.heap.size + 1) (k / 4) _ _ H1.out
      have r2 : Int.tdiv (k : Int) 4 = ((k / 4 : Nat) : Int) := by rw [Int.tdiv_eq_ediv_of_nonneg (by omega)]; omega
      have i1 : (0 : Int) ≤ ((k / 4 : Nat) : Int) := by omega
      have i2 : ((k / 4 : Nat) : Int) < 64 := by omega
      have HN : Hid (packL blk (k + 1) = (packL blk k).set (k / 4) (bits .or .u32 (IntKind.u32.wrap (at0 (packL blk k) (k / 4) * 256)) (at0 blk k))) := packL_succ blk k
      have HP : Hid (∀ x, Hid ((wr.setCell ⟨w.heap.size + 1, k / 4, none⟩ (.int .u32 x)).heap[w.heap.size + 1]? = some (.cells (wC ((packL blk k).set (k / 4) x)) 134 (0, 0)))) := fun x => wC_put H1.out (k / 4) x
      have r3 : IntKind.u32.wrap (at0 blk k) = at0 blk k := by
        unfold at0
        rw [IntKind.wrap_u32']; omega
      generalize at0 blk k = z at *
      generalize at0 (packL blk k) (k / 4) = y at *
      generalize k / 4 = j at *
      go_wp2
      go_quiet (fail)
      go_wp2
      go_roundw
      case rel =>
        refine ⟨k + 1, by omega, by go_num, ?_, ?_, ?_⟩
        · exact (heap_setCell_other _ _ _ _ (by simp)).trans H0.out
        · rw [HN.out]
          exact HP.out _
        · exact (hkw.drewN _).setCell (Or.inr (by simp)) _
      case measure => simp [intOf]; omega
    · obtain rfl : k = 64 := by omega
      rw [show ((64 : Nat) : Int) = 64 from rfl]
      rw [← stretchL_zero] at H1
      go_wp2
      go_loopw [6] (fun i wr => ∃ t : Nat, 16 ≤ t ∧ t ≤ 64 ∧ i = .int .i64 t ∧ Hid (wr.heap[w.heap.size]? = some (.cells (wC zero64) 134 (0, 0))) ∧ Hid (wr.heap[w.heap.size + 1]? = some (.cells (wC (stretchL blk (t - 16))) 134 (0, 0))) ∧ Kept [] w wr) (fun i _ => 64 - (intOf i).toNat)
      case atStart => exact ⟨16, by omega, by omega, rfl, H0, H1, hkw⟩
      case round =>
        obtain ⟨t, ht0, ht1, rfl, H0, H1, hkw⟩ := hrel
        have hb0 := lt_of_block H0.out
        have hb1 := lt_of_block H1.out
        by_cases hlt : t < 64
        · have hlen := stretchL_len blk (t - 16)
          have HN : Hid (stretchL blk (t + 1 - 16) = stretchStep (stretchL blk (t - 16)) t) := by
            have := stretchL_succ blk (t - 16)
            rw [show t - 16 + 1 = t + 1 - 16 by omega, show 16 + (t - 16) = t by omega] at this
            exact this
          have hst : stretchStep (stretchL blk (t - 16)) t = (stretchL blk (t - 16)).set t ((bits .xor .u32 (bits .xor .u32 (rotL (at0 (stretchL blk (t - 16)) (t - 2)) 17) (rotL (at0 (stretchL blk (t - 16)) (t - 2)) 19)) (at0 (stretchL blk (t - 16)) (t - 2) / 1024) + at0 (stretchL blk (t - 16)) (t - 7) + bits .xor .u32 (bits .xor .u32 (rotL (at0 (stretchL blk (t - 16)) (t - 15)) 7) (rotL (at0 (stretchL blk (t - 16)) (t - 15)) 18)) (at0 (stretchL blk (t - 16)) (t - 15) / 8) + at0 (stretchL blk (t - 16)) (t - 16)) % 4294967296) := rfl
          rw [hst] at HN
          clear hst
          have c15 := wC_cell H1.out (j := t - 15) (by omega)
          have c2 := wC_cell H1.out (j := t - 2) (by omega)
          have c7 := wC_cell H1.out (j := t - 7) (by omega)
          have c16 := wC_cell H1.out (j := t - 16) (by omega)
          have ct := wC_cell H1.out (j := t) (by omega)
          have ft := frozen_of_row wr (w.heap.size + 1) t _ _ H1.out
          have HP : Hid (∀ x, Hid ((wr.setCell ⟨w.heap.size + 1, t, none⟩ (.int .u32 x)).heap[w.heap.size + 1]? = some (.cells (wC ((stretchL blk (t - 16)).set t x)) 134 (0, 0)))) := fun x => wC_put H1.out t x
          have H1' : Hid _ := H1
          clear H1
          generalize stretchL blk (t - 16) = S at *
          generalize at0 S (t - 15) = x15 at *
          generalize at0 S (t - 2) = x2 at *
          generalize at0 S (t - 7) = x7 at *
          generalize at0 S (t - 16) = x16 at *
          generalize at0 S t = xt at *
          have n15 : (t : Int) - 15 = ((t - 15 : Nat) : Int) := by omega
          have n2 : (t : Int) - 2 = ((t - 2 : Nat) : Int) := by omega
          have n7 : (t : Int) - 7 = ((t - 7 : Nat) : Int) := by omega
          have n16 : (t : Int) - 16 = ((t - 16 : Nat) : Int) := by omega
          have l15 : t - 15 < 64 := by omega
          have l2 : t - 2 < 64 := by omega
          have l7 : t - 7 < 64 := by omega
          have l16 : t - 16 < 64 := by omega
          generalize t - 15 = a15 at *
          generalize t - 2 = a2 at *
          generalize t - 7 = a7 at *
          generalize t - 16 = a16 at *
          go_wp2
          go_quiet (fail)
          go_wp2_with (first
            | (go_at_call 87; with_reducible refine (right7 _ _).mono ?_; rintro e w2 ⟨rfl, rfl⟩)
            | (go_at_call 87; with_reducible refine (right18 _ _).mono ?_; rintro e w2 ⟨rfl, rfl⟩)
            | (go_at_call 87; with_reducible refine (right17 _ _).mono ?_; rintro e w2 ⟨rfl, rfl⟩)
            | (go_at_call 87; with_reducible refine (right19 _ _).mono ?_; rintro e w2 ⟨rfl, rfl⟩))
          go_region
          go_wp2
          go_roundw
          case rel =>
            refine ⟨t + 1, by omega, by omega, by go_num, ?_, ?_, ?_⟩
            · exact (heap_setCell_other _ _ _ _ (by simp)).trans H0.out
            · rw [HN.out]
              exact HP.out _
            · exact (hkw.drewN _).setCell (Or.inr (Nat.le_succ _)) _
          case measure => simp [intOf]; omega
        · obtain rfl : t = 64 := by omega
          rw [show ((64 : Nat) : Int) = 64 from rfl]
          have H1' : Hid (wr.heap[w.heap.size + 1]? = some (.cells (wC (stretchL blk 48)) 134 (0, 0))) := H1
          obtain ⟨cs, hcs⟩ : ∃ cs, cs = wC (stretchL blk 48) := ⟨_, rfl⟩
          have HCS : Hid (cs = wC (stretchL blk 48)) := hcs
          have hsz : (Tryd.prog.info? 134).map (·.size) = some cs.size := by rw [hcs, wC_size, stretchL_len]; exact Tryd.infoW64
          have hall : cs.all (·.oneCell') = true := by rw [hcs]; exact all_oneCell_toArray (ints_oneCell .u32 _)
          have hos : (wC zero64).size = cs.size := by rw [hcs, wC_size, wC_size, stretchL_len]; rfl
          rw [← hcs] at H1'
          clear hcs H1
          go_wp2_with (first
            | (refine wpList_load_row rfl 134 (.tmp 3) rfl (w.heap.size + 1) rfl 134 cs (0, 0) _ H1'.out Tryd.underlying134 rfl hsz ?_)
            | (refine wpList_store_row rfl 134 (.tmp 2) (.tmp 73) rfl w.heap.size cs rfl rfl 134 _ H0.out hsz hos hall ?_))
          refine bodyPost_ret (v := .agg cs) ?_ rfl ⟨by rw [HCS.out], kept_setRow hkw (Nat.le_refl _) _⟩
          rw [results_cell rfl]
          have hld := run_loadVar_row (P := Tryd.prog) (wr.setRow w.heap.size cs) w.heap.size 134 134 cs (0, 0) _ (setRow_heap _ _ _ _ _ _ H0.out) Tryd.underlying134 rfl hsz
          exact hld
end Go.Proofs.YtlljiipmkjjhhaaDoor
