/-
  Ids as values, in memory, and lists of them.
  PLAIN: the digest as a function of lists of numbers, in the walk's own forms.
  WALKS: math/bits.RotateLeft32 and digest.right, for every word and every count from 1 to 31.
  WALK: digest.stretched, for every block of 64 bytes.
-/
import Derived.Test.YtddhhjgegkkjbaaGreatDoorPlain
import Derived.Laws.BytesArg
import Derived.Laws.ResultCell
import Derived.Deep.MidRow
import Derived.BigQuiet
import Derived.Deep.QuietTactic
namespace Go.Proofs.YtddhhjgegkkjbaaGreatDoor
open Go.RowKit

/-- An id as a value. -/
def idC (bs : List Int) : Array Value := (bs.map (Value.int .u8)).toArray
theorem idC_get {bs : List Int} {j : Nat} (h : j < bs.length) : (idC bs)[j]? = some (.int .u8 (bs[j]?.getD 0)) := by
  unfold idC
  rw [← Array.getElem?_toList]
  simp [List.getElem?_eq_getElem h]
theorem row_bytes' {w : World} {q : Nat} {ys : List Int} (h : w.heap[q]? = some (.cells (ys.map (Value.int .u8)).toArray 5 (0, 0))) : BytesAt w (.slice (some ⟨q, 0, none⟩) ys.length ys.length) ys := by
  refine ⟨_, _, rfl, Nat.le_refl _, fun e => (by simp at e), fun _ => ⟨q, 0, rfl, fun i u hu => ?_⟩⟩
  rw [cell_of_row _ _ _ _ _ _ h, Nat.zero_add, ← Array.getElem?_toList]
  simp [hu]

theorem Tryz.infoID : (Tryz.prog.info? 36).map (·.size) = some 32 := by kernel_rfl
theorem idC_size {bs : List Int} (h : bs.length = 32) : (idC bs).size = 32 := by simp [idC, h]
def GoodID (xs : List Int) : Prop := xs.length = 32 ∧ Octs xs
/-- The zero id's bytes. -/
def zero32 : List Int := List.replicate 32 0
theorem kept_setRow {w wr : World} (h : Kept [] w wr) {g : Nat} (hg : w.heap.size ≤ g) (cs : Array Value) : Kept [] w (wr.setRow g cs) :=
  kept_of_below (below_setRow (h.below (Nat.le_refl _) (by simp)) hg cs)

theorem range_kept {w w' : World} {b o : Nat} {cs : List Value} {T : List Nat} (h : w.rangeAt b o cs) (k : Kept T w w') (hn : b ∉ T) : w'.rangeAt b o cs := fun j v hj => k.cell (h j v hj) hn
theorem range_box (w : World) (bs : List Int) (t : TypeId) : (w.alloc (.cells (idC bs) t)).rangeAt w.heap.size 0 (bs.map (Value.int .u8)) := fun j v hj => by
  rw [cell_of_row _ _ _ _ _ _ (heap_alloc_new w _), Nat.zero_add, ← Array.getElem?_toList]
  simpa [idC] using hj

/-- A list of ids lies so. -/
def IdsAt (w : World) (v : Value) (ids : List (List Int)) : Prop :=
  ∃ ao cap, v = .slice ao ids.length cap ∧ ids.length ≤ cap ∧ (ao = none → cap = 0) ∧ ids.length ≤ 140737488351232 ∧ (ids ≠ [] → ∃ b off, ao = some ⟨b, off, none⟩ ∧ ∀ (i : Nat) (xs : List Int), ids[i]? = some xs → w.rangeAt b (off + i * 32) (xs.map (Value.int .u8)))
theorem IdsAt.keep {w w' : World} {v : Value} {ids : List (List Int)} {T : List Nat} (h : IdsAt w v ids) (k : Kept T w w') (hn : ids ≠ [] → ∀ b, blkOf v = some b → b ∉ T) : IdsAt w' v ids := by
  obtain ⟨ao, cap, rfl, h1, h0, h2, hc⟩ := h
  refine ⟨ao, cap, rfl, h1, h0, h2, fun hne => ?_⟩
  obtain ⟨b, off, rfl, hh⟩ := hc hne
  exact ⟨b, off, rfl, fun i xs hi => range_kept (hh i xs hi) k (hn hne b rfl)⟩

end Go.Proofs.YtddhhjgegkkjbaaGreatDoor

namespace Go.Proofs.YtddhhjgegkkjbaaGreatDoor
open Go.RowKit

/-- A word turned to the right. -/
def rotL (x : Int) (n : Nat) : Int := bits .or .u32 (IntKind.u32.wrap (x * 2 ^ (32 - n))) (x / 2 ^ n)

/-- The element at a place. -/
def at0 (l : List Int) (i : Nat) : Int := l[i]?.getD 0

def zero64 : List Int := List.replicate 64 0

/-- One byte more in the words. -/
def packStep (blk ws : List Int) (i : Nat) : List Int := ws.set (i / 4) (bits .or .u32 (IntKind.u32.wrap (at0 ws (i / 4) * 256)) (at0 blk i))
def packL (blk : List Int) (k : Nat) : List Int := (List.range k).foldl (packStep blk) zero64

/-- One word more. -/
def stretchStep (ws : List Int) (t : Nat) : List Int :=
  let x := at0 ws (t - 15)
  let y := at0 ws (t - 2)
  let s0 := bits .xor .u32 (bits .xor .u32 (rotL x 7) (rotL x 18)) (x / 8)
  let s1 := bits .xor .u32 (bits .xor .u32 (rotL y 17) (rotL y 19)) (y / 1024)
  ws.set t ((s1 + at0 ws (t - 7) + s0 + at0 ws (t - 16)) % 4294967296)
def stretchL (blk : List Int) (k : Nat) : List Int := (List.range k).foldl (fun ws j => stretchStep ws (16 + j)) (packL blk 64)

/-- The eight letters. -/
structure Eight where
  a : Int
  b : Int
  c : Int
  d : Int
  e : Int
  f : Int
  g : Int
  h : Int

theorem packL_zero (blk : List Int) : packL blk 0 = zero64 := rfl
theorem packL_succ (blk : List Int) (k : Nat) : packL blk (k + 1) = packStep blk (packL blk k) k := by
  unfold packL; rw [List.range_succ, List.foldl_append]; rfl
theorem packStep_len (blk ws : List Int) (i : Nat) : (packStep blk ws i).length = ws.length := by simp [packStep]
theorem packL_len (blk : List Int) (k : Nat) : (packL blk k).length = 64 := by
  induction k with
  | zero => rfl
  | succ k ih => rw [packL_succ, packStep_len, ih]
theorem stretchL_zero (blk : List Int) : stretchL blk 0 = packL blk 64 := by unfold stretchL; rw [List.range_zero, List.foldl_nil]
theorem stretchL_succ (blk : List Int) (k : Nat) : stretchL blk (k + 1) = stretchStep (stretchL blk k) (16 + k) := by
  unfold stretchL; rw [List.range_succ, List.foldl_append]; rfl
theorem stretchStep_len (ws : List Int) (i : Nat) : (stretchStep ws i).length = ws.length := by simp [stretchStep]
theorem stretchL_len (blk : List Int) (k : Nat) : (stretchL blk k).length = 64 := by
  induction k with
  | zero => rw [stretchL_zero, packL_len]
  | succ k ih => rw [stretchL_succ, stretchStep_len, ih]
end Go.Proofs.YtddhhjgegkkjbaaGreatDoor

namespace Go.Proofs.YtddhhjgegkkjbaaGreatDoor
open Go.RowKit

theorem neg_and : ∀ n : Nat, n < 32 → 0 < n → bits .and .u64 (IntKind.u64.wrap (-(n : Int))) 31 = ((32 - n : Nat) : Int) := by decide
theorem sub_back : ∀ n : Nat, n < 32 → 0 < n → IntKind.u64.wrap (32 - ((32 - n : Nat) : Int)) = (n : Int) := by decide

set_option maxHeartbeats 1000000 in
theorem right_any (x : Int) (n : Nat) (h0 : 0 < n) (h1 : n < 32) (w : World) :
    Calls Tryz.prog 80 #[.int .u32 x, .int .i64 n] w fun e w' => e = .returned (.int .u32 (rotL x n)) ∧ w = w' := by
  have r1 := neg_and n h1 h0
  have r2 := sub_back n h1 h0
  have r3 : (0 : Int) ≤ ((32 - n : Nat) : Int) := by omega
  have r4 : ((32 - n : Nat) : Int) ≤ 32 := by omega
  have r5 : (0 : Int) ≤ (n : Int) := by omega
  have r6 : (n : Int) ≤ 32 := by omega
  have hv : rotL x n = bits .or .u32 (IntKind.u32.wrap (x * 2 ^ (32 - n))) (x / 2 ^ n) := rfl
  rw [hv]
  have t1 : ((32 - n : Nat) : Int).toNat = 32 - n := by omega
  generalize 32 - n = m at *
  go_enter Tryz.func80, Tryz.ntmps80
  go_wp2
  go_ret
  exact ⟨rfl, rfl⟩
theorem right2 (x : Int) (w : World) : Calls Tryz.prog 80 #[.int .u32 x, .int .i64 2] w fun e w' => e = .returned (.int .u32 (rotL x 2)) ∧ w = w' := right_any x 2 (by decide) (by decide) w
theorem right6 (x : Int) (w : World) : Calls Tryz.prog 80 #[.int .u32 x, .int .i64 6] w fun e w' => e = .returned (.int .u32 (rotL x 6)) ∧ w = w' := right_any x 6 (by decide) (by decide) w
theorem right7 (x : Int) (w : World) : Calls Tryz.prog 80 #[.int .u32 x, .int .i64 7] w fun e w' => e = .returned (.int .u32 (rotL x 7)) ∧ w = w' := right_any x 7 (by decide) (by decide) w
theorem right11 (x : Int) (w : World) : Calls Tryz.prog 80 #[.int .u32 x, .int .i64 11] w fun e w' => e = .returned (.int .u32 (rotL x 11)) ∧ w = w' := right_any x 11 (by decide) (by decide) w
theorem right13 (x : Int) (w : World) : Calls Tryz.prog 80 #[.int .u32 x, .int .i64 13] w fun e w' => e = .returned (.int .u32 (rotL x 13)) ∧ w = w' := right_any x 13 (by decide) (by decide) w
theorem right17 (x : Int) (w : World) : Calls Tryz.prog 80 #[.int .u32 x, .int .i64 17] w fun e w' => e = .returned (.int .u32 (rotL x 17)) ∧ w = w' := right_any x 17 (by decide) (by decide) w
theorem right18 (x : Int) (w : World) : Calls Tryz.prog 80 #[.int .u32 x, .int .i64 18] w fun e w' => e = .returned (.int .u32 (rotL x 18)) ∧ w = w' := right_any x 18 (by decide) (by decide) w
theorem right19 (x : Int) (w : World) : Calls Tryz.prog 80 #[.int .u32 x, .int .i64 19] w fun e w' => e = .returned (.int .u32 (rotL x 19)) ∧ w = w' := right_any x 19 (by decide) (by decide) w
theorem right22 (x : Int) (w : World) : Calls Tryz.prog 80 #[.int .u32 x, .int .i64 22] w fun e w' => e = .returned (.int .u32 (rotL x 22)) ∧ w = w' := right_any x 22 (by decide) (by decide) w
theorem right25 (x : Int) (w : World) : Calls Tryz.prog 80 #[.int .u32 x, .int .i64 25] w fun e w' => e = .returned (.int .u32 (rotL x 25)) ∧ w = w' := right_any x 25 (by decide) (by decide) w
theorem rightq6 (x : Int) (w : World) : Calls Tryz.prog 80 #[.int .u32 x, .int .i64 6] w fun e w' => e = .returned (.int .u32 (rotL x 6)) ∧ w' = w := (right6 x w).mono fun _ _ h => ⟨h.1, h.2.symm⟩
theorem rightq11 (x : Int) (w : World) : Calls Tryz.prog 80 #[.int .u32 x, .int .i64 11] w fun e w' => e = .returned (.int .u32 (rotL x 11)) ∧ w' = w := (right11 x w).mono fun _ _ h => ⟨h.1, h.2.symm⟩
theorem rightq25 (x : Int) (w : World) : Calls Tryz.prog 80 #[.int .u32 x, .int .i64 25] w fun e w' => e = .returned (.int .u32 (rotL x 25)) ∧ w' = w := (right25 x w).mono fun _ _ h => ⟨h.1, h.2.symm⟩
end Go.Proofs.YtddhhjgegkkjbaaGreatDoor

namespace Go.Proofs.YtddhhjgegkkjbaaGreatDoor
open Go.RowKit

/-- Words as cells. -/
def wC (ws : List Int) : Array Value := (ws.map (Value.int .u32)).toArray
theorem wC_get {ws : List Int} {j : Nat} (h : j < ws.length) : (wC ws)[j]? = some (.int .u32 (at0 ws j)) := by
  unfold wC at0
  rw [← Array.getElem?_toList]
  simp [List.getElem?_eq_getElem h]
theorem wC_size (ws : List Int) : (wC ws).size = ws.length := by simp [wC]
theorem wC_cell {w : World} {g : Nat} {ty : TypeId} {fr : Nat × Nat} {ws : List Int} (h : w.heap[g]? = some (.cells (wC ws) ty fr)) {j : Nat} (hj : j < ws.length) : w.cell? ⟨g, j, none⟩ = some (.int .u32 (at0 ws j)) := by
  rw [cell_of_row _ _ _ _ _ _ h]; exact wC_get hj
theorem wC_put {w : World} {g : Nat} {ty : TypeId} {l : List Int} (h : w.heap[g]? = some (.cells (wC l) ty (0, 0))) (k : Nat) (x : Int) :
    (w.setCell ⟨g, k, none⟩ (.int .u32 x)).heap[g]? = some (.cells (wC (l.set k x)) ty (0, 0)) := by
  rw [heap_setCell_same _ _ _ _ _ _ h]
  simp [wC, List.map_set]
theorem results_cell {fn : Func} {p : Tmp} {ty : TypeId} (h : fn.results = #[.cell p ty]) (tmps : Array Value) (P : Program) (w : World) :
    (results fn tmps).run P w = ((asAddr (tmps.getD p undef)).run P w).andThen fun a w₁ => (loadVar ty a).run P w₁ := by
  simp only [results, h]
  simp [Sem.run_bind, Result.andThen]
theorem Tryz.infoW64 : (Tryz.prog.info? 141).map (·.size) = some 64 := by kernel_rfl

set_option maxRecDepth 100000 in
set_option maxHeartbeats 2000000 in
theorem stretched_any (blk : List Int) (w : World) (b : Nat) (ho : Octs blk) (hc : ∀ i, i < 64 → w.cell? ⟨b, 8 + i, none⟩ = some (.int .u8 (at0 blk i))) :
    Calls Tryz.prog 79 #[.pointer (some ⟨b, 8, none⟩)] w fun e w' => e = .returned (.agg (wC (stretchL blk 48))) ∧ Kept [] w w' := by
  have HC : Hid (∀ W, Kept [] w W → ∀ i, i < 64 → W.cell? ⟨b, 8 + i, none⟩ = some (.int .u8 (at0 blk i))) := fun W hW i hi => hW.cell (hc i hi) (by simp)
  clear hc
  go_enter Tryz.func79, Tryz.ntmps79
  go_wp2
  go_loopw [12] (fun i wr => ∃ k : Nat, k ≤ 64 ∧ i = .int .i64 k ∧ Hid (wr.heap[w.heap.size]? = some (.cells (wC zero64) 141 (0, 0))) ∧ Hid (wr.heap[w.heap.size + 1]? = some (.cells (wC (packL blk k)) 141 (0, 0))) ∧ Kept [] w wr) (fun i _ => 64 - (intOf i).toNat)
  case atStart =>
    refine ⟨0, Nat.zero_le _, rfl, ?_, ?_, ((Kept.refl _ _).alloc _).alloc _⟩
    · exact (Below.heap_alloc _ _ _ (by simp)).trans (heap_alloc_new w _)
    · rw [packL_zero]
      exact heap_alloc2_new w _ _
  case round =>
    obtain ⟨k, hk, rfl, H0, H1, hkw⟩ := hrel
    have hb0 := lt_of_block H0.out
    have hb1 := lt_of_block H1.out
    by_cases hlt : k < 64
    · have hz := octs_getD ho k
      have c0 := HC.out wr hkw k hlt
      have c1 := wC_cell H1.out (j := k / 4) (by rw [packL_len]; omega)
      have f1 := frozen_of_row wr (w.heap.size + 1) (k / 4) _ _ H1.out
      have r2 : Int.tdiv (k : Int) 4 = ((k / 4 : Nat) : Int) := by rw [Int.tdiv_eq_ediv_of_nonneg (by omega)]; omega
      have i1 : (0 : Int) ≤ ((k / 4 : Nat) : Int) := by omega
      have i2 : ((k / 4 : Nat) : Int) < 64 := by omega
      have HN : Hid (packL blk (k + 1) = (packL blk k).set (k / 4) (bits .or .u32 (IntKind.u32.wrap (at0 (packL blk k) (k / 4) * 256)) (at0 blk k))) := packL_succ blk k
      have HP : Hid (∀ x, Hid ((wr.setCell ⟨w.heap.size + 1, k / 4, none⟩ (.int .u32 x)).heap[w.heap.size + 1]? = some (.cells (wC ((packL blk k).set (k / 4) x)) 141 (0, 0)))) := fun x => wC_put H1.out (k / 4) x
      have r3 : IntKind.u32.wrap (at0 blk k) = at0 blk k := by
        unfold at0
        rw [IntKind.wrap_u32']; omega
      generalize at0 blk k = z at *
      generalize at0 (packL blk k) (k / 4) = y at *
      generalize k / 4 = j at *
      go_wp2
      go_quiet (fail)
      go_wp2
      go_roundw
      case rel =>
        refine ⟨k + 1, by omega, by go_num, ?_, ?_, ?_⟩
        · exact (heap_setCell_other _ _ _ _ (by simp)).trans H0.out
        · rw [HN.out]
          exact HP.out _
        · exact (hkw.drewN _).setCell (Or.inr (by simp)) _
      case measure => simp [intOf]; omega
    · obtain rfl : k = 64 := by omega
      rw [show ((64 : Nat) : Int) = 64 from rfl]
      rw [← stretchL_zero] at H1
      go_wp2
      go_loopw [6] (fun i wr => ∃ t : Nat, 16 ≤ t ∧ t ≤ 64 ∧ i = .int .i64 t ∧ Hid (wr.heap[w.heap.size]? = some (.cells (wC zero64) 141 (0, 0))) ∧ Hid (wr.heap[w.heap.size + 1]? = some (.cells (wC (stretchL blk (t - 16))) 141 (0, 0))) ∧ Kept [] w wr) (fun i _ => 64 - (intOf i).toNat)
      case atStart => exact ⟨16, by omega, by omega, rfl, H0, H1, hkw⟩
      case round =>
        obtain ⟨t, ht0, ht1, rfl, H0, H1, hkw⟩ := hrel
        have hb0 := lt_of_block H0.out
        have hb1 := lt_of_block H1.out
        by_cases hlt : t < 64
        · have hlen := stretchL_len blk (t - 16)
          have HN : Hid (stretchL blk (t + 1 - 16) = stretchStep (stretchL blk (t - 16)) t) := by
            have := stretchL_succ blk (t - 16)
            rw [show t - 16 + 1 = t + 1 - 16 by omega, show 16 + (t - 16) = t by omega] at this
            exact this
          have hst : stretchStep (stretchL blk (t - 16)) t = (stretchL blk (t - 16)).set t ((bits .xor .u32 (bits .xor .u32 (rotL (at0 (stretchL blk (t - 16)) (t - 2)) 17) (rotL (at0 (stretchL blk (t - 16)) (t - 2)) 19)) (at0 (stretchL blk (t - 16)) (t - 2) / 1024) + at0 (stretchL blk (t - 16)) (t - 7) + bits .xor .u32 (bits .xor .u32 (rotL (at0 (stretchL blk (t - 16)) (t - 15)) 7) (rotL (at0 (stretchL blk (t - 16)) (t - 15)) 18)) (at0 (stretchL blk (t - 16)) (t - 15) / 8) + at0 (stretchL blk (t - 16)) (t - 16)) % 4294967296) := rfl
          rw [hst] at HN
          clear hst
          have c15 := wC_cell H1.out (j := t - 15) (by omega)
          have c2 := wC_cell H1.out (j := t - 2) (by omega)
          have c7 := wC_cell H1.out (j := t - 7) (by omega)
          have c16 := wC_cell H1.out (j := t - 16) (by omega)
          have ct := wC_cell H1.out (j := t) (by omega)
          have ft := frozen_of_row wr (w.heap.size + 1) t _ _ H1.out
          have HP : Hid (∀ x, Hid ((wr.setCell ⟨w.heap.size + 1, t, none⟩ (.int .u32 x)).heap[w.heap.size + 1]? = some (.cells (wC ((stretchL blk (t - 16)).set t x)) 141 (0, 0)))) := fun x => wC_put H1.out t x
          have H1' : Hid _ := H1
          clear H1
          generalize stretchL blk (t - 16) = S at *
          generalize at0 S (t - 15) = x15 at *
          generalize at0 S (t - 2) = x2 at *
          generalize at0 S (t - 7) = x7 at *
          generalize at0 S (t - 16) = x16 at *
          generalize at0 S t = xt at *
          have n15 : (t : Int) - 15 = ((t - 15 : Nat) : Int) := by omega
          have n2 : (t : Int) - 2 = ((t - 2 : Nat) : Int) := by omega
          have n7 : (t : Int) - 7 = ((t - 7 : Nat) : Int) := by omega
          have n16 : (t : Int) - 16 = ((t - 16 : Nat) : Int) := by omega
          have l15 : t - 15 < 64 := by omega
          have l2 : t - 2 < 64 := by omega
          have l7 : t - 7 < 64 := by omega
          have l16 : t - 16 < 64 := by omega
          generalize t - 15 = a15 at *
          generalize t - 2 = a2 at *
          generalize t - 7 = a7 at *
          generalize t - 16 = a16 at *
          go_wp2
          go_quiet (fail)
          go_wp2_with (first
            | (go_at_call 80; with_reducible refine (right7 _ _).mono ?_; rintro e w2 ⟨rfl, rfl⟩)
            | (go_at_call 80; with_reducible refine (right18 _ _).mono ?_; rintro e w2 ⟨rfl, rfl⟩)
            | (go_at_call 80; with_reducible refine (right17 _ _).mono ?_; rintro e w2 ⟨rfl, rfl⟩)
            | (go_at_call 80; with_reducible refine (right19 _ _).mono ?_; rintro e w2 ⟨rfl, rfl⟩))
          go_region
          go_wp2
          go_roundw
          case rel =>
            refine ⟨t + 1, by omega, by omega, by go_num, ?_, ?_, ?_⟩
            · exact (heap_setCell_other _ _ _ _ (by simp)).trans H0.out
            · rw [HN.out]
              exact HP.out _
            · exact (hkw.drewN _).setCell (Or.inr (Nat.le_succ _)) _
          case measure => simp [intOf]; omega
        · obtain rfl : t = 64 := by omega
          rw [show ((64 : Nat) : Int) = 64 from rfl]
          have H1' : Hid (wr.heap[w.heap.size + 1]? = some (.cells (wC (stretchL blk 48)) 141 (0, 0))) := H1
          obtain ⟨cs, hcs⟩ : ∃ cs, cs = wC (stretchL blk 48) := ⟨_, rfl⟩
          have HCS : Hid (cs = wC (stretchL blk 48)) := hcs
          have hsz : (Tryz.prog.info? 141).map (·.size) = some cs.size := by rw [hcs, wC_size, stretchL_len]; exact Tryz.infoW64
          have hall : cs.all (·.oneCell') = true := by rw [hcs]; exact all_oneCell_toArray (ints_oneCell .u32 _)
          have hos : (wC zero64).size = cs.size := by rw [hcs, wC_size, wC_size, stretchL_len]; rfl
          rw [← hcs] at H1'
          clear hcs H1
          go_wp2_with (first
            | (refine wpList_load_row rfl 141 (.tmp 3) rfl (w.heap.size + 1) rfl 141 cs (0, 0) _ H1'.out Tryz.underlying141 rfl hsz ?_)
            | (refine wpList_store_row rfl 141 (.tmp 2) (.tmp 73) rfl w.heap.size cs rfl rfl 141 _ H0.out hsz hos hall ?_))
          refine bodyPost_ret (v := .agg cs) ?_ rfl ⟨by rw [HCS.out], kept_setRow hkw (Nat.le_refl _) _⟩
          rw [results_cell rfl]
          have hld := run_loadVar_row (P := Tryz.prog) (wr.setRow w.heap.size cs) w.heap.size 141 141 cs (0, 0) _ (setRow_heap _ _ _ _ _ _ H0.out) Tryz.underlying141 rfl hsz
          exact hld
end Go.Proofs.YtddhhjgegkkjbaaGreatDoor
