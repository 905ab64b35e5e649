/-
  Two ids compared inside a drawn region that is walked once: the laws of that step.
  WALK: digest.half, for every id.
  WALKS: digest.Hex, for every id.
-/
import Derived.Test.YtlljiipmkjjhhaaDoorQuiet
import Derived.Test.YtlljiipmkjjhhaaDoorSha1
import Derived.Laws.BytesArg
import Derived.Test.YtlljiipmkjjhhaaDoorRwsA
import Derived.Test.YtlljiipmkjjhhaaDoorRowP
namespace Go.Proofs.YtlljiipmkjjhhaaDoor
open Go.RowKit

theorem run_id_eql (x y : Operand) (A B : Array Value) (W : World) (r : Bool) (hr : (Op.equalIn 10000 24 (.agg A) (.agg B)).run Tryd.prog W = .ok r W) :
    Sem.run Tryd.prog (do eqGuard BinOp.eql 24 x y (Value.agg A) (Value.agg B); binOp BinOp.eql 24 (Value.agg A) (Value.agg B)) W = .ok (.bool r) W := by
  simp [eqGuard, binOp]
  have e : Op.equal 24 (.agg A) (.agg B) = Op.equalIn 10000 24 (.agg A) (.agg B) := rfl
  rw [e, hr]
  rfl
theorem run_id_neq (x y : Operand) (A B : Array Value) (W : World) (r : Bool) (hr : (Op.equalIn 10000 24 (.agg A) (.agg B)).run Tryd.prog W = .ok r W) :
    Sem.run Tryd.prog (do eqGuard BinOp.neq 24 x y (Value.agg A) (Value.agg B); binOp BinOp.neq 24 (Value.agg A) (Value.agg B)) W = .ok (.bool !r) W := by
  simp [eqGuard, binOp]
  have e : Op.equal 24 (.agg A) (.agg B) = Op.equalIn 10000 24 (.agg A) (.agg B) := rfl
  rw [e, hr]
  rfl

section
variable {ops : Array Oper} {C : World → Prop} {Q : Act → Prop} {rest : List Oper} {o : Oper} {a : Act}
theorem quiet_eql (hw : Region.wanted o (yielded ops a.tmps) = true) (x y : Operand) (rt : TypeId) (ho : o.op = .binOp .eql 24 x y rt) (A B : Array Value) (hx : a.eval x = .agg A) (hy : a.eval y = .agg B) (r : Bool)
    (hr : ∀ W, (Op.equalIn 10000 24 (.agg A) (.agg B)).run Tryd.prog W = .ok r W) (h : wpQuiet Tryd.prog ops C Q rest (a.put o.dst (.bool r))) : wpQuiet Tryd.prog ops C Q (o :: rest) a := by
  refine quiet_val hw (.bool r) (fun W => ?_) h
  unfold execOp
  simp only [ho, hx, hy]
  rw [Sem.run_bind, run_id_eql x y A B W r (hr W)]
  rfl
theorem quiet_neq (hw : Region.wanted o (yielded ops a.tmps) = true) (x y : Operand) (rt : TypeId) (ho : o.op = .binOp .neq 24 x y rt) (A B : Array Value) (hx : a.eval x = .agg A) (hy : a.eval y = .agg B) (r : Bool)
    (hr : ∀ W, (Op.equalIn 10000 24 (.agg A) (.agg B)).run Tryd.prog W = .ok r W) (h : wpQuiet Tryd.prog ops C Q rest (a.put o.dst (.bool !r))) : wpQuiet Tryd.prog ops C Q (o :: rest) a := by
  refine quiet_val hw (.bool !r) (fun W => ?_) h
  unfold execOp
  simp only [ho, hx, hy]
  rw [Sem.run_bind, run_id_neq x y A B W r (hr W)]
  rfl
theorem valC_at {K : Act → Prop} (v : Value) (hv : ∀ W, C W → (execOp a.eval o).run Tryd.prog W = .ok (.value v) W) (hK : K (a.put o.dst v)) : o.quiet Tryd.prog a C K :=
  ⟨v, fun W hW => by unfold Oper.quietAt; rw [hv W hW]; exact ⟨rfl, rfl⟩, hK⟩
theorem neq_at {K : Act → Prop} (x y : Operand) (rt : TypeId) (ho : o.op = .binOp .neq 24 x y rt) (A B : Array Value) (hx : a.eval x = .agg A) (hy : a.eval y = .agg B) (r : Bool)
    (hr : ∀ W, (Op.equalIn 10000 24 (.agg A) (.agg B)).run Tryd.prog W = .ok r W) (hK : K (a.put o.dst (.bool !r))) : o.quiet Tryd.prog a C K := by
  refine val_at (.bool !r) (fun W => ?_) hK
  unfold execOp
  simp only [ho, hx, hy]
  rw [Sem.run_bind, run_id_neq x y A B W r (hr W)]
  rfl
theorem eql_at {K : Act → Prop} (x y : Operand) (rt : TypeId) (ho : o.op = .binOp .eql 24 x y rt) (A B : Array Value) (hx : a.eval x = .agg A) (hy : a.eval y = .agg B) (r : Bool)
    (hr : ∀ W, (Op.equalIn 10000 24 (.agg A) (.agg B)).run Tryd.prog W = .ok r W) (hK : K (a.put o.dst (.bool r))) : o.quiet Tryd.prog a C K := by
  refine val_at (.bool r) (fun W => ?_) hK
  unfold execOp
  simp only [ho, hx, hy]
  rw [Sem.run_bind, run_id_eql x y A B W r (hr W)]
  rfl
end
end Go.Proofs.YtlljiipmkjjhhaaDoor

namespace Go.Proofs.YtlljiipmkjjhhaaDoor
open Go.RowKit

/-- The number of the digit at place k. -/
def halfL (bs : List Int) (k : Nat) : Int := if k % 2 = 0 then (bs[k / 2]?.getD 0) / 16 else (bs[k / 2]?.getD 0) % 16

theorem and15 (m : Int) (h0 : 0 ≤ m) (h1 : m ≤ 255) : bits .and .u8 m 15 = m % 16 := by
  obtain ⟨n, rfl⟩ : ∃ n : Nat, m = (n : Int) := ⟨m.toNat, by omega⟩
  have h := u8_and_nat n 15 (by omega) (by decide)
  rw [show ((15 : Nat) : Int) = 15 from rfl] at h
  rw [h, show (15 : Nat) = 2 ^ 4 - 1 from rfl, Nat.and_two_pow_sub_one_eq_mod]
  omega

set_option maxHeartbeats 1000000 in
theorem half_any (bs : List Int) (w : World) (hl : bs.length = 32) (ho : Octs bs) (k : Nat) (hk : k < 64) :
    Calls Tryd.prog 25 #[.agg (idC bs), .int .i64 k] w fun e w' => e = .returned (.int .u8 (halfL bs k)) ∧ Kept [] w w' := by
  have g1 := idC_get (bs := bs) (j := k / 2) (by omega)
  have hz := octs_getD ho (k / 2)
  have r1 : Int.tmod (k : Int) 2 = ((k % 2 : Nat) : Int) := by rw [Int.tmod_eq_emod_of_nonneg (by omega)]; omega
  have r2 : Int.tdiv (k : Int) 2 = ((k / 2 : Nat) : Int) := by rw [Int.tdiv_eq_ediv_of_nonneg (by omega)]; omega
  have hv : halfL bs k = if k % 2 = 0 then (bs[k / 2]?.getD 0) / 16 else (bs[k / 2]?.getD 0) % 16 := rfl
  rw [hv]
  have j0 : k / 2 < 32 := by omega
  generalize bs[k / 2]?.getD 0 = z at *
  have a15 := and15 z hz.1 hz.2
  generalize k / 2 = j at *
  have i1 : (0 : Int) ≤ (j : Int) := by omega
  have i2 : (j : Int) < 32 := by omega
  generalize idC bs = cs at *
  by_cases hp : k % 2 = 0
  · rw [if_pos hp]
    rw [hp] at r1
    go_enter Tryd.func25, Tryd.ntmps25
    go_wp2
    go_ret
    exact ⟨rfl, (Kept.refl _ _).alloc _⟩
  · rw [if_neg hp]
    rw [show k % 2 = 1 by omega] at r1
    go_enter Tryd.func25, Tryd.ntmps25
    go_wp2
    go_ret
    exact ⟨rfl, (Kept.refl _ _).alloc _⟩
end Go.Proofs.YtlljiipmkjjhhaaDoor

namespace Go.Proofs.YtlljiipmkjjhhaaDoor
open Go.RowKit

/-- The letter of a digit; the digits of an id. -/
def digitL (n : Int) : Int := if n < 10 then 48 + n else 87 + n
def hexL (bs : List Int) : List Int := (List.range 64).map fun k => digitL (halfL bs k)

theorem hexL_len (bs : List Int) : (hexL bs).length = 64 := by simp [hexL]
theorem hexL_get (bs : List Int) (k : Nat) (h : k < 64) : (hexL bs)[k]?.getD 0 = digitL (halfL bs k) := by
  unfold hexL
  rw [List.getElem?_map, List.getElem?_range h]
  rfl
theorem halfL_fits (bs : List Int) (ho : Octs bs) (k : Nat) : 0 ≤ halfL bs k ∧ halfL bs k < 16 := by
  have := octs_getD ho (k / 2)
  unfold halfL
  split <;> omega
theorem digit_index (n : Int) (h0 : 0 ≤ n) (h1 : n < 16) (w : World) :
    (Instr.index 9 (.string { data := #[48, 49, 50, 51, 52, 53, 54, 55, 56, 57, 97, 98, 99, 100, 101, 102] }) (.int .u8 n)).run Tryd.prog w = .ok (.int .u8 (digitL n)) w := by
  have h : n = 0 ∨ n = 1 ∨ n = 2 ∨ n = 3 ∨ n = 4 ∨ n = 5 ∨ n = 6 ∨ n = 7 ∨ n = 8 ∨ n = 9 ∨ n = 10 ∨ n = 11 ∨ n = 12 ∨ n = 13 ∨ n = 14 ∨ n = 15 := by omega
  rw [run_index_string w _ _ _ _ Tryd.underlying9]
  rcases h with rfl | rfl | rfl | rfl | rfl | rfl | rfl | rfl | rfl | rfl | rfl | rfl | rfl | rfl | rfl | rfl <;> rfl
theorem kept_rep : madeCells #[.int .u8 0] 64 = (List.replicate 64 (Value.int .u8 0)).toArray := by
  rw [← toList_madeCells_one]

set_option maxRecDepth 100000 in
set_option maxHeartbeats 1000000 in
theorem Hex_any (bs : List Int) (w : World) (hl : bs.length = 32) (ho : Octs bs) :
    Calls Tryd.prog 11 #[.agg (idC bs)] w fun e w' => e = .returned (.string (strOfNums (hexL bs))) ∧ Kept [] w w' := by
  have hmk : ∀ W : World, (Instr.makeSlice 25 (.int .i64 64) (.int .i64 64)).run Tryd.prog W = .ok (.slice (some ⟨W.heap.size, 0, none⟩) 64 64) (W.alloc (.cells (madeCells #[.int .u8 0] 64) 5)) := run_make_row' (P := Tryd.prog) 25 5 (.int .u8 0) 1 Tryd.underlying25 Tryd.info_u8 rfl .i64 .i64 64 (by omega) (by omega)
  have hsz : (Tryd.prog.info? 24).map (·.size) = some (idC bs).size := by rw [idC_size hl]; exact Tryd.infoID
  have HH : Hid (∀ W (k : Nat), k < 64 → Calls Tryd.prog 25 #[.agg (idC bs), .int .i64 k] W fun e w' => e = .returned (.int .u8 (halfL bs k)) ∧ Kept [] W w') := fun W k hk => half_any bs W hl ho k hk
  have HF : Hid (∀ k, 0 ≤ halfL bs k ∧ halfL bs k < 16) := halfL_fits bs ho
  have HG : Hid (∀ k, k < 64 → (hexL bs)[k]?.getD 0 = digitL (halfL bs k)) := hexL_get bs
  have hlen := hexL_len bs
  generalize hexL bs = hs at *
  generalize idC bs = cs at *
  go_enter Tryd.func11, Tryd.ntmps11
  go_wp2
  go_loopw [8] (fun i wr => ∃ k : Nat, k ≤ 64 ∧ i = .int .i64 k ∧ Hid (wr.heap[w.heap.size]? = some (.cells cs 24 (0, 0))) ∧ Hid (wr.heap[w.heap.size + 1]? = some (.cells ((hs.take k ++ (List.replicate 64 0).drop k).map (Value.int .u8)).toArray 5 (0, 0))) ∧ Kept [] w wr) (fun i _ => 64 - (intOf i).toNat)
  case atStart =>
    refine ⟨0, Nat.zero_le _, rfl, ?_, ?_, ((Kept.refl _ _).alloc _).alloc _⟩
    · have h := Below.heap_alloc (w.alloc (.cells cs 24)) (.cells (madeCells #[.int .u8 0] 64) 5) w.heap.size (by simp)
      exact h.trans (heap_alloc_new w _)
    · have h := heap_alloc2_new w (.cells cs 24) (.cells (madeCells #[.int .u8 0] 64) 5)
      have e : madeCells #[.int .u8 0] 64 = ((hs.take 0 ++ (List.replicate 64 0).drop 0).map (Value.int .u8)).toArray := by
        rw [List.take_zero, List.nil_append, List.drop_zero, List.map_replicate]
        exact kept_rep
      exact h.trans (by rw [e])
  case round =>
    obtain ⟨k, hk, rfl, H0, H1, hkw⟩ := hrel
    by_cases hlt : k < 64
    · have hh := HF.out k
      have hhc := HH.out wr k hlt
      have hg := HG.out k hlt
      generalize halfL bs k = n at *
      have hix := fun W => digit_index n hh.1 hh.2 W
      have hcell : ∀ W : World, W.heap[w.heap.size + 1]? = some (.cells ((hs.take k ++ (List.replicate 64 0).drop k).map (Value.int .u8)).toArray 5 (0, 0)) → ∃ u, W.cell? ⟨w.heap.size + 1, k, none⟩ = some u := by
        intro W hW
        rw [cell_of_row _ _ _ _ _ _ hW]
        exact ⟨_, Array.getElem?_eq_getElem (by simp; omega)⟩
      have hb0 := lt_of_block H0.out
      have hb1 := lt_of_block H1.out
      go_wp2_with (first
        | (refine wpList_load_row rfl 24 (.tmp 1) rfl w.heap.size rfl 24 cs (0, 0) _ H0.out Tryd.underlying24 rfl hsz ?_)
        | (go_at_call 25; refine hhc.mono ?_; rintro e w2 ⟨rfl, hk2⟩
           have H02 : Hid _ := hk2.heap H0.out (by simp)
           have H12 : Hid (w2.heap[w.heap.size + 1]? = some (.cells ((hs.take k ++ (List.replicate 64 0).drop k).map (Value.int .u8)).toArray 5 (0, 0))) := hk2.heap H1.out (by simp)
           obtain ⟨u1, c1⟩ := hcell w2 H12.out
           have f1 := frozen_of_row w2 (w.heap.size + 1) k _ _ H12.out
           skip))
      go_roundw
      case rel =>
        refine ⟨k + 1, by omega, by go_num, (heap_setCell_other _ _ _ _ (by simp)).trans H02.out, ?_, (hkw.then hk2).setCell (Or.inr (by simp)) _⟩
        have h := row_put H12.out k (digitL n)
        rw [← hg, mid_put hs _ k (by omega) (by simp; omega)] at h
        rw [hg] at h
        exact h
      case measure => simp [intOf]; omega
    · obtain rfl : k = 64 := by omega
      have hcv := (row_bytes' H1.out).conv
      rw [List.take_of_length_le (by omega), List.drop_eq_nil_of_le (by simp), List.append_nil, hlen] at hcv
      go_wp2
      go_ret
      exact ⟨rfl, hkw⟩
end Go.Proofs.YtlljiipmkjjhhaaDoor
