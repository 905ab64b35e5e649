/-
  WALKS: satchellaw7.num, lives.
-/
import Derived.Test.YtldhbcppnoldiaaDl3
import Derived.Test.YtldhbcppnoldiaaEqAn
import Derived.Lib.SlBytesConst
namespace Go.Proofs.Ytldhbcppnoldiaa
open Go.RowKit

theorem num7_any (n : Int) (w : World) : Calls Try.prog 23 #[.int .i64 n] w fun e w' => e = .returned (.int .i64 n) ∧ w' = w := by
  go_enter Try.func23, Try.ntmps23
  go_wp2
  go_ret
  exact ⟨rfl, rfl⟩
theorem lives_plain : applyL [97, 98] [2, 3, 5, 0, 2, 99] = (0, [97, 98, 99]) := by decide +kernel
theorem own_blk (v : Value) : v.ownBlock = blkOf v := by cases v <;> rfl
theorem row_fr {w : World} {q : Nat} {fr : Nat × Nat} {ys : List Int} (h : w.heap[q]? = some (.cells (ys.map (Value.int .u8)).toArray 5 fr)) : BytesAt w (.slice (some ⟨q, 0, none⟩) ys.length ys.length) ys := by
  refine ⟨_, _, rfl, Nat.le_refl _, fun e => (by simp at e), fun _ => ⟨q, 0, rfl, fun i u hu => ?_⟩⟩
  rw [cell_of_row w q (0 + i) _ _ _ h, Nat.zero_add]
  simp only [List.getElem?_toArray, List.getElem?_map, hu, Option.map_some]
theorem lit_fr (w : World) (ys : List Int) (n : Nat) (fr : Nat × Nat) (hn : n = ys.length) : BytesAt (w.alloc (.cells (ys.map (Value.int .u8)).toArray 5 fr)) (.slice (some ⟨w.heap.size, 0, none⟩) n n) ys := by
  rw [hn]
  exact row_fr (heap_alloc_new w _)
theorem lit_bytes (w : World) (ys : List Int) (n : Nat) (hn : n = ys.length) : BytesAt (w.alloc (.cells (ys.map (Value.int .u8)).toArray 5)) (.slice (some ⟨w.heap.size, 0, none⟩) n n) ys := by
  rw [hn]
  exact raw_row (heap_alloc_new w _)

set_option maxRecDepth 100000 in
set_option maxHeartbeats 4000000 in
theorem lives_any (w : World) : Calls Try.prog 20 #[] w fun e w' => e = .returned (.bool true) ∧ Kept [] w w' := by
  have b0 : BytesAt (w.alloc (.cells #[.int .u8 97, .int .u8 98] 5 (2, 3))) (.slice (some ⟨w.heap.size, 0, none⟩) 2 2) [97, 98] := lit_fr w [97, 98] 2 (2, 3) rfl
  have b1 : BytesAt ((w.alloc (.cells #[.int .u8 97, .int .u8 98] 5 (2, 3))).alloc (.cells #[.int .u8 2, .int .u8 3, .int .u8 5, .int .u8 0, .int .u8 2, .int .u8 99] 5)) (.slice (some ⟨w.heap.size + 1, 0, none⟩) 6 6) [2, 3, 5, 0, 2, 99] := by
    have h := lit_bytes (w.alloc (.cells #[.int .u8 97, .int .u8 98] 5 (2, 3))) [2, 3, 5, 0, 2, 99] 6 rfl
    rw [World.size_alloc] at h
    exact h
  have o1 : Octs [2, 3, 5, 0, 2, 99] := by unfold Octs; decide
  have happ := Apply_any (b0.kept (S := []) ((Kept.refl _ _).alloc _) (fun _ _ => by simp)) b1 o1 (by decide) (0, [97, 98, 99]) lives_plain.symm
  have hcv := fun (W : World) (C : Array Value) (n c : Nat) => Lib.run_convert_bytes_const (P := Try.prog) W 22 5 C n c Try.underlying22 Try.underlying5
  clear b0 b1
  go_enter Try.func20, Try.ntmps20
  go_wp2_with fail
  go_at_call 25
  refine happ.mono ?_
  rintro e w1 ⟨v, rfl, t1, t2, t3⟩
  have HK : Hid (Kept [] w w1) := (((Kept.refl [] w).alloc _).alloc _).then t2
  have HT : Hid (BytesAt w1 v [97, 98, 99]) := t1
  obtain ⟨av, cv, rfl, _⟩ := t1
  clear happ t2 t3
  have b2 : BytesAt (w1.alloc (.cells #[.int .u8 97, .int .u8 98, .int .u8 99] 5 (3, 4))) (.slice (some ⟨w1.heap.size, 0, none⟩) 3 3) [97, 98, 99] := lit_fr w1 [97, 98, 99] 3 (3, 4) rfl
  have heq := Eq_same (HT.out.kept (S := []) ((Kept.refl _ _).alloc (.cells #[.int .u8 97, .int .u8 98, .int .u8 99] 5 (3, 4))) (fun _ _ => by simp)) b2 (by decide)
  have hnum := num7_any 0 w1
  clear b2
  go_wp2_with fail
  go_at_call 23
  refine hnum.mono ?_
  rintro e w2 ⟨rfl, hw2⟩
  subst w2
  go_wp2_with fail
  go_at_call 19
  refine heq.mono ?_
  rintro e w2 ⟨rfl, n2, rfl⟩
  go_wp2
  go_ret
  exact ⟨rfl, (HK.out.alloc _).drewN n2⟩
end Go.Proofs.Ytldhbcppnoldiaa
