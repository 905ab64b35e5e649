/-
  WALK: satchellaw2.right answers true.
-/
import Derived.Test.YtdjfcackiclepaaDoorSha8
import Derived.KernelRfl
import Derived.Lib.SlBytesConst
namespace Go.Proofs.YtdjfcackiclepaaDoor
open Go.RowKit

theorem abc_hex : strOfNums (hexL (digL [97, 98, 99])) = { data := #[98, 97, 55, 56, 49, 54, 98, 102, 56, 102, 48, 49, 99, 102, 101, 97, 52, 49, 52, 49, 52, 48, 100, 101, 53, 100, 97, 101, 50, 50, 50, 51, 98, 48, 48, 51, 54, 49, 97, 51, 57, 54, 49, 55, 55, 97, 57, 99, 98, 52, 49, 48, 102, 102, 54, 49, 102, 50, 48, 48, 49, 53, 97, 100] } := by kernel_rfl

theorem row_bytes_any {w : World} {q : Nat} {fr : Nat × Nat} {ys : List Int} (h : w.heap[q]? = some (.cells (ys.map (Value.int .u8)).toArray 5 fr)) : BytesAt w (.slice (some ⟨q, 0, none⟩) ys.length ys.length) ys := by
  refine ⟨_, _, rfl, Nat.le_refl _, fun e => (by simp at e), fun _ => ⟨q, 0, rfl, fun i u hu => ?_⟩⟩
  rw [cell_of_row _ _ _ _ _ _ h, Nat.zero_add, ← Array.getElem?_toList]
  simp [hu]

set_option maxRecDepth 100000 in
set_option maxHeartbeats 4000000 in
theorem right2_any (w : World) (hV : Vars w) : Calls Tryd.prog 7 #[] w fun e w' => e = .returned (.bool true) ∧ Kept [] w w' := by
  have HS := Sum_any (w.alloc (.cells #[.int .u8 97, .int .u8 98, .int .u8 99] 5 (3, 4))) (.slice (some ⟨w.heap.size, 0, none⟩) 3 3) [97, 98, 99] (hV.kept ((Kept.refl [] w).alloc _) (by simp) (by simp)) (row_bytes_any (ys := [97, 98, 99]) (heap_alloc_new w _)) (by intro u hu; simp at hu; omega) (by decide)
  have HX := fun W => Hex_any (digL [97, 98, 99]) W (digL_len _) (digL_octs _)
  rw [abc_hex] at HX
  generalize idC (digL [97, 98, 99]) = ic at *
  have kc := fun (w : World) (C : Array Value) (n c : Nat) => Lib.run_convert_bytes_const (P := Tryd.prog) w 24 5 C n c Tryd.underlying24 Tryd.underlying5
  go_enter Tryd.func7, Tryd.ntmps7
  go_wp2_with (first
    | (go_at_call 9; refine HS.mono ?_; rintro e w1 ⟨rfl, hk1⟩)
    | (go_at_call 8; refine (HX _).mono ?_; rintro e w2 ⟨rfl, hk2⟩))
  go_ret
  exact ⟨rfl, (((Kept.refl [] w).alloc _).then hk1).then hk2⟩
end Go.Proofs.YtdjfcackiclepaaDoor
