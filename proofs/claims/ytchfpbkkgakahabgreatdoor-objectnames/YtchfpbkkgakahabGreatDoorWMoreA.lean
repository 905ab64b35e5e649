/-
  WALKS: (*code.Writer).U8, U64 and Bytes, for every Writer.
-/
import Derived.Test.YtchfpbkkgakahabGreatDoorWFixed
import Derived.Test.YtchfpbkkgakahabGreatDoorWVar
namespace Go.Proofs.YtchfpbkkgakahabGreatDoor
open Go.RowKit

/-- As 'BytesAt.kept': of an empty slice nothing is asked. -/
theorem BytesAt.keep {S : List Nat} {w w' : World} {v : Value} {ys : List Int} (h : BytesAt w v ys) (hk : Kept S w w') (hn : ys ≠ [] → ∀ b, blkOf v = some b → b ∉ S) : BytesAt w' v ys := by
  obtain ⟨ao, cap, rfl, hc, hnil, hcell⟩ := h
  refine ⟨ao, cap, rfl, hc, hnil, fun hne => ?_⟩
  obtain ⟨b, off, rfl, hh⟩ := hcell hne
  exact ⟨b, off, rfl, fun i u hu => hk.cell (hh i u hu) (hn hne b rfl)⟩

set_option maxHeartbeats 400000 in
theorem WU8_any {w : World} {wb B : Nat} {zs : List Int} {S : List Nat} (h : WAt w wb B zs S) (hBw : B ≤ w.heap.size) (n : Int) (hn0 : 0 ≤ n) (hn1 : n ≤ 255) (hm : zs.length + 8 ≤ 140737488355328) :
    Calls Tryz.prog 189 #[.pointer (some ⟨wb, 0, none⟩), .int .u8 n] w fun e w' => e = .returned (.tuple #[]) ∧ Wrote w w' wb B (zs ++ fixedB n 1) S := by
  have hcall := WFixed_any h hBw n 1 (by decide) hm
  clear h
  go_enter Tryz.func189, Tryz.ntmps189
  go_wp2_with (go_at_call 191; refine hcall.mono ?_; rintro e w1 ⟨rfl, hw⟩)
  go_end0
  exact ⟨rfl, hw⟩

set_option maxHeartbeats 400000 in
theorem WU64_any {w : World} {wb B : Nat} {zs : List Int} {S : List Nat} (h : WAt w wb B zs S) (hBw : B ≤ w.heap.size) (n : Int) (hm : zs.length + 8 ≤ 140737488355328) :
    Calls Tryz.prog 204 #[.pointer (some ⟨wb, 0, none⟩), .int .u64 n] w fun e w' => e = .returned (.tuple #[]) ∧ Wrote w w' wb B (zs ++ fixedB n 8) S := by
  have hcall := WFixed_any h hBw n 8 (by decide) hm
  clear h
  go_enter Tryz.func204, Tryz.ntmps204
  go_wp2_with (go_at_call 191; refine hcall.mono ?_; rintro e w1 ⟨rfl, hw⟩)
  go_end0
  exact ⟨rfl, hw⟩

set_option maxHeartbeats 400000 in
theorem WBytes_any {w : World} {wb B : Nat} {zs : List Int} {S : List Nat} (h : WAt w wb B zs S) (hBw : B ≤ w.heap.size) (v : Value) (ys : List Int) (hv : BytesAt w v ys) (hd : ys ≠ [] → ∀ b, blkOf v = some b → b ∉ S) (hoy : Octs ys)
    (hm : zs.length + 10 + ys.length ≤ 140737488355328) :
    Calls Tryz.prog 198 #[.pointer (some ⟨wb, 0, none⟩), v] w fun e w' => e = .returned (.tuple #[]) ∧ Wrote w w' wb B (zs ++ varB ys.length ++ ys) S := by
  have hvl := varB_len (ys.length : Int) (by omega) (by omega)
  have hcall := WVar_any h hBw (ys.length : Int) (by omega) (by omega) (by omega)
  have hraw : ∀ w1, Wrote w w1 wb B (zs ++ varB ys.length) S → Calls Tryz.prog 190 #[.pointer (some ⟨wb, 0, none⟩), v] w1 fun e w' => e = .returned (.tuple #[]) ∧ Wrote w w' wb B (zs ++ varB ys.length ++ ys) S := by
    rintro w1 ⟨S1, hw1, hk1, hs1⟩
    refine (WRaw_any hw1 (Nat.le_trans hBw hk1.size) v ys (hv.keep hk1 hd) hoy (by simp; omega)).mono ?_
    rintro e w2 ⟨he, hw2⟩
    exact ⟨he, Wrote.trans hk1 hs1 hw2⟩
  obtain ⟨ao, cap, rfl, _⟩ := hv
  have HW : Hid _ := hraw
  clear h hd hraw
  go_enter Tryz.func198, Tryz.ntmps198
  go_wp2_with (first | (go_at_call 195; refine hcall.mono ?_; rintro e w1 ⟨rfl, hw⟩) | (go_at_call 190; refine (HW.out _ hw).mono ?_; rintro e w2 ⟨rfl, hw2⟩))
  go_end0
  exact ⟨rfl, hw2⟩

end Go.Proofs.YtchfpbkkgakahabGreatDoor
