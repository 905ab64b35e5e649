/-
  WALK: code.lookFixed, for every slice of bytes and size 1 to 8.
-/
import Derived.Test.YtbphibolgckmnaaGreatDoorCopied
import Derived.Test.YtbphibolgckmnaaGreatDoorPlain
import Derived.Outline
namespace Go.Proofs.YtbphibolgckmnaaGreatDoor
open Go.RowKit

set_option maxHeartbeats 400000 in
theorem lookFixed_yes (b off cap : Nat) (ys : List Int) (size : Nat) (w : World) (hs0 : 1 ≤ size) (hs : size ≤ 8) (hlen : size ≤ ys.length) (hm : ys.length ≤ 140737488355328) (ho : Octs ys)
    (hcell : ∀ i, i < ys.length → w.cell? ⟨b, off + i, none⟩ = some (.int .u8 (ys[i]?.getD 0))) :
    Calls Tryz.prog 108 #[.slice (some ⟨b, off, none⟩) ys.length cap, .int .i64 size] w fun e w' =>
      e = .returned (.tuple #[.agg #[.int .u64 (be (ys.take size)), .int .i64 size, .int .i64 size], .int .i64 0]) ∧ Kept [] w w' := by
  go_enter Tryz.func108, Tryz.ntmps108
  go_wp2
  go_loop [6, 14] (fun n i => ∃ k : Nat, k ≤ size ∧ i = .int .i64 k ∧ n = .int .u64 (be (ys.take k))) (fun _ i => size - (intOf i).toNat)
  case atStart => exact ⟨0, Nat.zero_le _, rfl, rfl⟩
  case round =>
    obtain ⟨k, hk, rfl, rfl⟩ := hrel
    by_cases hlt : k < size
    · have hb := be_le8 (ys.take k) (octs_take ho k) (by simp; omega)
      have hx := octs_getD ho k
      have hc : (w.alloc (.cells #[.int .u64 0, .int .i64 0, .int .i64 0] 161)).cell? ⟨b, off + k, none⟩ = some (.int .u8 (ys[k]?.getD 0)) := by
        rw [World.cell?_alloc_lt]
        · exact hcell k (by omega)
        · exact World.block_lt_of_cell? w _ (hcell k (by omega))
      have hst := be_step (be (ys.take k)) (ys[k]?.getD 0) hb.1 hb.2 hx.1 hx.2
      have hsn := be_snoc (ys.take k) (ys[k]?.getD 0)
      have hts := take_snoc ys k (by omega)
      have HF : Hid (bits .or .u64 (be (ys.take k) * 256) (ys[k]?.getD 0) = be (ys.take (k + 1))) := by rw [hst, hts, ← hsn]; rfl
      clear hst hsn hts
      go_wp2
      go_round
      case rel => exact ⟨k + 1, by omega, by go_num, by rw [HF.out]⟩
      case measure => simp [intOf]; omega
    · obtain rfl : k = size := by omega
      go_wp2
      exact bodyPost_ret (v := .tuple #[.agg #[.int .u64 (be (ys.take k)), .int .i64 k, .int .i64 k], .int .i64 0]) (by simp [results, Tryz.results108, go_sem]) rfl ⟨rfl, (Kept.refl _ _).alloc _⟩

/-- The same where the bytes are too few. -/
theorem lookFixed_no (ao : Option Addr) (n cap : Nat) (size : Nat) (w : World) (hlen : n < size) :
    Calls Tryz.prog 108 #[.slice ao n cap, .int .i64 size] w fun e w' =>
      e = .returned (.tuple #[.agg #[.int .u64 0, .int .i64 0, .int .i64 0], .int .i64 1]) ∧ Kept [] w w' := by
  go_enter Tryz.func108, Tryz.ntmps108
  go_wp2
  exact bodyPost_ret (v := .tuple #[.agg #[.int .u64 0, .int .i64 0, .int .i64 0], .int .i64 1]) (by simp [results, Tryz.results108, go_sem]) rfl ⟨rfl, (Kept.refl _ _).alloc _⟩

end Go.Proofs.YtbphibolgckmnaaGreatDoor
