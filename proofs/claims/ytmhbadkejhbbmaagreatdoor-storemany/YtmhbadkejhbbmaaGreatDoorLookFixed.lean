/-
  WALK: code.copied, for every slice of bytes: a new row that holds the same bytes.
  WALK: code.lookFixed, for every slice of bytes and size 1 to 8.
-/
import Derived.Test.YtmhbadkejhbbmaaGreatDoorU8
import Derived.Test.YtmhbadkejhbbmaaGreatDoorPlain
import Derived.Outline
namespace Go.Proofs.YtmhbadkejhbbmaaGreatDoor
open Go.RowKit

set_option maxHeartbeats 400000 in
theorem copied_any (v : Value) (ys : List Int) (w : World) (h : BytesAt w v ys) (hm : ys.length ≤ 140737488355328) :
    Calls Tryz.prog 71 #[v] w fun e w' => e = .returned (.slice (some ⟨w.heap.size, 0, none⟩) ys.length ys.length) ∧
      w'.heap[w.heap.size]? = some (.cells (ys.map (Value.int .u8)).toArray 5 (0, 0)) ∧ Kept [] w w' := by
  obtain ⟨ao, cap, rfl, hc, hnil, hcell⟩ := h
  have hmk := run_make_row' (P := Tryz.prog) 33 5 (.int .u8 0) 1 Tryz.underlying33 Tryz.info_u8 rfl .i64 .i64 ys.length (by omega) (by omega)
  obtain ⟨cs, hcs⟩ : ∃ cs, cs = ys.map (Value.int .u8) := ⟨_, rfl⟩
  have HC : Hid (cs = ys.map (Value.int .u8)) := hcs
  clear hcs
  go_enter Tryz.func71, Tryz.ntmps71
  go_wp2_with (refine wpList_copy_splice rfl (.tmp 7) (.tmp 8) 33 33 rfl 5 Tryz.underlying33 Tryz.size_u8 _ _ _ _ _ _ rfl rfl w.heap.size 0 (List.replicate ys.length (.int .u8 0)) 5 ?cg cs ?cn ?cp ?cf ?co w.heap.size w ?cb (Nat.le_refl _) ?_)
  case cg => rw [← toList_madeCells_one]; exact heap_alloc_new w _
  case cn => rw [HC.out]; simp
  case cp =>
    intro h0
    rw [HC.out] at h0
    obtain ⟨b, off, rfl, hh⟩ := hcell (by rintro rfl; simp at h0)
    refine ⟨_, rfl, fun j u hu => ?_⟩
    rw [HC.out] at hu
    simp only [List.getElem?_map, Option.map_eq_some_iff] at hu
    obtain ⟨z, hz, rfl⟩ := hu
    rw [Addr.add_mid, World.cell?_alloc_lt]
    · exact hh j z hz
    · exact World.block_lt_of_cell? w _ (hh j z hz)
  case cf => rw [HC.out]; simp
  case co => rw [HC.out]; exact map_oneCell ys
  case cb => exact (Below.refl _ _).alloc (Nat.le_refl _) _
  intro w2 hg hb
  go_wp2
  go_ret
  refine ⟨rfl, ?_, kept_of_below hb⟩
  rw [hg.out, splice_all _ _ _ (by rw [HC.out]; simp), HC.out]

end Go.Proofs.YtmhbadkejhbbmaaGreatDoor

namespace Go.Proofs.YtmhbadkejhbbmaaGreatDoor
open Go.RowKit

set_option maxHeartbeats 400000 in
theorem lookFixed_yes (b off cap : Nat) (ys : List Int) (size : Nat) (w : World) (hs0 : 1 ≤ size) (hs : size ≤ 8) (hlen : size ≤ ys.length) (hm : ys.length ≤ 140737488355328) (ho : Octs ys)
    (hcell : ∀ i, i < ys.length → w.cell? ⟨b, off + i, none⟩ = some (.int .u8 (ys[i]?.getD 0))) :
    Calls Tryz.prog 108 #[.slice (some ⟨b, off, none⟩) ys.length cap, .int .i64 size] w fun e w' =>
      e = .returned (.tuple #[.agg #[.int .u64 (be (ys.take size)), .int .i64 size, .int .i64 size], .int .i64 0]) ∧ Kept [] w w' := by
  go_enter Tryz.func108, Tryz.ntmps108
  go_wp2
  go_loop [6, 14] (fun n i => ∃ k : Nat, k ≤ size ∧ i = .int .i64 k ∧ n = .int .u64 (be (ys.take k))) (fun _ i => size - (intOf i).toNat)
  case atStart => exact ⟨0, Nat.zero_le _, rfl, rfl⟩
  case round =>
    obtain ⟨k, hk, rfl, rfl⟩ := hrel
    by_cases hlt : k < size
    · have hb := be_le8 (ys.take k) (octs_take ho k) (by simp; omega)
      have hx := octs_getD ho k
      have hc : (w.alloc (.cells #[.int .u64 0, .int .i64 0, .int .i64 0] 161)).cell? ⟨b, off + k, none⟩ = some (.int .u8 (ys[k]?.getD 0)) := by
        rw [World.cell?_alloc_lt]
        · exact hcell k (by omega)
        · exact World.block_lt_of_cell? w _ (hcell k (by omega))
      have hst := be_step (be (ys.take k)) (ys[k]?.getD 0) hb.1 hb.2 hx.1 hx.2
      have hsn := be_snoc (ys.take k) (ys[k]?.getD 0)
      have hts := take_snoc ys k (by omega)
      have HF : Hid (bits .or .u64 (be (ys.take k) * 256) (ys[k]?.getD 0) = be (ys.take (k + 1))) := by rw [hst, hts, ← hsn]; rfl
      clear hst hsn hts
      go_wp2
      go_round
      case rel => exact ⟨k + 1, by omega, by go_num, by rw [HF.out]⟩
      case measure => simp [intOf]; omega
    · obtain rfl : k = size := by omega
      go_wp2
      exact bodyPost_ret (v := .tuple #[.agg #[.int .u64 (be (ys.take k)), .int .i64 k, .int .i64 k], .int .i64 0]) (by simp [results, Tryz.results108, go_sem]) rfl ⟨rfl, (Kept.refl _ _).alloc _⟩

/-- The same where the bytes are too few. -/
theorem lookFixed_no (ao : Option Addr) (n cap : Nat) (size : Nat) (w : World) (hlen : n < size) :
    Calls Tryz.prog 108 #[.slice ao n cap, .int .i64 size] w fun e w' =>
      e = .returned (.tuple #[.agg #[.int .u64 0, .int .i64 0, .int .i64 0], .int .i64 1]) ∧ Kept [] w w' := by
  go_enter Tryz.func108, Tryz.ntmps108
  go_wp2
  exact bodyPost_ret (v := .tuple #[.agg #[.int .u64 0, .int .i64 0, .int .i64 0], .int .i64 1]) (by simp [results, Tryz.results108, go_sem]) rfl ⟨rfl, (Kept.refl _ _).alloc _⟩

end Go.Proofs.YtmhbadkejhbbmaaGreatDoor
