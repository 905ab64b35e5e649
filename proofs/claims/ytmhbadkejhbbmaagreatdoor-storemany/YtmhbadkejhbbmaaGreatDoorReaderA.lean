/-
  WALKS: code.Read and a Reader's Left, for every Reader.
-/
import Derived.Test.YtmhbadkejhbbmaaGreatDoorTake
namespace Go.Proofs.YtmhbadkejhbbmaaGreatDoor
open Go.RowKit

set_option maxHeartbeats 400000 in
theorem Read_any (v : Value) (ys : List Int) (w : World) (h : BytesAt w v ys) (hm : ys.length ≤ 140737488355328) (ho : Octs ys) :
    Calls Tryz.prog 54 #[v] w fun e w' => ∃ r g, e = .returned (.pointer (some ⟨r, 0, none⟩)) ∧ Rdr w' r g ys 0 0 ∧ Kept [] w w' ∧ w.heap.size ≤ r ∧ w.heap.size ≤ g := by
  have hcall := copied_any v ys w h hm
  obtain ⟨ao, cap, rfl, _⟩ := h
  go_enter Tryz.func54, Tryz.ntmps54
  go_wp2_with (go_at_call 71; refine hcall.mono ?_; rintro e w1 ⟨rfl, hg, hk⟩; have HG : Hid _ := hg; clear hg)
  go_ret
  have hlt := lt_of_block HG.out
  refine ⟨w1.heap.size, w.heap.size, rfl, ⟨heap_alloc_new w1 _, (Below.heap_alloc w1 _ _ hlt).trans HG.out, by omega, Nat.zero_le _, hm, ho⟩, hk.alloc _, hk.size, Nat.le_refl _⟩

theorem Left_any {w : World} {r g : Nat} {xs : List Int} {pl f : Nat} (R : Rdr w r g xs pl f) : Calls Tryz.prog 57 #[.pointer (some ⟨r, 0, none⟩)] w fun e w' => e = .returned (.int .i64 ((xs.length : Int) - pl)) ∧ ∃ n, w' = w.drewN n := by
  obtain ⟨d0, d1, d2, d3, d4⟩ := R.facts
  have hle := R.le
  have hsm := R.small
  clear R
  go_enter Tryz.func57, Tryz.ntmps57
  go_wp2
  go_quiet (fail)
  go_wp2
  go_ret
  exact ⟨rfl, _, rfl⟩

/-- A number of so few bytes is small. -/
theorem take_lt (xs : List Int) (ho : Octs xs) (pl f size : Nat) : 0 ≤ (takeL xs pl f 0 size 0).n ∧ (takeL xs pl f 0 size 0).n < 256 ^ size := by
  have hp : (0 : Int) < 256 ^ size := Int.pow_pos (by decide)
  unfold takeL
  split
  · exact ⟨Int.le_refl _, hp⟩
  · split
    · exact ⟨Int.le_refl _, hp⟩
    · have e : lookL (xs.drop pl) 0 size 0 = fixedL (xs.drop pl) size := by unfold lookL; rw [if_pos rfl, Int.toNat_natCast]
      rename_i h1 h2
      rw [e] at h2 ⊢
      unfold fixedL at h2 ⊢
      by_cases hl : (xs.drop pl).length < size
      · rw [if_pos hl] at h2; simp at h2
      · rw [if_neg hl]
        have hb := be_from ((xs.drop pl).take size) (octs_take (octs_drop ho pl) size) 0 (by omega)
        have h3 : ((xs.drop pl).take size).length = size := by rw [List.length_take]; omega
        rw [h3] at hb
        refine ⟨hb.1, ?_⟩
        have h4 : be ((xs.drop pl).take size) < (0 + 1) * 256 ^ size := hb.2
        show be ((xs.drop pl).take size) < 256 ^ size
        omega

end Go.Proofs.YtmhbadkejhbbmaaGreatDoor
