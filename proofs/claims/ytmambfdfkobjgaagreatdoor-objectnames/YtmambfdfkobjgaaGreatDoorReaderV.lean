/-
  WALKS: code.Read and a Reader's Left, for every Reader.
  WALKS: the methods of a Reader: Var and Raw; the number of a fault.
-/
import Derived.Test.YtmambfdfkobjgaaGreatDoorTake
namespace Go.Proofs.YtmambfdfkobjgaaGreatDoor
open Go.RowKit

set_option maxHeartbeats 400000 in
theorem Read_any (v : Value) (ys : List Int) (w : World) (h : BytesAt w v ys) (hm : ys.length ≤ 140737488355328) (ho : Octs ys) :
    Calls Tryz.prog 42 #[v] w fun e w' => ∃ r g, e = .returned (.pointer (some ⟨r, 0, none⟩)) ∧ Rdr w' r g ys 0 0 ∧ Kept [] w w' ∧ w.heap.size ≤ r ∧ w.heap.size ≤ g := by
  have hcall := copied_any v ys w h hm
  obtain ⟨ao, cap, rfl, _⟩ := h
  go_enter Tryz.func42, Tryz.ntmps42
  go_wp2_with (go_at_call 41; refine hcall.mono ?_; rintro e w1 ⟨rfl, hg, hk⟩; have HG : Hid _ := hg; clear hg)
  go_ret
  have hlt := lt_of_block HG.out
  refine ⟨w1.heap.size, w.heap.size, rfl, ⟨heap_alloc_new w1 _, (Below.heap_alloc w1 _ _ hlt).trans HG.out, by omega, Nat.zero_le _, hm, ho⟩, hk.alloc _, hk.size, Nat.le_refl _⟩

theorem Left_any {w : World} {r g : Nat} {xs : List Int} {pl f : Nat} (R : Rdr w r g xs pl f) : Calls Tryz.prog 45 #[.pointer (some ⟨r, 0, none⟩)] w fun e w' => e = .returned (.int .i64 ((xs.length : Int) - pl)) ∧ ∃ n, w' = w.drewN n := by
  obtain ⟨d0, d1, d2, d3, d4⟩ := R.facts
  have hle := R.le
  have hsm := R.small
  clear R
  go_enter Tryz.func45, Tryz.ntmps45
  go_wp2
  go_quiet (fail)
  go_wp2
  go_ret
  exact ⟨rfl, _, rfl⟩

/-- A number of so few bytes is small. -/
theorem take_lt (xs : List Int) (ho : Octs xs) (pl f size : Nat) : 0 ≤ (takeL xs pl f 0 size 0).n ∧ (takeL xs pl f 0 size 0).n < 256 ^ size := by
  have hp : (0 : Int) < 256 ^ size := Int.pow_pos (by decide)
  unfold takeL
  split
  · exact ⟨Int.le_refl _, hp⟩
  · split
    · exact ⟨Int.le_refl _, hp⟩
    · have e : lookL (xs.drop pl) 0 size 0 = fixedL (xs.drop pl) size := by unfold lookL; rw [if_pos rfl, Int.toNat_natCast]
      rename_i h1 h2
      rw [e] at h2 ⊢
      unfold fixedL at h2 ⊢
      by_cases hl : (xs.drop pl).length < size
      · rw [if_pos hl] at h2; simp at h2
      · rw [if_neg hl]
        have hb := be_from ((xs.drop pl).take size) (octs_take (octs_drop ho pl) size) 0 (by omega)
        have h3 : ((xs.drop pl).take size).length = size := by rw [List.length_take]; omega
        rw [h3] at hb
        refine ⟨hb.1, ?_⟩
        have h4 : be ((xs.drop pl).take size) < (0 + 1) * 256 ^ size := hb.2
        show be ((xs.drop pl).take size) < 256 ^ size
        omega

end Go.Proofs.YtmambfdfkobjgaaGreatDoor

namespace Go.Proofs.YtmambfdfkobjgaaGreatDoor
open Go.RowKit

def errL : Nat → Int
  | 0 => 0
  | 1 => 10
  | 2 => 11
  | 3 => 12
  | 4 => 14
  | _ => 0

theorem errno_any (f : Nat) (w : World) (hf : f ≤ 4) : Calls Tryz.prog 76 #[.int .i64 f] w fun e w' => e = .returned (.int .i64 (errL f)) ∧ w' = w := by
  match f, hf with
  | 0, _ => go_enter Tryz.func76, Tryz.ntmps76; go_wp2; go_ret; exact ⟨rfl, rfl⟩
  | 1, _ => go_enter Tryz.func76, Tryz.ntmps76; go_wp2; go_ret; exact ⟨rfl, rfl⟩
  | 2, _ => go_enter Tryz.func76, Tryz.ntmps76; go_wp2; go_ret; exact ⟨rfl, rfl⟩
  | 3, _ => go_enter Tryz.func76, Tryz.ntmps76; go_wp2; go_ret; exact ⟨rfl, rfl⟩
  | 4, _ => go_enter Tryz.func76, Tryz.ntmps76; go_wp2; go_ret; exact ⟨rfl, rfl⟩
  | _ + 5, h => omega

set_option maxHeartbeats 400000 in
theorem Var_any {w : World} {r g : Nat} {xs : List Int} {pl f : Nat} (R : Rdr w r g xs pl f) (most : Int) (hm : most ≤ 18446744073709551615) (y : Took) (hy : Hid (y = takeL xs pl f 1 0 most)) :
    Calls Tryz.prog 72 #[.pointer (some ⟨r, 0, none⟩), .int .u64 most] w fun e w' => e = .returned (.int .u64 y.n) ∧ Rdr w' r g xs y.pl y.f ∧ Kept [r] w w' := by
  have hcall := take_any w r g xs pl f 1 0 most R (by decide) (by decide) hm y hy
  clear R hy
  go_enter Tryz.func72, Tryz.ntmps72
  go_wp2_with (go_at_call 71; refine hcall.mono ?_; rintro e w1 ⟨tv, rfl, hb, hr, hk⟩)
  go_ret
  exact ⟨rfl, hr, hk⟩

theorem take_len (xs : List Int) (pl f : Nat) (kind size most : Int) : (takeL xs pl f kind size most).text.length ≤ xs.length := by
  unfold takeL
  split
  · exact Nat.zero_le _
  · split
    · exact Nat.zero_le _
    · simp only [List.length_drop, List.length_take]; omega

set_option maxHeartbeats 400000 in
theorem Raw_any {w : World} {r g : Nat} {xs : List Int} {pl f : Nat} (R : Rdr w r g xs pl f) (n : Int) (hn : n ≤ 9223372036854775807) (y : Took) (hy : Hid (y = takeL xs pl f 3 n 0)) :
    Calls Tryz.prog 44 #[.pointer (some ⟨r, 0, none⟩), .int .i64 n] w fun e w' =>
      ∃ q, e = .returned (.slice (some ⟨q, 0, none⟩) y.text.length y.text.length) ∧ w'.heap[q]? = some (.cells (y.text.map (Value.int .u8)).toArray 5 (0, 0)) ∧ w.heap.size ≤ q ∧ Rdr w' r g xs y.pl y.f ∧ Kept [r] w w' := by
  have hcall := take_any w r g xs pl f 3 n 0 R (fun h => absurd h (by decide)) hn (by decide) y hy
  have hlen : y.text.length ≤ 140737488355328 := by rw [hy.out]; exact Nat.le_trans (take_len _ _ _ _ _ _) R.small
  clear R hy
  go_enter Tryz.func44, Tryz.ntmps44
  go_wp2_with (first | (go_at_call 71; refine hcall.mono ?_; rintro e w1 ⟨tv, rfl, hb, hr, hk⟩) | (go_at_call 41; refine (copied_any _ y.text _ (by assumption) hlen).mono ?_; rintro e w2 ⟨rfl, hq, hk2⟩; have HQ : Hid _ := hq; clear hq))
  go_ret
  exact ⟨w1.heap.size, rfl, HQ.out, hk.size, hr.kept hk2 (by simp) (by simp), hk.trans hk2 (by simp)⟩

end Go.Proofs.YtmambfdfkobjgaaGreatDoor
