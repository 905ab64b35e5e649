/-
  WALKS: bytes.Equal, bytes.Clone; (*store.Store).Get, Remove; satchellaw4.num, into.
-/
import Derived.Test.YtmhbadkejhbbmaaGreatDoorSk2
namespace Go.Proofs.YtmhbadkejhbbmaaGreatDoor
open Go.RowKit Go.WideMaps

theorem own_rowS {w : World} {g : Nat} {ys : List Int} (h : w.heap[g]? = some (.cells (ys.map (Value.int .u8)).toArray 5 (0, 0))) (hm : ys.length ≤ 140737488355328) : OwnB w g (.slice (some ⟨g, 0, none⟩) ys.length ys.length) ys :=
  ⟨by simp, Or.inr ⟨g, ys.length, _, rfl, Nat.le_refl _, h, Nat.le_refl _, by unfold maxLen; omega, by simp, by rw [Nat.mul_one]; exact List.take_of_length_le (by simp)⟩⟩
theorem Equal_any (u v : Value) (us vs : List Int) (w : World) (hu : BytesAt w u us) (hv : BytesAt w v vs) :
    Calls Tryz.prog 36 #[u, v] w fun e w' => (∃ r, e = .returned (.bool r)) ∧ w' = w := by
  have h1 := hu.conv
  have h2 := hv.conv
  obtain ⟨ao, ca, rfl, _⟩ := hu
  obtain ⟨bo, cb, rfl, _⟩ := hv
  generalize strOfNums us = S1 at *
  generalize strOfNums vs = S2 at *
  obtain ⟨r, hr⟩ : ∃ r, (S1.toList == S2.toList) = r := ⟨_, rfl⟩
  go_enter Tryz.func36, Tryz.ntmps36
  go_wp2
  go_ret
  exact ⟨⟨_, rfl⟩, rfl⟩
set_option maxRecDepth 100000 in
set_option maxHeartbeats 2000000 in
theorem Clone_any (a : Addr) (cap : Nat) (xs : List Int) (w : World) (hv : BytesAt w (.slice (some a) xs.length cap) xs) (hne : xs ≠ []) (hl : xs.length ≤ 1000000) :
    Calls Tryz.prog 37 #[.slice (some a) xs.length cap] w fun e w' => ∃ g c, e = .returned (.slice (some ⟨g, 0, none⟩) xs.length c) ∧ BytesAt w' (.slice (some ⟨g, 0, none⟩) xs.length c) xs ∧ w.heap.size ≤ g ∧ Kept [] w w' := by
  have hb : ∀ W n c, (binOp .eql 33 (.slice (some a) n c) (.slice none 0 0)).run Tryz.prog W = .ok (.bool false) W := fun W n c => by kernel_rfl
  have hbs : ∀ W : World, (Instr.buildSlice 33 0 #[]).run Tryz.prog W = .ok (.slice (some ⟨W.heap.size, 0, none⟩) 0 0) (W.alloc (.cells #[] 5)) := fun W => by kernel_rfl
  have k0 : Kept [] w (w.alloc (.cells #[] 5)) := (Kept.refl _ _).alloc _
  have HO : Hid (OwnB (w.alloc (.cells #[] 5)) w.heap.size (.slice (some ⟨w.heap.size, 0, none⟩) 0 0) []) := own_rowS (ys := []) (heap_alloc_new w _) (by decide)
  have HX : Hid (BytesAt (w.alloc (.cells #[] 5)) (.slice (some a) xs.length cap) xs) := hv.kept' k0 (fun _ _ _ => by simp)
  have HK0 : Hid (Kept [] w (w.alloc (.cells #[] 5))) := k0
  have ly : ([] : List Int).length + xs.length ≤ 140737488355328 := by simp; omega
  have hb5 : w.heap.size ≤ (w.alloc (.cells #[] 5)).heap.size := by rw [World.size_alloc]; omega
  have HNE : Hid (xs ≠ []) := hne
  clear hv k0 hne
  go_enter Tryz.func37, Tryz.ntmps37
  go_wp2_with (first
    | (at_builtin; refine wpList_append_bytes (by rfl) (.tmp 5) (.tmp 6) (by rfl) (by rfl) HO.out (by rfl) HX.out ly hb5 ?_; intro v6 w6 ha6
       have ho6 : OwnB w6 w.heap.size v6 xs := by have e := ha6.own; rw [List.nil_append] at e; exact e
       have HK6 : Hid (Kept [] w w6) := ha6.keep w [] HK0.out (fun x hx => Or.inr (World.ownsRow.lt HO.out x hx).1)
       have HN6 : Hid (∀ k, v6.ownBlock = some k → w.heap.size ≤ k) := fun k hk => (World.ownsRow.lt ho6 k hk).1
       have HB6 : Hid (BytesAt w6 v6 xs) := ho6.bytes
       have HS6 : Hid (∃ g c, v6 = .slice (some ⟨g, 0, none⟩) xs.length c) := by
         obtain ⟨_, ⟨rfl, h0⟩ | ⟨g, cap, cur, rfl, _⟩⟩ := ho6
         · exact absurd (List.eq_nil_of_length_eq_zero h0) HNE.out
         · exact ⟨g, cap, rfl⟩
       clear ha6 ho6))
  obtain ⟨g, c, rfl⟩ := HS6.out
  go_ret
  exact ⟨g, c, rfl, HB6.out, HN6.out g rfl, HK6.out⟩
theorem num4_any (n : Int) (w : World) : Calls Tryz.prog 12 #[.int .i64 n] w fun e w' => e = .returned (.int .i64 n) ∧ w' = w := by
  go_enter Tryz.func12, Tryz.ntmps12
  go_wp2
  go_ret
  exact ⟨rfl, rfl⟩
theorem into4_any (n m : Int) (w : World) (hm : 1 ≤ m) (hm1 : m ≤ 1000000) (h0 : -9223372036854775808 ≤ n) (h1 : n ≤ 9223372036854775807) : Calls Tryz.prog 9 #[.int .i64 n, .int .i64 m] w fun e w' => e = .returned (.int .i64 (n % m)) ∧ w' = w := by
  by_cases hn : 0 ≤ n
  · go_enter Tryz.func9, Tryz.ntmps9
    have hp : 0 ≤ n % m := Int.emod_nonneg n (by omega)
    go_wp2
    go_ret
    exact ⟨rfl, rfl⟩
  · have ht : n.tmod m = if n % m = 0 then 0 else n % m - m := by
      rw [Int.tmod_eq_emod]
      have h2 : ¬ (0 ≤ n) := hn
      by_cases hz : n % m = 0
      · rw [if_pos (Or.inr (Int.dvd_of_emod_eq_zero hz)), if_pos hz, hz]; rfl
      · rw [if_neg (by rintro (h | h); · exact hn h
                       · exact hz (Int.emod_eq_zero_of_dvd h)), if_neg hz]
        omega
    have hp : 0 ≤ n % m := Int.emod_nonneg n (by omega)
    have hq : n % m < m := Int.emod_lt_of_pos n (by omega)
    obtain ⟨k, hk⟩ : ∃ k, k = n % m := ⟨_, rfl⟩
    rw [← hk] at ht hp hq ⊢
    by_cases hz : k = 0
    · rw [if_pos hz] at ht
      subst hz
      clear hk
      go_enter Tryz.func9, Tryz.ntmps9
      go_wp2
      go_ret
      exact ⟨rfl, rfl⟩
    · rw [if_neg hz] at ht
      clear hk
      go_enter Tryz.func9, Tryz.ntmps9
      go_wp2
      go_ret
      exact ⟨by simp, rfl⟩
end Go.Proofs.YtmhbadkejhbbmaaGreatDoor
