/-
  WALK: code.lookVar, for every slice of bytes and bound.
-/
import Derived.Test.YtbphibolgckmnaaGreatDoorCopied
import Derived.Test.YtbphibolgckmnaaGreatDoorPlain
import Derived.Outline
namespace Go.Proofs.YtbphibolgckmnaaGreatDoor
open Go.RowKit

theorem lookVar_empty (ao : Option Addr) (cap : Nat) (most : Int) (w : World) :
    Calls Tryz.prog 109 #[.slice ao 0 cap, .int .u64 most] w fun e w' =>
      e = .returned (.tuple #[.agg #[.int .u64 0, .int .i64 0, .int .i64 0], .int .i64 1]) ∧ Kept [] w w' := by
  go_enter Tryz.func109, Tryz.ntmps109
  go_wp2
  refine wp_loop_rounds 1 ?_
  rw [rounds_succ]
  go_wp2
  exact bodyPost_ret (v := .tuple #[.agg #[.int .u64 0, .int .i64 0, .int .i64 0], .int .i64 1]) (by simp [results, Tryz.results109, go_sem]) rfl ⟨rfl, (Kept.refl _ _).alloc _⟩

set_option maxHeartbeats 1000000 in
theorem lookVar_some (b off cap : Nat) (ys : List Int) (most : Int) (w : World) (hm : ys.length ≤ 140737488355328) (ho : Octs ys)
    (hcell : ∀ i, i < ys.length → w.cell? ⟨b, off + i, none⟩ = some (.int .u8 (ys[i]?.getD 0))) (x : Fnd) (hx : Hid (x = varL ys most)) :
    Calls Tryz.prog 109 #[.slice (some ⟨b, off, none⟩) ys.length cap, .int .u64 most] w fun e w' =>
      e = .returned (.tuple #[.agg #[.int .u64 x.n, .int .i64 x.frm, .int .i64 x.to], .int .i64 x.f]) ∧ Kept [] w w' := by
  go_enter Tryz.func109, Tryz.ntmps109
  go_wp2
  go_loop [6, 8] (fun t i => ∃ k : Nat, ∃ n : Int, k ≤ 10 ∧ i = .int .i64 k ∧ t = .int .u64 n ∧ 0 ≤ n ∧ n < 128 ^ k ∧ Hid (x = varFrom most (10 - k) k n (ys.drop k))) (fun _ i => 10 - (intOf i).toNat)
  case atStart => exact ⟨0, 0, by omega, rfl, rfl, by omega, by decide, hx⟩
  case round =>
    obtain ⟨k, n, hk, rfl, rfl, hn0, hn1, HX⟩ := hrel
    by_cases hlt : k < 10
    · by_cases hkl : k < ys.length
      · have hxb := octs_getD ho k
        have hc : (w.alloc (.cells #[.int .u64 0, .int .i64 0, .int .i64 0] 161)).cell? ⟨b, off + k, none⟩ = some (.int .u8 (ys[k]?.getD 0)) := by
          rw [World.cell?_alloc_lt]
          · exact hcell k (by omega)
          · exact World.block_lt_of_cell? w _ (hcell k (by omega))
        obtain ⟨z, hz⟩ : ∃ z, z = ys[k]?.getD 0 := ⟨_, rfl⟩
        rw [← hz] at hc hxb
        have HZ : Hid (z = ys[k]?.getD 0) := hz
        clear hz
        have HO := vf_open (most := most) (n := n) hlt hkl HZ.out
        rw [← HX.out] at HO
        have HO' : Hid _ := HO
        clear HO HX HZ
        by_cases h128 : 128 ≤ z
        · have e1 := and128_hi z h128 (by omega)
          have e2 := andNot128_hi z h128 (by omega)
          by_cases hk9 : k = 9
          · subst hk9
            have ex : x = ⟨0, 0, 0, 2⟩ := by have := HO'.out; rwa [if_pos ⟨rfl, by omega⟩] at this
            have EX : Hid (x = ⟨0, 0, 0, 2⟩) := ex
            clear ex HO'
            go_wp2
            exact bodyPost_ret (v := .tuple #[.agg #[.int .u64 0, .int .i64 0, .int .i64 0], .int .i64 2]) (by simp [results, Tryz.results109, go_sem]) rfl ⟨by rw [EX.out]; rfl, (Kept.refl _ _).alloc _⟩
          · have ex : x = varFrom most (10 - (k + 1)) (k + 1) (n + (z - 128) * 128 ^ k) (ys.drop (k + 1)) := by have := HO'.out; rwa [if_neg (by omega), if_pos h128] at this
            have EX : Hid _ := ex
            have EO : Hid _ := var_or k n (z - 128) hn0 hn1 (by omega) (by omega) (by omega)
            clear ex HO'
            go_wp2
            go_round
            case rel => exact ⟨k + 1, _, by omega, by go_num, by rw [EO.out], var_ge k n _ hn0 (by omega), var_lt k n _ hn1 (by omega), EX⟩
            case measure => simp [intOf]; omega
        · have e1 := and128_lo z hxb.1 (by omega)
          have e2 := andNot128_lo z hxb.1 (by omega)
          by_cases hk9 : 9 ≤ k
          · have hb9 : ((k : Int) == 9) = true := beq_iff_eq.2 (by omega)
            by_cases hz1 : 1 < z
            · have ex : x = ⟨0, 0, 0, 2⟩ := by have := HO'.out; rwa [if_pos ⟨by omega, hz1⟩] at this
              have EX : Hid (x = ⟨0, 0, 0, 2⟩) := ex
              clear ex HO'
              go_wp2
              exact bodyPost_ret (v := .tuple #[.agg #[.int .u64 0, .int .i64 0, .int .i64 0], .int .i64 2]) (by simp [results, Tryz.results109, go_sem]) rfl ⟨by rw [EX.out]; rfl, (Kept.refl _ _).alloc _⟩
            · by_cases hz0 : z = 0
              · subst hz0
                have ex : x = ⟨0, 0, 0, 2⟩ := by have := HO'.out; rwa [if_neg (by omega), if_neg h128, if_pos ⟨rfl, by omega⟩] at this
                have EX : Hid (x = ⟨0, 0, 0, 2⟩) := ex
                clear ex HO'
                go_wp2
                exact bodyPost_ret (v := .tuple #[.agg #[.int .u64 0, .int .i64 0, .int .i64 0], .int .i64 2]) (by simp [results, Tryz.results109, go_sem]) rfl ⟨by rw [EX.out]; rfl, (Kept.refl _ _).alloc _⟩
              · have hz2 : 1 ≤ z := by omega
                have hxk : x = if most < n + z * 128 ^ k then ⟨0, 0, 0, 3⟩ else ⟨n + z * 128 ^ k, k + 1, k + 1, 0⟩ := by have := HO'.out; rwa [if_neg (by omega), if_neg h128, if_neg (by omega)] at this
                have e3 := var_or k n z hn0 hn1 hxb.1 (by omega) (by omega)
                obtain ⟨m, hm'⟩ : ∃ m, m = n + z * 128 ^ k := ⟨_, rfl⟩
                rw [← hm'] at e3 hxk
                clear HO' hm' hn1
                by_cases hmost : most < m
                · rw [if_pos hmost] at hxk
                  have EX : Hid (x = ⟨0, 0, 0, 3⟩) := hxk
                  clear hxk
                  go_wp2
                  exact bodyPost_ret (v := .tuple #[.agg #[.int .u64 0, .int .i64 0, .int .i64 0], .int .i64 3]) (by simp [results, Tryz.results109, go_sem]) rfl ⟨by rw [EX.out]; rfl, (Kept.refl _ _).alloc _⟩
                · rw [if_neg hmost] at hxk
                  have EX : Hid (x = ⟨m, k + 1, k + 1, 0⟩) := hxk
                  clear hxk
                  go_wp2
                  exact bodyPost_ret (v := .tuple #[.agg #[.int .u64 m, .int .i64 (k + 1), .int .i64 (k + 1)], .int .i64 0]) (by simp [results, Tryz.results109, go_sem]) rfl ⟨by rw [EX.out]; rfl, (Kept.refl _ _).alloc _⟩
          · by_cases hz0 : z = 0
            · by_cases hk1 : 1 ≤ k
              · subst hz0
                have ex : x = ⟨0, 0, 0, 2⟩ := by have := HO'.out; rwa [if_neg (by omega), if_neg h128, if_pos ⟨rfl, by omega⟩] at this
                have EX : Hid (x = ⟨0, 0, 0, 2⟩) := ex
                clear ex HO'
                go_wp2
                exact bodyPost_ret (v := .tuple #[.agg #[.int .u64 0, .int .i64 0, .int .i64 0], .int .i64 2]) (by simp [results, Tryz.results109, go_sem]) rfl ⟨by rw [EX.out]; rfl, (Kept.refl _ _).alloc _⟩
              · have hbz : (z == 0) = true := beq_iff_eq.2 hz0
                have hz2 : z ≤ 0 := by omega
                have hk2 : k ≤ 0 := by omega
                clear hz0 hk1
                have hxk : x = if most < n + z * 128 ^ k then ⟨0, 0, 0, 3⟩ else ⟨n + z * 128 ^ k, k + 1, k + 1, 0⟩ := by have := HO'.out; rwa [if_neg (by omega), if_neg h128, if_neg (by omega)] at this
                have e3 := var_or k n z hn0 hn1 hxb.1 (by omega) (by omega)
                obtain ⟨m, hm'⟩ : ∃ m, m = n + z * 128 ^ k := ⟨_, rfl⟩
                rw [← hm'] at e3 hxk
                clear HO' hm' hn1
                by_cases hmost : most < m
                · rw [if_pos hmost] at hxk
                  have EX : Hid (x = ⟨0, 0, 0, 3⟩) := hxk
                  clear hxk
                  go_wp2
                  exact bodyPost_ret (v := .tuple #[.agg #[.int .u64 0, .int .i64 0, .int .i64 0], .int .i64 3]) (by simp [results, Tryz.results109, go_sem]) rfl ⟨by rw [EX.out]; rfl, (Kept.refl _ _).alloc _⟩
                · rw [if_neg hmost] at hxk
                  have EX : Hid (x = ⟨m, k + 1, k + 1, 0⟩) := hxk
                  clear hxk
                  go_wp2
                  exact bodyPost_ret (v := .tuple #[.agg #[.int .u64 m, .int .i64 (k + 1), .int .i64 (k + 1)], .int .i64 0]) (by simp [results, Tryz.results109, go_sem]) rfl ⟨by rw [EX.out]; rfl, (Kept.refl _ _).alloc _⟩
            · have hz1 : 1 ≤ z := by omega
              have hxk : x = if most < n + z * 128 ^ k then ⟨0, 0, 0, 3⟩ else ⟨n + z * 128 ^ k, k + 1, k + 1, 0⟩ := by have := HO'.out; rwa [if_neg (by omega), if_neg h128, if_neg (by omega)] at this
              have e3 := var_or k n z hn0 hn1 hxb.1 (by omega) (by omega)
              obtain ⟨m, hm'⟩ : ∃ m, m = n + z * 128 ^ k := ⟨_, rfl⟩
              rw [← hm'] at e3 hxk
              clear HO' hm' hn1
              by_cases hmost : most < m
              · rw [if_pos hmost] at hxk
                have EX : Hid (x = ⟨0, 0, 0, 3⟩) := hxk
                clear hxk
                go_wp2
                exact bodyPost_ret (v := .tuple #[.agg #[.int .u64 0, .int .i64 0, .int .i64 0], .int .i64 3]) (by simp [results, Tryz.results109, go_sem]) rfl ⟨by rw [EX.out]; rfl, (Kept.refl _ _).alloc _⟩
              · rw [if_neg hmost] at hxk
                have EX : Hid (x = ⟨m, k + 1, k + 1, 0⟩) := hxk
                clear hxk
                go_wp2
                exact bodyPost_ret (v := .tuple #[.agg #[.int .u64 m, .int .i64 (k + 1), .int .i64 (k + 1)], .int .i64 0]) (by simp [results, Tryz.results109, go_sem]) rfl ⟨by rw [EX.out]; rfl, (Kept.refl _ _).alloc _⟩
      · have ex := HX.out.trans (vf_short (most := most) (n := n) hlt (by omega))
        have EX : Hid (x = ⟨0, 0, 0, 1⟩) := ex
        clear ex HX
        go_wp2
        exact bodyPost_ret (v := .tuple #[.agg #[.int .u64 0, .int .i64 0, .int .i64 0], .int .i64 1]) (by simp [results, Tryz.results109, go_sem]) rfl ⟨by rw [EX.out]; rfl, (Kept.refl _ _).alloc _⟩
    · have ex := HX.out.trans (vf_end (most := most) (n := n) (by omega))
      have EX : Hid (x = ⟨0, 0, 0, 2⟩) := ex
      clear ex HX
      go_wp2
      exact bodyPost_ret (v := .tuple #[.agg #[.int .u64 0, .int .i64 0, .int .i64 0], .int .i64 2]) (by simp [results, Tryz.results109, go_sem]) rfl ⟨by rw [EX.out]; rfl, (Kept.refl _ _).alloc _⟩

end Go.Proofs.YtbphibolgckmnaaGreatDoor
