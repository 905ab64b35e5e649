/-
  The shortest form of a number, byte by byte. Pure.
  Lists of bytes that are one's own; satchelref1.Var, for every number.
-/
import Derived.Test.YtmambfdfkobjgaaPlain3
import Derived.Test.YtmambfdfkobjgaaOwn0
namespace Go.Proofs.Ytmambfdfkobjgaa
open Go.RowKit

theorem varB_small (n : Int) (h0 : 0 ≤ n) (h1 : n < 128) : varB n = [n] := by
  have : lastOf n = 0 := lastOf_is n 0 h0 (by omega) (by simpa using h1) (fun h => absurd h (by decide))
  simp [varB, this, varHead]
theorem varHead_cons (n : Int) (k : Nat) : varHead n (k + 1) = (128 + n % 128) :: varHead (n / 128) k := by
  induction k with
  | zero => simp [varHead]; omega
  | succ k ih =>
    rw [varHead_succ, ih, List.cons_append, varHead_succ (n / 128) k]
    congr 2
    rw [Int.ediv_ediv_of_nonneg (by decide), Int.pow_succ, Int.mul_comm]
theorem varB_big (n : Int) (h0 : 128 ≤ n) (h1 : n ≤ 18446744073709551615) : varB n = (128 + n % 128) :: varB (n / 128) := by
  have hs := lastOf_spec (n / 128) (by omega) (by omega)
  obtain ⟨k, hk⟩ : ∃ k, k = lastOf (n / 128) := ⟨_, rfl⟩
  rw [← hk] at hs
  have hp := pow_pos128 k
  have hl : lastOf n = k + 1 := by
    refine lastOf_is n (k + 1) (by omega) h1 ?_ fun _ => ?_
    · rw [Int.pow_succ]; generalize (128 : Int) ^ (k + 1) = P at *; omega
    · rw [Int.pow_succ]
      by_cases h : 1 ≤ k
      · have := hs.2.1 h; generalize (128 : Int) ^ k = P at *; omega
      · obtain rfl : k = 0 := by omega
        simpa using h0
  rw [varB, hl, varHead_cons, varB, ← hk, List.cons_append, Int.pow_succ, Int.mul_comm, ← Int.ediv_ediv_of_nonneg (by decide : (0 : Int) ≤ 128)]

end Go.Proofs.Ytmambfdfkobjgaa

namespace Go.Proofs.Ytmambfdfkobjgaa
open Go.RowKit

set_option maxHeartbeats 1000000 in
/-- satchelref1.Var: the shortest form, in new memory. -/
theorem RVar_any : ∀ (fuel : Nat) (n : Int) (w : World), 0 ≤ n → n ≤ 18446744073709551615 → n.toNat ≤ fuel →
    Calls Try.prog 33 #[.int .u64 n] w fun e w' => ∃ v, e = .returned v ∧ OwnB w' w.heap.size v (varB n) ∧ Kept [] w w' := by
  intro fuel
  induction fuel with
  | zero =>
    intro n w h0 h1 hf
    obtain rfl : n = 0 := by omega
    go_enter Try.func33, Try.ntmps33
    go_wp2
    go_ret
    exact ⟨_, rfl, by rw [varB_small 0 (by decide) (by decide)]; exact OwnB.one 0, (Kept.refl _ _).alloc _⟩
  | succ fuel ih =>
    intro n w h0 h1 hf
    by_cases hs : n < 128
    · clear ih
      have hw : IntKind.u8.wrap n = n := by rw [IntKind.wrap_u8']; omega
      go_enter Try.func33, Try.ntmps33
      go_wp2
      go_ret
      exact ⟨_, rfl, by rw [varB_small n h0 hs]; exact OwnB.one n, (Kept.refl _ _).alloc _⟩
    · obtain ⟨i0, hi, hz0, hz1, hz2⟩ := info_parts Try.info_u8
      have hcall := fun W => ih (n / 128) W (by omega) (by omega) (by omega)
      clear ih
      have r1 : Int.tmod n 128 = n % 128 := Int.tmod_eq_emod_of_nonneg h0
      have r2 : IntKind.u8.wrap (128 + n % 128) = 128 + n % 128 := by rw [IntKind.wrap_u8']; omega
      have r3 : Int.tdiv n 128 = n / 128 := Int.tdiv_eq_ediv_of_nonneg h0
      have HO : Hid (OwnB (w.alloc (.cells #[.int .u8 (128 + n % 128)] 5)) w.heap.size (.slice (some ⟨w.heap.size, 0, none⟩) 1 1) [128 + n % 128]) := OwnB.one _
      go_enter Try.func33, Try.ntmps33
      obtain ⟨m, hm⟩ : ∃ m, m = (varB (n / 128)).length := ⟨_, rfl⟩
      have hm10 : m ≤ 10 := by rw [hm]; exact varB_len _ (by omega) (by omega)
      have hne : varB (n / 128) ≠ [] := by unfold varB; simp
      obtain ⟨cs, hcs⟩ : ∃ cs, cs = (varB (n / 128)).map (Value.int .u8) := ⟨_, rfl⟩
      have hcl : cs.length = m * 1 := by rw [hcs, hm]; simp
      have hco : ∀ u ∈ cs, u.oneCell' = true := by rw [hcs]; exact map_oneCell _
      have HC : Hid (cs = (varB (n / 128)).map (Value.int .u8)) := hcs
      have HM : Hid (m = (varB (n / 128)).length) := hm
      clear hcs hm
      go_wp2_with (first
        | (go_at_call 33; refine (hcall _).mono ?_; rintro e w1 ⟨v, rfl, hv, hk⟩
           obtain ⟨g, cap, rfl, hBg, hg⟩ := hv.form hne
           rw [← HM.out]
           have ho1 := HO.out.kept hk (by simp)
           have hnews : ∀ j u, cs[j]? = some u → w1.cell? ((⟨g, 0, none⟩ : Addr).add j) = some u := by
             rw [HC.out]; exact World.ownsRow.cells hv rfl
           have HV : Hid _ := hv
           have HK : Hid (Kept [] w w1) := ((Kept.refl [] w).alloc _).then hk
           clear hv)
        | (at_builtin; refine wpList_append_own_at _ rfl (.tmp 14) (.tmp 17) 22 rfl w.heap.size 5 i0 (.int .u8 0) 1 1 Try.underlying22 hi hz0 hz1 hz2 rfl (by decide) (.slice (some ⟨w.heap.size, 0, none⟩) 1 1) 1 [.int .u8 (128 + n % 128)] rfl ho1 ⟨g, 0, none⟩ m cap cs rfl hcl hnews hco (by unfold maxLen; omega) (by omega) HK.out.size ?_; intro v' w2 ho' hgr hnil hat))
      go_ret
      refine ⟨_, rfl, ?_, HK.out.grown hgr (fun k hk => Or.inr (by cases hk; exact Nat.le_refl _))⟩
      have e1 : varB n = [128 + n % 128] ++ varB (n / 128) := varB_big n (by omega) h1
      unfold OwnB
      rw [e1, List.length_append, List.map_append, ← HM.out, ← HC.out]
      exact ho'
end Go.Proofs.Ytmambfdfkobjgaa
