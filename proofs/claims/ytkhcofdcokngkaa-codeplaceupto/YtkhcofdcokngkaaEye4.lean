/-
  The document's own Reader: the walk of Var.
-/
import Derived.Test.YtkhcofdcokngkaaEye3
import Derived.Deep.CutRange
namespace Go.Proofs.Ytkhcofdcokngkaa
open Go.RowKit

set_option maxHeartbeats 4000000 in
theorem EVar_open {w : World} {b g : Nat} {xs : List Int} {pl : Nat} (R : EyeAt w b g xs pl 0) (most : Int)
    (hcall : Calls Try.prog 76 #[.pointer (some ⟨b, 0, none⟩)] w fun e w' => e = .returned (.int .i64 (-1)) ∧ ∃ n, w' = w.drewN n) :
    Calls Try.prog 63 #[.pointer (some ⟨b, 0, none⟩), .int .u64 most] w fun e w' => e = .returned (.int .u64 0) ∧ EyeAt w' b g xs pl (if xs.length - pl < 10 then 1 else 2) ∧ Kept [b] w w' := by
  obtain ⟨d0, d1, d2, d3, d4⟩ := R.facts
  rw [show errL 0 = 0 from rfl] at d2
  have hleft := fun n => ELeft_any ((R.drewN n).setBad 2 (by decide))
  rw [show errL 2 = 11 from rfl] at hleft
  have hle := R.le
  have HR : Hid (EyeAt w b g xs pl 0) := R
  clear R
  by_cases hs : xs.length - pl < 10
  · rw [if_pos hs]
    have hs1 : (xs.length : Int) - pl < 10 := by omega
    go_enter Try.func63, Try.ntmps63
    go_wp2_with (first | (go_at_call 76; refine hcall.mono ?_; rintro e w1 ⟨rfl, n1, rfl⟩) | (go_at_call 64; refine (hleft _).mono ?_; rintro e w2 ⟨rfl, n2, rfl⟩))
    go_ret
    have R1 := ((HR.out.drewN n1).setBad 2 (by decide)).drewN n2
    exact ⟨rfl, R1.setBad 1 (by decide), ((((Kept.refl [b] w).drewN n1).setCell (Or.inl (by simp)) _).drewN n2).setCell (Or.inl (by simp)) _⟩
  · rw [if_neg hs]
    have hs1 : ¬ (xs.length : Int) - pl < 10 := by omega
    go_enter Try.func63, Try.ntmps63
    go_wp2_with (first | (go_at_call 76; refine hcall.mono ?_; rintro e w1 ⟨rfl, n1, rfl⟩) | (go_at_call 64; refine (hleft _).mono ?_; rintro e w2 ⟨rfl, n2, rfl⟩))
    go_ret
    have R1 := ((HR.out.drewN n1).setBad 2 (by decide)).drewN n2
    exact ⟨rfl, R1, (((Kept.refl [b] w).drewN n1).setCell (Or.inl (by simp)) _).drewN n2⟩

structure EVarTo (w w' : World) (b g : Nat) (xs : List Int) (pl k : Nat) (most N : Int) (q : Bool) (e : Ending) : Prop where
  kept : Kept [b] w w'
  ok : q = true → ¬ most < N → e = .returned (.int .u64 N) ∧ EyeAt w' b g xs (pl + (k + 1)) 0
  high : q = true → most < N → e = .returned (.int .u64 0) ∧ EyeAt w' b g xs pl 3
  form : q = false → e = .returned (.int .u64 0) ∧ EyeAt w' b g xs pl 2

set_option maxHeartbeats 4000000 in
theorem EVar_found {w : World} {b g : Nat} {xs : List Int} {pl : Nat} (R : EyeAt w b g xs pl 0) (most : Int) (k : Nat) (h10 : k < 10) (hl : pl + k < xs.length)
    (hcall : Calls Try.prog 76 #[.pointer (some ⟨b, 0, none⟩)] w fun e w' => e = .returned (.int .i64 ((pl : Int) + k)) ∧ ∃ n, w' = w.drewN n) (N : Int) (hN : Hid (N = eyeN ((xs.drop pl).take (k + 1)))) (q : Bool) (hq : Hid (q = decide (varB N = (xs.drop pl).take (k + 1)))) :
    Calls Try.prog 63 #[.pointer (some ⟨b, 0, none⟩), .int .u64 most] w fun e w' =>
      EVarTo w w' b g xs pl k most N q e := by
  obtain ⟨d0, d1, d2, d3, d4⟩ := R.facts
  rw [show errL 0 = 0 from rfl] at d2
  have hsm := R.small
  have hN01 : 0 ≤ N ∧ N ≤ 18446744073709551615 := by rw [hN.out]; exact eyeN_range _
  have hrow : ∀ i, i < xs.length → w.cell? ⟨g, i, none⟩ = some (.int .u8 (xs[i]?.getD 0)) := by
    intro i hi
    rw [cell_of_row w g i _ _ _ R.row]
    simp [List.getElem?_eq_getElem hi]
  have hoct := R.oct
  have HR : Hid (EyeAt w b g xs pl 0) := R
  clear R
  have hneg : ¬ ((pl : Int) + k < 0) := by omega
  go_enter Try.func63, Try.ntmps63
  go_wp2_with (go_at_call 76; refine hcall.mono ?_; rintro e w1 ⟨rfl, n1, rfl⟩)
  go_loopw [6, 7] (fun s6 s7 wr => ∃ m : Nat, m ≤ k + 1 ∧ s7 = .int .i64 (((pl + m : Nat) : Int) - 1) ∧ s6 = .int .u64 (eyeN (((xs.drop pl).drop m).take (k + 1 - m))) ∧ wr = w.drewN n1) (fun _ s7 _ => (intOf s7 + 1).toNat)
  case atStart => exact ⟨k + 1, Nat.le_refl _, congrArg (Value.int .i64) (by omega), by simp [eyeN], rfl⟩
  case round =>
    obtain ⟨m, hm, rfl, rfl, rfl⟩ := hrel
    by_cases h0 : m = 0
    · subst h0
      rw [show eyeN (((xs.drop pl).drop 0).take (k + 1 - 0)) = N by rw [hN.out]; rfl]
      clear hN hrow hoct
      have q1 : ¬ ((pl : Int) ≤ ((pl + 0 : Nat) : Int) - 1) := by omega
      have hwr : IntKind.i64.wrap ((pl : Int) + k + 1) = pl + k + 1 := by rw [IntKind.wrap_i64]; omega
      have hseg : BytesAt w (.slice (some ⟨g, pl, none⟩) (k + 1) (xs.length - pl)) ((xs.drop pl).take (k + 1)) := BytesAt.seg HR.out.row pl (k + 1) _ (by omega) (by omega)
      have hvar := fun W => RVar_any N.toNat N W hN01.1 hN01.2 (Nat.le_refl _)
      have hsl : ((xs.drop pl).take (k + 1)).length ≤ 140737488355328 := by simp; omega
      have hvl : (varB N).length ≤ 140737488355328 := Nat.le_trans (varB_len N hN01.1 hN01.2) (by decide)
      have he : ¬ xs.length = pl := by omega
      have htn : ((pl : Int) + k + 1).toNat - pl = k + 1 := by omega
      have q2 : (0 : Int) ≤ pl := by omega
      have q3 : (pl : Int) ≤ pl + k + 1 := by omega
      have q4 : (pl : Int) + k + 1 ≤ xs.length := by omega
      go_upto_region 14 with fail
      go_cut [61] from 47 to 61 (fun s61 wx => s61 = .bool (!q) ∧ Kept [] w wx)
      case first =>
        go_region_with (first
          | (go_at_call 49; refine (hvar _).mono ?_; rintro e w2 ⟨v, rfl, hv, hk⟩
             have hk1 := hk.undrewN
             obtain ⟨z0, z1, z2, z3, z4⟩ := (HR.out.kept hk1 (by simp) (by simp)).facts
             have HB : Hid (BytesAt w2 v (varB N)) := hv.bytes
             have HS : Hid (BytesAt w2 (.slice (some ⟨g, pl, none⟩) (k + 1) (xs.length - pl)) ((xs.drop pl).take (k + 1))) := hseg.kept hk1 (fun _ _ => by simp)
             clear hv hk)
          | (go_at_call 17; refine (Eq_any HB.out HS.out hvl hsl).mono ?_; rintro e w3 ⟨rfl, n3, rfl⟩; rw [← hq.out]; have HK : Hid (Kept [] w (w2.drewN n3)) := hk1.drewN n3))
        all_goals (go_wp2_with fail; go_meet; exact ⟨rfl, HK.out⟩)
      case rest =>
      obtain ⟨rfl, hk1⟩ := hcut
      have R2 := HR.out.kept hk1 (by simp) (by simp)
      obtain ⟨z0, z1, z2, z3, z4⟩ := R2.facts
      rw [show errL 0 = 0 from rfl] at z2
      have HR2 : Hid _ := R2
      have HK : Hid (Kept [b] w wc) := hk1.more (by simp)
      clear R2 hcall hvar hseg hq hk1
      cases q with
      | false =>
        go_wp2
        go_ret
        exact ⟨HK.out.setCell (Or.inl (by simp)) _, fun h => (by cases h), fun h => (by cases h), fun _ => ⟨rfl, HR2.out.setBad 2 (by decide)⟩⟩
      | true =>
        by_cases hmn : most < N
        · go_wp2
          go_ret
          exact ⟨HK.out.setCell (Or.inl (by simp)) _, fun _ h => absurd hmn h, fun _ _ => ⟨rfl, HR2.out.setBad 3 (by decide)⟩, fun h => (by cases h)⟩
        · go_wp2
          go_ret
          exact ⟨HK.out.setCell (Or.inl (by simp)) _, fun _ _ => ⟨rfl, HR2.out.setPlace (pl + (k + 1)) (by omega)⟩, fun _ h => absurd h (by omega), fun h => (by cases h)⟩
    · obtain ⟨m, rfl⟩ : ∃ m', m = m' + 1 := ⟨m - 1, by omega⟩
      have hstep := eyeN_step (xs.drop pl) m k (by omega) (by simp; omega)
      obtain ⟨M, hM⟩ : ∃ M, M = eyeN (((xs.drop pl).drop (m + 1)).take (k + 1 - (m + 1))) := ⟨_, rfl⟩
      have hM01 : 0 ≤ M ∧ M ≤ 18446744073709551615 := by rw [hM]; exact eyeN_range _
      rw [← hM] at hstep ⊢
      clear hM h0 hneg
      have gz := hrow (pl + m) (by omega)
      have hz01 := octs_getD hoct (pl + m)
      rw [List.getElem?_drop] at hstep
      obtain ⟨z, hz⟩ : ∃ z, z = xs[pl + m]?.getD 0 := ⟨_, rfl⟩
      rw [← hz] at gz hstep hz01
      have HS : Hid _ := hstep
      clear hz hstep hrow hoct
      rw [show ((pl + (m + 1) : Nat) : Int) - 1 = ((pl + m : Nat) : Int) by omega]
      have q1 : ((pl : Int) ≤ ((pl + m : Nat) : Int)) := by omega
      have q2 : ((pl + m : Nat) : Int) < xs.length := by omega
      have r1 : Int.tmod z 128 = z % 128 := Int.tmod_eq_emod_of_nonneg hz01.1
      go_wp2
      refine ⟨⟨m, by omega, congrArg (Value.int .i64) (by omega), ?_, trivial⟩, by simp [intOf]; omega⟩
      rw [HS.out, IntKind.wrap_u64, IntKind.wrap_u64]
      congr 1
      omega

theorem LastIs.uniq {xs : List Int} {pl : Nat} {r s : Int} (h : LastIs xs pl r) (k : LastIs xs pl s) : r = s := by
  rcases h with ⟨i, a1, a2, a3, a4, rfl⟩ | ⟨a3, rfl⟩ <;> rcases k with ⟨j, b1, b2, b3, b4, rfl⟩ | ⟨b3, rfl⟩
  · rcases Nat.lt_trichotomy i j with c | c | c
    · have := b3 i c; omega
    · rw [c]
    · have := a3 j c; omega
  · have := b3 i a1 a2; omega
  · have := a3 j b1 b2; omega
  · rfl
theorem last_ex (xs : List Int) (pl : Nat) : ∀ n, (∃ k, k < n ∧ pl + k < xs.length ∧ (∀ j, j < k → 128 ≤ xs[pl + j]?.getD 0) ∧ xs[pl + k]?.getD 0 < 128) ∨ (∀ j, j < n → pl + j < xs.length → 128 ≤ xs[pl + j]?.getD 0) := by
  intro n
  induction n with
  | zero => exact Or.inr fun j h => absurd h (by omega)
  | succ n ih =>
    rcases ih with ⟨k, h1, h2⟩ | h
    · exact Or.inl ⟨k, by omega, h2⟩
    · by_cases h1 : pl + n < xs.length ∧ xs[pl + n]?.getD 0 < 128
      · exact Or.inl ⟨n, by omega, h1.1, fun j hj => h j hj (by omega), h1.2⟩
      · refine Or.inr fun j hj hl => ?_
        by_cases e : j = n
        · subst e
          have : ¬ xs[pl + j]?.getD 0 < 128 := fun c => h1 ⟨hl, c⟩
          omega
        · exact h j (by omega) hl

set_option maxHeartbeats 1000000 in
/-- Var, for every Eye and bound. -/
theorem EVar_any {w : World} {b g : Nat} {xs : List Int} {pl f : Nat} (R : EyeAt w b g xs pl f) (most : Int) (y : Took) (hy : Hid (y = takeL xs pl f 1 0 most)) :
    Calls Try.prog 63 #[.pointer (some ⟨b, 0, none⟩), .int .u64 most] w fun e w' => e = .returned (.int .u64 y.n) ∧ EyeAt w' b g xs y.pl y.f ∧ Kept [b] w w' := by
  rw [hy.out]
  clear hy y
  by_cases hf : f = 0
  · subst hf
    have hlast := Elast_any R
    rcases last_ex xs pl 10 with ⟨k, h10, hl, hall, hz⟩ | hall
    · have hc : Calls Try.prog 76 #[.pointer (some ⟨b, 0, none⟩)] w fun e w' => e = .returned (.int .i64 ((pl : Int) + k)) ∧ ∃ n, w' = w.drewN n := by
        refine hlast.mono ?_
        rintro e w' ⟨r, rfl, hr, hw⟩
        rw [hr.uniq (Or.inl ⟨k, h10, hl, hall, hz, rfl⟩)]
        exact ⟨rfl, hw⟩
      refine (EVar_found R most k h10 hl hc _ rfl _ rfl).mono ?_
      rintro e w' ⟨h1, h2, h3, h4⟩
      rw [var_found xs pl k most R.oct h10 hl hall hz]
      by_cases e1 : varB (eyeN ((xs.drop pl).take (k + 1))) = (xs.drop pl).take (k + 1)
      · rw [if_pos e1]
        by_cases e2 : most < eyeN ((xs.drop pl).take (k + 1))
        · rw [if_pos e2]
          obtain ⟨g1, g2⟩ := h3 (by simpa using e1) e2
          exact ⟨g1, g2, h1⟩
        · rw [if_neg e2]
          obtain ⟨g1, g2⟩ := h2 (by simpa using e1) e2
          exact ⟨g1, g2, h1⟩
      · rw [if_neg e1]
        obtain ⟨g1, g2⟩ := h4 (by simpa using e1)
        exact ⟨g1, g2, h1⟩
    · have hc : Calls Try.prog 76 #[.pointer (some ⟨b, 0, none⟩)] w fun e w' => e = .returned (.int .i64 (-1)) ∧ ∃ n, w' = w.drewN n := by
        refine hlast.mono ?_
        rintro e w' ⟨r, rfl, hr, hw⟩
        rw [hr.uniq (Or.inr ⟨hall, rfl⟩)]
        exact ⟨rfl, hw⟩
      rw [var_open xs pl most hall]
      exact EVar_open R most hc
  · rw [takeL_bad _ _ _ _ _ _ hf]
    obtain ⟨d0, d1, d2, d3, d4⟩ := R.facts
    have hz : (errL f != 0) = true := by simpa using errL_ne f R.bad hf
    have HR : Hid (EyeAt w b g xs pl f) := R
    clear R
    generalize errL f = z at *
    go_enter Try.func63, Try.ntmps63
    go_wp2
    go_ret
    exact ⟨rfl, HR.out, Kept.refl _ _⟩
end Go.Proofs.Ytkhcofdcokngkaa
