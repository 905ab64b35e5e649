/-
  The document's own Reader over any slice: its call Var.
-/
import Derived.Test.YtmambfdfkobjgaaEyG1
namespace Go.Proofs.Ytmambfdfkobjgaa
open Go.RowKit

set_option maxHeartbeats 1000000 in
theorem Elast_any {w : World} {b cap : Nat} {ao : Option Addr} {xs : List Int} {pl f : Nat} (R : EyeG w b ao cap xs pl f) : Calls Try.prog 59 #[.pointer (some ⟨b, 0, none⟩)] w fun e w' =>
    ∃ r, e = .returned (.int .i64 r) ∧ LastIs xs pl r ∧ ∃ n, w' = w.drewN n := by
  obtain ⟨d0, d1, d2, d3, d4⟩ := R.facts
  have hle := R.le
  have hsm := R.small
  have hoct := R.oct
  have HSome : Hid (0 < xs.length → xs.length ≤ cap ∧ ∃ g off, ao = some ⟨g, off, none⟩ ∧ ∀ i, i < xs.length → w.cell? ⟨g, off + i, none⟩ = some (.int .u8 (xs[i]?.getD 0))) := fun h => R.some h
  clear R d2 d3
  go_enter Try.func59, Try.ntmps59
  go_wp2
  go_loopw [3] (fun i wr => ∃ k : Nat, k ≤ 10 ∧ pl + k ≤ xs.length ∧ i = .int .i64 k ∧ (∀ j, j < k → 128 ≤ xs[pl + j]?.getD 0) ∧ ∃ n, wr = w.drewN n) (fun i _ => 10 - (intOf i).toNat)
  case atStart => exact ⟨0, by omega, by omega, rfl, fun j h => by omega, 0, rfl⟩
  case round =>
    obtain ⟨k, hk, hkl, rfl, hall, n, rfl⟩ := hrel
    have HA : Hid (∀ j, j < k → 128 ≤ xs[pl + j]?.getD 0) := hall
    clear hall
    have hwr : IntKind.i64.wrap ((pl : Int) + k) = pl + k := by rw [IntKind.wrap_i64]; omega
    by_cases h10 : k < 10
    · have t1 : decide ((k : Int) < 10) = true := by simp; omega
      by_cases hlt : pl + k < xs.length
      · have t2 : decide ((pl : Int) + k < xs.length) = true := by simp; omega
        have t3 : (0 : Int) ≤ (pl : Int) + k := by omega
        obtain ⟨hcap, g, off, rfl, hrow⟩ := HSome.out (by omega)
        have g1 := hrow (pl + k) hlt
        obtain ⟨z, hz⟩ : ∃ z, z = xs[pl + k]?.getD 0 := ⟨_, rfl⟩
        have hz01 := octs_getD hoct (pl + k)
        rw [← hz] at g1 hz01
        have HZ : Hid (z = xs[pl + k]?.getD 0) := hz
        clear hz hrow hoct
        by_cases h128 : z < 128
        · go_wp2
          go_quiet (fail)
          go_wp2
          go_quiet (fail)
          go_wp2
          go_ret
          exact ⟨_, rfl, Or.inl ⟨k, h10, hlt, HA.out, by rw [← HZ.out]; exact h128, rfl⟩, _, rfl⟩
        · go_wp2
          go_quiet (fail)
          go_wp2
          go_quiet (fail)
          go_wp2
          go_roundw
          case rel => exact ⟨k + 1, by omega, by omega, by go_num, fun j hj => by
            by_cases e : j = k
            · rw [e, ← HZ.out]; omega
            · exact HA.out j (by omega), _, rfl⟩
          case measure => simp [intOf]; omega
      · have t2 : decide ((pl : Int) + k < xs.length) = false := by simp; omega
        go_wp2
        go_quiet (fail)
        go_wp2
        go_ret
        exact ⟨_, rfl, Or.inr ⟨fun j hj hjl => HA.out j (by omega), rfl⟩, drew_two _ _ _⟩
    · have t1 : decide ((k : Int) < 10) = false := by simp; omega
      go_wp2
      go_quiet (fail)
      go_wp2
      go_ret
      exact ⟨_, rfl, Or.inr ⟨fun j hj hjl => HA.out j (by omega), rfl⟩, drew_two _ _ _⟩
set_option maxRecDepth 100000 in
set_option maxHeartbeats 4000000 in
theorem EVar_open {w : World} {b cap : Nat} {ao : Option Addr} {xs : List Int} {pl : Nat} (R : EyeG w b ao cap xs pl 0) (most : Int)
    (hcall : Calls Try.prog 59 #[.pointer (some ⟨b, 0, none⟩)] w fun e w' => e = .returned (.int .i64 (-1)) ∧ ∃ n, w' = w.drewN n) :
    Calls Try.prog 39 #[.pointer (some ⟨b, 0, none⟩), .int .u64 most] w fun e w' => e = .returned (.int .u64 0) ∧ EyeG w' b ao cap xs pl (if xs.length - pl < 10 then 1 else 2) ∧ Kept [b] w w' := by
  obtain ⟨d0, d1, d2, d3, d4⟩ := R.facts
  rw [show errL 0 = 0 from rfl] at d2
  have hleft := fun n => ELeft_any ((R.drewN n).setBad 2 (by decide))
  rw [show errL 2 = 11 from rfl] at hleft
  have hle := R.le
  have HR : Hid (EyeG w b ao cap xs pl 0) := R
  clear R
  by_cases hs : xs.length - pl < 10
  · rw [if_pos hs]
    have hs1 : (xs.length : Int) - pl < 10 := by omega
    go_enter Try.func39, Try.ntmps39
    go_wp2_with (first | (go_at_call 59; refine hcall.mono ?_; rintro e w1 ⟨rfl, n1, rfl⟩) | (go_at_call 40; refine (hleft _).mono ?_; rintro e w2 ⟨rfl, n2, rfl⟩))
    go_ret
    have R1 := ((HR.out.drewN n1).setBad 2 (by decide)).drewN n2
    exact ⟨rfl, R1.setBad 1 (by decide), ((((Kept.refl [b] w).drewN n1).setCell (Or.inl (by simp)) _).drewN n2).setCell (Or.inl (by simp)) _⟩
  · rw [if_neg hs]
    have hs1 : ¬ (xs.length : Int) - pl < 10 := by omega
    go_enter Try.func39, Try.ntmps39
    go_wp2_with (first | (go_at_call 59; refine hcall.mono ?_; rintro e w1 ⟨rfl, n1, rfl⟩) | (go_at_call 40; refine (hleft _).mono ?_; rintro e w2 ⟨rfl, n2, rfl⟩))
    go_ret
    have R1 := ((HR.out.drewN n1).setBad 2 (by decide)).drewN n2
    exact ⟨rfl, R1, (((Kept.refl [b] w).drewN n1).setCell (Or.inl (by simp)) _).drewN n2⟩

structure EVarTo (w w' : World) (b : Nat) (ao : Option Addr) (cap : Nat) (xs : List Int) (pl k : Nat) (most N : Int) (q : Bool) (e : Ending) : Prop where
  kept : Kept [b] w w'
  ok : q = true → ¬ most < N → e = .returned (.int .u64 N) ∧ EyeG w' b ao cap xs (pl + (k + 1)) 0
  high : q = true → most < N → e = .returned (.int .u64 0) ∧ EyeG w' b ao cap xs pl 3
  form : q = false → e = .returned (.int .u64 0) ∧ EyeG w' b ao cap xs pl 2

set_option maxRecDepth 100000 in
set_option maxHeartbeats 4000000 in
theorem EVar_found {w : World} {b cap : Nat} {ao : Option Addr} {xs : List Int} {pl : Nat} (R : EyeG w b ao cap xs pl 0) (most : Int) (k : Nat) (h10 : k < 10) (hl : pl + k < xs.length)
    (hcall : Calls Try.prog 59 #[.pointer (some ⟨b, 0, none⟩)] w fun e w' => e = .returned (.int .i64 ((pl : Int) + k)) ∧ ∃ n, w' = w.drewN n) (N : Int) (hN : Hid (N = eyeN ((xs.drop pl).take (k + 1)))) (q : Bool) (hq : Hid (q = decide (varB N = (xs.drop pl).take (k + 1)))) :
    Calls Try.prog 39 #[.pointer (some ⟨b, 0, none⟩), .int .u64 most] w fun e w' =>
      EVarTo w w' b ao cap xs pl k most N q e := by
  obtain ⟨d0, d1, d2, d3, d4⟩ := R.facts
  rw [show errL 0 = 0 from rfl] at d2
  have hsm := R.small
  have hN01 : 0 ≤ N ∧ N ≤ 18446744073709551615 := by rw [hN.out]; exact eyeN_range _
  obtain ⟨hcap, g, off, rfl, hrow⟩ := R.some (by omega)
  have hoct := R.oct
  have HR : Hid (EyeG w b (some ⟨g, off, none⟩) cap xs pl 0) := R
  clear R
  have hneg : ¬ ((pl : Int) + k < 0) := by omega
  go_enter Try.func39, Try.ntmps39
  go_wp2_with (go_at_call 59; refine hcall.mono ?_; rintro e w1 ⟨rfl, n1, rfl⟩)
  go_loopw [6, 7] (fun s6 s7 wr => ∃ m : Nat, m ≤ k + 1 ∧ s7 = .int .i64 (((pl + m : Nat) : Int) - 1) ∧ s6 = .int .u64 (eyeN (((xs.drop pl).drop m).take (k + 1 - m))) ∧ wr = w.drewN n1) (fun _ s7 _ => (intOf s7 + 1).toNat)
  case atStart => exact ⟨k + 1, Nat.le_refl _, congrArg (Value.int .i64) (by omega), by simp [eyeN], rfl⟩
  case round =>
    obtain ⟨m, hm, rfl, rfl, rfl⟩ := hrel
    by_cases h0 : m = 0
    · subst h0
      rw [show eyeN (((xs.drop pl).drop 0).take (k + 1 - 0)) = N by rw [hN.out]; rfl]
      clear hN hrow hoct
      have q1 : ¬ ((pl : Int) ≤ ((pl + 0 : Nat) : Int) - 1) := by omega
      have hwr : IntKind.i64.wrap ((pl : Int) + k + 1) = pl + k + 1 := by rw [IntKind.wrap_i64]; omega
      have hseg : BytesAt w (.slice (some ⟨g, off + pl, none⟩) (k + 1) (cap - pl)) ((xs.drop pl).take (k + 1)) := HR.out.row.sub pl (k + 1) _ (by omega) (by omega)
      have hvar := fun W => RVar_any N.toNat N W hN01.1 hN01.2 (Nat.le_refl _)
      have hsl : ((xs.drop pl).take (k + 1)).length ≤ 140737488355328 := by simp; omega
      have hvl : (varB N).length ≤ 140737488355328 := Nat.le_trans (varB_len N hN01.1 hN01.2) (by decide)
      have he : ¬ cap = pl := by omega
      have htn : ((pl : Int) + k + 1).toNat - pl = k + 1 := by omega
      have q2 : (0 : Int) ≤ pl := by omega
      have q3 : (pl : Int) ≤ pl + k + 1 := by omega
      have q4 : (pl : Int) + k + 1 ≤ xs.length := by omega
      go_upto_region 14 with fail
      go_cut [61] from 47 to 61 (fun s61 wx => s61 = .bool (!q) ∧ Kept [] w wx)
      case first =>
        go_region_with (first
          | (go_at_call 33; refine (hvar _).mono ?_; rintro e w2 ⟨v, rfl, hv, hk⟩
             have hk1 := hk.undrewN
             obtain ⟨z0, z1, z2, z3, z4⟩ := (HR.out.kept0 hk1).facts
             have HB : Hid (BytesAt w2 v (varB N)) := hv.bytes
             have HS : Hid (BytesAt w2 (.slice (some ⟨g, off + pl, none⟩) (k + 1) (cap - pl)) ((xs.drop pl).take (k + 1))) := hseg.kept hk1 (fun _ _ => by simp)
             clear hv hk)
          | (go_at_call 18; refine (Eq_any HB.out HS.out hvl hsl).mono ?_; rintro e w3 ⟨rfl, n3, rfl⟩; rw [← hq.out]; have HK : Hid (Kept [] w (w2.drewN n3)) := hk1.drewN n3))
        all_goals (go_wp2_with fail; go_meet; exact ⟨rfl, HK.out⟩)
      case rest =>
      obtain ⟨rfl, hk1⟩ := hcut
      have R2 := HR.out.kept0 hk1
      obtain ⟨z0, z1, z2, z3, z4⟩ := R2.facts
      rw [show errL 0 = 0 from rfl] at z2
      have HR2 : Hid _ := R2
      have HK : Hid (Kept [b] w wc) := hk1.more (by simp)
      clear R2 hcall hvar hseg hq hk1
      cases q with
      | false =>
        go_wp2
        go_ret
        exact ⟨HK.out.setCell (Or.inl (by simp)) _, fun h => (by cases h), fun h => (by cases h), fun _ => ⟨rfl, HR2.out.setBad 2 (by decide)⟩⟩
      | true =>
        by_cases hmn : most < N
        · go_wp2
          go_ret
          exact ⟨HK.out.setCell (Or.inl (by simp)) _, fun _ h => absurd hmn h, fun _ _ => ⟨rfl, HR2.out.setBad 3 (by decide)⟩, fun h => (by cases h)⟩
        · go_wp2
          go_ret
          exact ⟨HK.out.setCell (Or.inl (by simp)) _, fun _ _ => ⟨rfl, HR2.out.setPlace (pl + (k + 1)) (by omega)⟩, fun _ h => absurd h (by omega), fun h => (by cases h)⟩
    · obtain ⟨m, rfl⟩ : ∃ m', m = m' + 1 := ⟨m - 1, by omega⟩
      have hstep := eyeN_step (xs.drop pl) m k (by omega) (by simp; omega)
      obtain ⟨M, hM⟩ : ∃ M, M = eyeN (((xs.drop pl).drop (m + 1)).take (k + 1 - (m + 1))) := ⟨_, rfl⟩
      have hM01 : 0 ≤ M ∧ M ≤ 18446744073709551615 := by rw [hM]; exact eyeN_range _
      rw [← hM] at hstep ⊢
      clear hM h0 hneg
      have gz := hrow (pl + m) (by omega)
      have hz01 := octs_getD hoct (pl + m)
      rw [List.getElem?_drop] at hstep
      obtain ⟨z, hz⟩ : ∃ z, z = xs[pl + m]?.getD 0 := ⟨_, rfl⟩
      rw [← hz] at gz hstep hz01
      have HS : Hid _ := hstep
      clear hz hstep hrow hoct
      rw [show ((pl + (m + 1) : Nat) : Int) - 1 = ((pl + m : Nat) : Int) by omega]
      have q1 : ((pl : Int) ≤ ((pl + m : Nat) : Int)) := by omega
      have q2 : ((pl + m : Nat) : Int) < xs.length := by omega
      have r1 : Int.tmod z 128 = z % 128 := Int.tmod_eq_emod_of_nonneg hz01.1
      go_wp2
      refine ⟨⟨m, by omega, congrArg (Value.int .i64) (by omega), ?_, trivial⟩, by simp [intOf]; omega⟩
      rw [HS.out, IntKind.wrap_u64, IntKind.wrap_u64]
      congr 1
      omega

set_option maxHeartbeats 1000000 in
/-- Var, for every Eye and bound. -/
theorem EVar_any {w : World} {b cap : Nat} {ao : Option Addr} {xs : List Int} {pl f : Nat} (R : EyeG w b ao cap xs pl f) (most : Int) (y : Took) (hy : Hid (y = takeL xs pl f 1 0 most)) :
    Calls Try.prog 39 #[.pointer (some ⟨b, 0, none⟩), .int .u64 most] w fun e w' => e = .returned (.int .u64 y.n) ∧ EyeG w' b ao cap xs y.pl y.f ∧ Kept [b] w w' := by
  rw [hy.out]
  clear hy y
  by_cases hf : f = 0
  · subst hf
    have hlast := Elast_any R
    rcases last_ex xs pl 10 with ⟨k, h10, hl, hall, hz⟩ | hall
    · have hc : Calls Try.prog 59 #[.pointer (some ⟨b, 0, none⟩)] w fun e w' => e = .returned (.int .i64 ((pl : Int) + k)) ∧ ∃ n, w' = w.drewN n := by
        refine hlast.mono ?_
        rintro e w' ⟨r, rfl, hr, hw⟩
        rw [hr.uniq (Or.inl ⟨k, h10, hl, hall, hz, rfl⟩)]
        exact ⟨rfl, hw⟩
      refine (EVar_found R most k h10 hl hc _ rfl _ rfl).mono ?_
      rintro e w' ⟨h1, h2, h3, h4⟩
      rw [var_found xs pl k most R.oct h10 hl hall hz]
      by_cases e1 : varB (eyeN ((xs.drop pl).take (k + 1))) = (xs.drop pl).take (k + 1)
      · rw [if_pos e1]
        by_cases e2 : most < eyeN ((xs.drop pl).take (k + 1))
        · rw [if_pos e2]
          obtain ⟨g1, g2⟩ := h3 (by simpa using e1) e2
          exact ⟨g1, g2, h1⟩
        · rw [if_neg e2]
          obtain ⟨g1, g2⟩ := h2 (by simpa using e1) e2
          exact ⟨g1, g2, h1⟩
      · rw [if_neg e1]
        obtain ⟨g1, g2⟩ := h4 (by simpa using e1)
        exact ⟨g1, g2, h1⟩
    · have hc : Calls Try.prog 59 #[.pointer (some ⟨b, 0, none⟩)] w fun e w' => e = .returned (.int .i64 (-1)) ∧ ∃ n, w' = w.drewN n := by
        refine hlast.mono ?_
        rintro e w' ⟨r, rfl, hr, hw⟩
        rw [hr.uniq (Or.inr ⟨hall, rfl⟩)]
        exact ⟨rfl, hw⟩
      rw [var_open xs pl most hall]
      exact EVar_open R most hc
  · rw [takeL_bad _ _ _ _ _ _ hf]
    obtain ⟨d0, d1, d2, d3, d4⟩ := R.facts
    have hz : (errL f != 0) = true := by simpa using errL_ne f R.bad hf
    have HR : Hid (EyeG w b ao cap xs pl f) := R
    clear R
    generalize errL f = z at *
    go_enter Try.func39, Try.ntmps39
    go_wp2
    go_ret
    exact ⟨rfl, HR.out, Kept.refl _ _⟩
end Go.Proofs.Ytmambfdfkobjgaa
