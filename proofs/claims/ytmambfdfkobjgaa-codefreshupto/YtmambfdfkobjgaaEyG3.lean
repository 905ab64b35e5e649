/-
  The document's own Reader over any slice: Raw of any number that is not negative, Text.
-/
import Derived.Test.YtmambfdfkobjgaaEyG2
namespace Go.Proofs.Ytmambfdfkobjgaa
open Go.RowKit

theorem bytes_none (w : World) (a : Option Addr) (c : Nat) (h : a = none → c = 0) : BytesAt w (.slice a 0 c) [] := ⟨_, _, rfl, Nat.zero_le _, h, fun h => absurd rfl h⟩
set_option maxRecDepth 100000 in
set_option maxHeartbeats 4000000 in
theorem ERaw_noneA {w : World} {b cap : Nat} {ao : Option Addr} {xs : List Int} {pl : Nat} (R : EyeG w b ao cap xs pl 0) (a : Addr) (ha : ao = some a) (hc : ¬ cap = pl) :
    Calls Try.prog 14 #[.pointer (some ⟨b, 0, none⟩), .int .i64 0] w fun e w' =>
      ∃ v, e = .returned v ∧ BytesAt w' v [] ∧ EyeG w' b ao cap xs pl 0 ∧ Kept [b] w w' ∧ (∀ k, blkOf v = some k → w.heap.size ≤ k) := by
  obtain ⟨d0, d1, d2, d3, d4⟩ := R.facts
  have hleft0 := ELeft_any R
  have hsm := R.small
  have hle := R.le
  have e0 : errL 0 = 0 := rfl
  rw [e0] at d2
  have hz : ((0 : Int) != 0) = false := rfl
  have hcap : xs.length ≤ cap := by
    obtain ⟨_, _, he, hc, _⟩ := R.row
    injection he with a1 a2 a3
    omega
  obtain ⟨g, off, sp⟩ := a
  subst ha
  have hn1 : ((xs.length : Int) - pl < 0) = False := by simp; omega
  have hcopy := fun (a : Option Addr) (c : Nat) (h : a = none → c = 0) (k : Nat) => Copy_any _ [] (w.drewN k) (bytes_none (w.drewN k) a c h) (by decide)
  have HR : Hid (EyeG w b _ cap xs pl 0) := R
  clear R
  have hwr : IntKind.i64.wrap ((pl : Int) + 0) = pl := by rw [IntKind.wrap_i64]; omega
  have hwr2 : IntKind.i64.wrap (pl : Int) = pl := by rw [IntKind.wrap_i64]; omega
  have q1 : (pl : Int) ≤ pl := by omega
  have q2 : (pl : Int) ≤ xs.length := by omega
  have q3 : (0 : Int) ≤ pl := by omega
  have q4 : (pl : Int) ≤ cap := by omega
  go_enter Try.func14, Try.ntmps14
  go_upto_region 9 with (go_at_call 40; refine hleft0.mono ?_; rintro e w1 ⟨rfl, k0, rfl⟩)
  go_cut [5] from 26 to 41 (fun s5 wx => s5 = .slice (some ⟨w.heap.size, 0, none⟩) 0 0 ∧ Kept [] w wx)
  case first =>
    go_region_with (go_at_call 7; refine (hcopy _ _ (by intro h; first | rfl | cases h) _).mono ?_; rintro e w2 ⟨rfl, hq, hk⟩; have hk1 := hk.undrewN; clear hq)
    all_goals (go_wp2_with fail; go_meet; exact ⟨rfl, hk1⟩)
  case rest =>
  obtain ⟨rfl, hk1⟩ := hcut
  have R2 := HR.out.kept0 hk1
  obtain ⟨z0, z1, z2, z3, z4⟩ := R2.facts
  have HR2 : Hid (EyeG wc b _ cap xs pl 0) := R2
  clear R2 hcopy hleft0
  go_wp2
  go_ret
  refine ⟨_, rfl, ⟨_, 0, rfl, Nat.le_refl _, fun e => (by cases e), fun h => absurd rfl h⟩, HR2.out.setPlace pl hle, (hk1.more (by simp)).setCell (Or.inl (by simp)) _, fun k hk => by simp [blkOf] at hk; omega⟩
set_option maxRecDepth 100000 in
set_option maxHeartbeats 4000000 in
theorem ERaw_noneB {w : World} {b cap : Nat} {ao : Option Addr} {xs : List Int} {pl : Nat} (R : EyeG w b ao cap xs pl 0) (a : Addr) (ha : ao = some a) (hc : cap = pl) :
    Calls Try.prog 14 #[.pointer (some ⟨b, 0, none⟩), .int .i64 0] w fun e w' =>
      ∃ v, e = .returned v ∧ BytesAt w' v [] ∧ EyeG w' b ao cap xs pl 0 ∧ Kept [b] w w' ∧ (∀ k, blkOf v = some k → w.heap.size ≤ k) := by
  obtain ⟨d0, d1, d2, d3, d4⟩ := R.facts
  have hleft0 := ELeft_any R
  have hsm := R.small
  have hle := R.le
  have e0 : errL 0 = 0 := rfl
  rw [e0] at d2
  have hz : ((0 : Int) != 0) = false := rfl
  have hcap : xs.length ≤ cap := by
    obtain ⟨_, _, he, hc, _⟩ := R.row
    injection he with a1 a2 a3
    omega
  subst ha
  have hn1 : ((xs.length : Int) - pl < 0) = False := by simp; omega
  have hcopy := fun (a : Option Addr) (c : Nat) (h : a = none → c = 0) (k : Nat) => Copy_any _ [] (w.drewN k) (bytes_none (w.drewN k) a c h) (by decide)
  have HR : Hid (EyeG w b _ cap xs pl 0) := R
  clear R
  have hwr : IntKind.i64.wrap ((pl : Int) + 0) = pl := by rw [IntKind.wrap_i64]; omega
  have hwr2 : IntKind.i64.wrap (pl : Int) = pl := by rw [IntKind.wrap_i64]; omega
  have q1 : (pl : Int) ≤ pl := by omega
  have q2 : (pl : Int) ≤ xs.length := by omega
  have q3 : (0 : Int) ≤ pl := by omega
  have q4 : (pl : Int) ≤ cap := by omega
  go_enter Try.func14, Try.ntmps14
  go_upto_region 9 with (go_at_call 40; refine hleft0.mono ?_; rintro e w1 ⟨rfl, k0, rfl⟩)
  go_cut [5] from 26 to 41 (fun s5 wx => s5 = .slice (some ⟨w.heap.size, 0, none⟩) 0 0 ∧ Kept [] w wx)
  case first =>
    go_region_with (go_at_call 7; refine (hcopy _ _ (by intro h; first | rfl | cases h) _).mono ?_; rintro e w2 ⟨rfl, hq, hk⟩; have hk1 := hk.undrewN; clear hq)
    all_goals (go_wp2_with fail; go_meet; exact ⟨rfl, hk1⟩)
  case rest =>
  obtain ⟨rfl, hk1⟩ := hcut
  have R2 := HR.out.kept0 hk1
  obtain ⟨z0, z1, z2, z3, z4⟩ := R2.facts
  have HR2 : Hid (EyeG wc b _ cap xs pl 0) := R2
  clear R2 hcopy hleft0
  go_wp2
  go_ret
  refine ⟨_, rfl, ⟨_, 0, rfl, Nat.le_refl _, fun e => (by cases e), fun h => absurd rfl h⟩, HR2.out.setPlace pl hle, (hk1.more (by simp)).setCell (Or.inl (by simp)) _, fun k hk => by simp [blkOf] at hk; omega⟩
set_option maxRecDepth 100000 in
set_option maxHeartbeats 4000000 in
theorem ERaw_noneC {w : World} {b cap : Nat} {ao : Option Addr} {xs : List Int} {pl : Nat} (R : EyeG w b ao cap xs pl 0) (ha : ao = none) (hc : cap = pl) :
    Calls Try.prog 14 #[.pointer (some ⟨b, 0, none⟩), .int .i64 0] w fun e w' =>
      ∃ v, e = .returned v ∧ BytesAt w' v [] ∧ EyeG w' b ao cap xs pl 0 ∧ Kept [b] w w' ∧ (∀ k, blkOf v = some k → w.heap.size ≤ k) := by
  obtain ⟨d0, d1, d2, d3, d4⟩ := R.facts
  have hleft0 := ELeft_any R
  have hsm := R.small
  have hle := R.le
  have e0 : errL 0 = 0 := rfl
  rw [e0] at d2
  have hz : ((0 : Int) != 0) = false := rfl
  have hcap : xs.length ≤ cap := by
    obtain ⟨_, _, he, hc, _⟩ := R.row
    injection he with a1 a2 a3
    omega
  subst ha
  have hn1 : ((xs.length : Int) - pl < 0) = False := by simp; omega
  have hcopy := fun (a : Option Addr) (c : Nat) (h : a = none → c = 0) (k : Nat) => Copy_any _ [] (w.drewN k) (bytes_none (w.drewN k) a c h) (by decide)
  have HR : Hid (EyeG w b _ cap xs pl 0) := R
  clear R
  have hwr : IntKind.i64.wrap ((pl : Int) + 0) = pl := by rw [IntKind.wrap_i64]; omega
  have hwr2 : IntKind.i64.wrap (pl : Int) = pl := by rw [IntKind.wrap_i64]; omega
  have q1 : (pl : Int) ≤ pl := by omega
  have q2 : (pl : Int) ≤ xs.length := by omega
  have q3 : (0 : Int) ≤ pl := by omega
  have q4 : (pl : Int) ≤ cap := by omega
  go_enter Try.func14, Try.ntmps14
  go_upto_region 9 with (go_at_call 40; refine hleft0.mono ?_; rintro e w1 ⟨rfl, k0, rfl⟩)
  go_cut [5] from 26 to 41 (fun s5 wx => s5 = .slice (some ⟨w.heap.size, 0, none⟩) 0 0 ∧ Kept [] w wx)
  case first =>
    go_region_with (go_at_call 7; refine (hcopy _ _ (by intro h; first | rfl | cases h) _).mono ?_; rintro e w2 ⟨rfl, hq, hk⟩; have hk1 := hk.undrewN; clear hq)
    all_goals (go_wp2_with fail; go_meet; exact ⟨rfl, hk1⟩)
  case rest =>
  obtain ⟨rfl, hk1⟩ := hcut
  have R2 := HR.out.kept0 hk1
  obtain ⟨z0, z1, z2, z3, z4⟩ := R2.facts
  have HR2 : Hid (EyeG wc b _ cap xs pl 0) := R2
  clear R2 hcopy hleft0
  go_wp2
  go_ret
  refine ⟨_, rfl, ⟨_, 0, rfl, Nat.le_refl _, fun e => (by cases e), fun h => absurd rfl h⟩, HR2.out.setPlace pl hle, (hk1.more (by simp)).setCell (Or.inl (by simp)) _, fun k hk => by simp [blkOf] at hk; omega⟩
theorem ERaw_none {w : World} {b cap : Nat} {ao : Option Addr} {xs : List Int} {pl : Nat} (R : EyeG w b ao cap xs pl 0) :
    Calls Try.prog 14 #[.pointer (some ⟨b, 0, none⟩), .int .i64 0] w fun e w' =>
      ∃ v, e = .returned v ∧ BytesAt w' v [] ∧ EyeG w' b ao cap xs pl 0 ∧ Kept [b] w w' ∧ (∀ k, blkOf v = some k → w.heap.size ≤ k) := by
  by_cases hc : cap = pl
  · match ao, R with
    | some a, R => exact ERaw_noneB R a rfl hc
    | none, R => exact ERaw_noneC R rfl hc
  · match ao, R with
    | some a, R => exact ERaw_noneA R a rfl hc
    | none, R =>
      have h1 := R.le
      obtain ⟨_, _, he, h2, h3, _⟩ := R.row
      injection he with a1 a2 a3
      have := h3 a1.symm
      omega

theorem ERaw0_any {w : World} {b cap : Nat} {ao : Option Addr} {xs : List Int} {pl f : Nat} (R : EyeG w b ao cap xs pl f) (n : Int) (hn0 : 0 ≤ n) (hn1 : n ≤ 9223372036854775807) (y : Took) (hy : Hid (y = takeL xs pl f 3 n 0)) :
    Calls Try.prog 14 #[.pointer (some ⟨b, 0, none⟩), .int .i64 n] w fun e w' =>
      ∃ v, e = .returned v ∧ BytesAt w' v y.text ∧ EyeG w' b ao cap xs y.pl y.f ∧ Kept [b] w w' ∧ (∀ k, blkOf v = some k → w.heap.size ≤ k) := by
  by_cases h1 : 1 ≤ n
  · exact ERaw_any R n h1 hn1 y hy
  · obtain rfl : n = 0 := by omega
    by_cases hf : f = 0
    · subst hf
      have hle := R.le
      have e : takeL xs pl 0 3 0 0 = ⟨0, [], pl, 0⟩ := by
        have := takeL_raw xs pl 0 (by omega) (by omega)
        simpa using this
      rw [hy.out, e]
      exact ERaw_none R
    · rw [hy.out, takeL_bad _ _ _ _ _ _ hf]
      obtain ⟨d0, d1, d2, d3, d4⟩ := R.facts
      have hz : (errL f != 0) = true := by simpa using errL_ne f R.bad hf
      have HR : Hid (EyeG w b ao cap xs pl f) := R
      clear R hy
      generalize errL f = z at *
      go_enter Try.func14, Try.ntmps14
      go_wp2
      go_ret
      exact ⟨_, rfl, BytesAt.nil _, HR.out, Kept.refl _ _, fun k hk => by simp [blkOf] at hk⟩

theorem text_octs (xs : List Int) (ho : Octs xs) (pl f : Nat) (kind size most : Int) : Octs (takeL xs pl f kind size most).text := by
  unfold takeL
  split
  · intro u hu; simp at hu
  · split
    · intro u hu; simp at hu
    · exact octs_drop (octs_take (octs_drop ho _) _) _
theorem takeL_bytes (xs : List Int) (ho : Octs xs) (pl f : Nat) (hp : pl ≤ xs.length) (most : Int) (hm : most ≤ 9223372036854775807) :
    0 ≤ (takeL xs pl f 1 0 most).n ∧ (takeL xs pl f 1 0 most).n ≤ 9223372036854775807 ∧
    takeL xs pl f 2 0 most = if (takeL xs (takeL xs pl f 1 0 most).pl (takeL xs pl f 1 0 most).f 3 (takeL xs pl f 1 0 most).n 0).f ≠ 0
      then ⟨0, [], pl, (takeL xs (takeL xs pl f 1 0 most).pl (takeL xs pl f 1 0 most).f 3 (takeL xs pl f 1 0 most).n 0).f⟩
      else ⟨(takeL xs pl f 1 0 most).n, (takeL xs (takeL xs pl f 1 0 most).pl (takeL xs pl f 1 0 most).f 3 (takeL xs pl f 1 0 most).n 0).text, (takeL xs (takeL xs pl f 1 0 most).pl (takeL xs pl f 1 0 most).f 3 (takeL xs pl f 1 0 most).n 0).pl, 0⟩ := by
  by_cases hf : f = 0
  · subst hf
    have hg := varL_good (xs.drop pl) most (octs_drop ho pl)
    rw [takeL_var]
    have e2 : takeL xs pl 0 2 0 most = if (bytesL (xs.drop pl) most).f ≠ 0 then ⟨0, [], pl, (bytesL (xs.drop pl) most).f⟩
        else ⟨(bytesL (xs.drop pl) most).n, ((xs.drop pl).take (bytesL (xs.drop pl) most).to).drop (bytesL (xs.drop pl) most).frm, pl + (bytesL (xs.drop pl) most).to, 0⟩ := by simp [takeL, lookL]
    rw [e2]
    unfold bytesL
    obtain ⟨x, hx⟩ : ∃ x, x = varL (xs.drop pl) most := ⟨_, rfl⟩
    rw [← hx] at hg ⊢
    clear hx e2
    obtain ⟨g1, g2, g3, g4, g5, g6, g7⟩ := hg
    obtain ⟨n, frm, tt, f⟩ := x
    dsimp only at *
    by_cases h0 : f = 0
    · subst h0
      have hto := g7 rfl
      obtain rfl : frm = tt := hto.2.2
      have hn := g2 rfl
      rw [List.length_drop] at g4 ⊢
      simp only [ne_eq, not_true_eq_false, if_false]
      by_cases hs : ((xs.length - pl : Nat) : Int) - frm < n
      · rw [if_pos hs, takeL_short xs (pl + frm) n g1 (by omega) (by omega)]
        exact ⟨g1, by omega, rfl⟩
      · rw [if_neg hs, takeL_raw xs (pl + frm) n g1 (by omega)]
        refine ⟨g1, by omega, ?_⟩
        simp [List.drop_take, Nat.add_assoc]
    · simp only [ne_eq, h0, not_false_eq_true, if_true]
      rw [takeL_bad _ _ _ _ _ _ h0]
      simp [h0]
  · simp [takeL_bad _ _ _ _ _ _ hf, hf]

set_option maxHeartbeats 2000000 in
/-- Text, for every Eye and bound. -/
theorem ETextG_any {w : World} {b cap : Nat} {ao : Option Addr} {xs : List Int} {pl f : Nat} (R : EyeG w b ao cap xs pl f) (most : Int) (hm0 : -9223372036854775808 ≤ most) (hm1 : most ≤ 9223372036854775807) (y : Took) (hy : Hid (y = takeL xs pl f 2 0 (max most 0))) :
    Calls Try.prog 11 #[.pointer (some ⟨b, 0, none⟩), .int .i64 most] w fun e w' =>
      ∃ v, e = .returned v ∧ BytesAt w' v y.text ∧ EyeG w' b ao cap xs y.pl y.f ∧ Kept [b] w w' ∧ (∀ k, blkOf v = some k → w.heap.size ≤ k) := by
  obtain ⟨k1, k2, k3⟩ := takeL_bytes xs R.oct pl f R.le (max most 0) (by omega)
  have hvar := EVar_any R (max most 0) _ rfl
  obtain ⟨d0, d1, d2, d3, d4⟩ := R.facts
  have hle := R.le
  have hsm := R.small
  obtain ⟨y1, hy1⟩ : ∃ y1, y1 = takeL xs pl f 1 0 (max most 0) := ⟨_, rfl⟩
  rw [← hy1] at k1 k2 k3 hvar
  obtain ⟨y2, hy2⟩ : ∃ y2, y2 = takeL xs y1.pl y1.f 3 y1.n 0 := ⟨_, rfl⟩
  have hraw := fun (W : World) (RW : EyeG W b ao cap xs y1.pl y1.f) => ERaw0_any RW y1.n (by omega) k2 y2 hy2
  rw [← hy2] at k3
  rw [← hy.out] at k3
  clear hy hy1 hy2 R
  have HY : Hid _ := k3
  clear k3
  have i1 : IntKind.i64.wrap y1.n = y1.n := by rw [IntKind.wrap_i64]; omega
  by_cases hf2 : y2.f = 0
  · have EZ : errL y2.f = 0 := by rw [hf2]; rfl
    have ey : y = ⟨y1.n, y2.text, y2.pl, y2.f⟩ := by rw [HY.out, if_neg (by simpa using hf2), hf2]
    rw [ey]
    clear HY ey hf2
    by_cases h0 : most < 0
    · rw [show max most 0 = 0 by omega] at hvar
      go_enter Try.func11, Try.ntmps11
      go_wp2_with (first
        | (go_at_call 39; refine hvar.mono ?_; rintro e w1 ⟨rfl, hr, hk⟩; have hraw1 := hraw w1 hr; have HK1 : Hid _ := hk; clear hr hk)
        | (go_at_call 14; refine hraw1.mono ?_; rintro e w2 ⟨v, rfl, hb, hr, hk, hfr⟩; have HFR : Hid (∀ k, blkOf v = some k → w.heap.size ≤ k) := (fun k hk' => Nat.le_trans HK1.out.size (hfr k hk')); obtain ⟨z0, z1, z2, z3, z4⟩ := hr.facts; rw [EZ] at z2; have HB : Hid _ := hb; have HR : Hid _ := hr; have HK : Hid _ := HK1.out.then hk; clear hb hr hk hfr))
      go_ret
      exact ⟨v, rfl, HB.out, HR.out, HK.out, HFR.out⟩
    · rw [show max most 0 = most by omega] at hvar
      have i2 : IntKind.u64.wrap most = most := by rw [IntKind.wrap_u64]; omega
      go_enter Try.func11, Try.ntmps11
      go_wp2_with (first
        | (go_at_call 39; refine hvar.mono ?_; rintro e w1 ⟨rfl, hr, hk⟩; have hraw1 := hraw w1 hr; have HK1 : Hid _ := hk; clear hr hk)
        | (go_at_call 14; refine hraw1.mono ?_; rintro e w2 ⟨v, rfl, hb, hr, hk, hfr⟩; have HFR : Hid (∀ k, blkOf v = some k → w.heap.size ≤ k) := (fun k hk' => Nat.le_trans HK1.out.size (hfr k hk')); obtain ⟨z0, z1, z2, z3, z4⟩ := hr.facts; rw [EZ] at z2; have HB : Hid _ := hb; have HR : Hid _ := hr; have HK : Hid _ := HK1.out.then hk; clear hb hr hk hfr))
      go_ret
      exact ⟨v, rfl, HB.out, HR.out, HK.out, HFR.out⟩
  · obtain ⟨z, EZ⟩ : ∃ z, errL y2.f = z := ⟨_, rfl⟩
    have ey : y = ⟨0, [], pl, y2.f⟩ := by rw [HY.out, if_pos hf2]
    rw [ey]
    clear HY ey
    have hz : y2.f ≤ 4 → (z != 0) = true := fun h => by rw [← EZ]; simpa using errL_ne _ h hf2
    clear hf2
    by_cases h0 : most < 0
    · rw [show max most 0 = 0 by omega] at hvar
      go_enter Try.func11, Try.ntmps11
      go_wp2_with (first
        | (go_at_call 39; refine hvar.mono ?_; rintro e w1 ⟨rfl, hr, hk⟩; have hraw1 := hraw w1 hr; have HK1 : Hid _ := hk; clear hr hk)
        | (go_at_call 14; refine hraw1.mono ?_; rintro e w2 ⟨v, rfl, hb, hr, hk, hfr⟩; have HFR : Hid (∀ k, blkOf v = some k → w.heap.size ≤ k) := (fun k hk' => Nat.le_trans HK1.out.size (hfr k hk')); obtain ⟨z0, z1, z2, z3, z4⟩ := hr.facts; rw [EZ] at z2; have hzz := hz hr.bad; have HR : Hid _ := hr; have HK : Hid _ := HK1.out.then hk; clear hb hr hk hfr))
      go_ret
      exact ⟨_, rfl, BytesAt.nil _, HR.out.setPlace pl hle, HK.out.setCell (Or.inl (by simp)) _, fun k hk => by simp [blkOf] at hk⟩
    · rw [show max most 0 = most by omega] at hvar
      have i2 : IntKind.u64.wrap most = most := by rw [IntKind.wrap_u64]; omega
      go_enter Try.func11, Try.ntmps11
      go_wp2_with (first
        | (go_at_call 39; refine hvar.mono ?_; rintro e w1 ⟨rfl, hr, hk⟩; have hraw1 := hraw w1 hr; have HK1 : Hid _ := hk; clear hr hk)
        | (go_at_call 14; refine hraw1.mono ?_; rintro e w2 ⟨v, rfl, hb, hr, hk, hfr⟩; have HFR : Hid (∀ k, blkOf v = some k → w.heap.size ≤ k) := (fun k hk' => Nat.le_trans HK1.out.size (hfr k hk')); obtain ⟨z0, z1, z2, z3, z4⟩ := hr.facts; rw [EZ] at z2; have hzz := hz hr.bad; have HR : Hid _ := hr; have HK : Hid _ := HK1.out.then hk; clear hb hr hk hfr))
      go_ret
      exact ⟨_, rfl, BytesAt.nil _, HR.out.setPlace pl hle, HK.out.setCell (Or.inl (by simp)) _, fun k hk => by simp [blkOf] at hk⟩
end Go.Proofs.Ytmambfdfkobjgaa
