/-
  The document's own Reader: fixed, U8, U32, U64 and Text.
-/
import Derived.Test.YtkhcofdcokngkaaEye4
namespace Go.Proofs.Ytkhcofdcokngkaa
open Go.RowKit

theorem takeL_fix (xs : List Int) (pl size : Nat) (h1 : pl + size ≤ xs.length) : takeL xs pl 0 0 size 0 = ⟨be ((xs.drop pl).take size), [], pl + size, 0⟩ := by
  simp [takeL, lookL, fixedL, show ¬ (xs.length - pl < size) by omega]
theorem takeL_fixshort (xs : List Int) (pl size : Nat) (h1 : xs.length - pl < size) : takeL xs pl 0 0 size 0 = ⟨0, [], pl, 1⟩ := by
  simp [takeL, lookL, fixedL, h1]
theorem raw_fixed (xs : List Int) (pl f size : Nat) (hp : pl ≤ xs.length) : be (takeL xs pl f 3 size 0).text = (takeL xs pl f 0 size 0).n ∧ (takeL xs pl f 3 size 0).pl = (takeL xs pl f 0 size 0).pl ∧ (takeL xs pl f 3 size 0).f = (takeL xs pl f 0 size 0).f ∧ (takeL xs pl f 3 size 0).text.length ≤ size := by
  by_cases hf : f = 0
  · subst hf
    by_cases h : xs.length - pl < size
    · rw [takeL_fixshort _ _ _ h, takeL_short xs pl size (by omega) (by omega) hp]
      exact ⟨rfl, rfl, rfl, Nat.zero_le _⟩
    · rw [takeL_fix _ _ _ (by omega), takeL_raw xs pl size (by omega) (by omega)]
      refine ⟨rfl, rfl, rfl, ?_⟩
      simp
      omega
  · rw [takeL_bad _ _ _ _ _ _ hf, takeL_bad _ _ _ _ _ _ hf]
    exact ⟨rfl, rfl, rfl, Nat.zero_le _⟩
theorem text_octs (xs : List Int) (ho : Octs xs) (pl f : Nat) (kind size most : Int) : Octs (takeL xs pl f kind size most).text := by
  unfold takeL
  split
  · intro u hu; simp at hu
  · split
    · intro u hu; simp at hu
    · exact octs_drop (octs_take (octs_drop ho _) _) _

set_option maxHeartbeats 1000000 in
theorem Efixed_any {w : World} {b g : Nat} {xs : List Int} {pl f : Nat} (R : EyeAt w b g xs pl f) (size : Nat) (hs : size ≤ 8) (y : Took) (hy : Hid (y = takeL xs pl f 0 size 0)) :
    Calls Try.prog 75 #[.pointer (some ⟨b, 0, none⟩), .int .i64 size] w fun e w' => e = .returned (.int .u64 y.n) ∧ EyeAt w' b g xs y.pl y.f ∧ Kept [b] w w' := by
  obtain ⟨k1, k2, k3, k4⟩ := raw_fixed xs pl f size R.le
  have hto := text_octs xs R.oct pl f 3 size 0
  have hcall := ERaw_any R size (by omega) (by omega) _ rfl
  rw [k2, k3] at hcall
  generalize (takeL xs pl f 3 size 0).text = ts at *
  rw [← hy.out] at k1 k2 k3 hcall
  clear hy R k2 k3
  have HT : Hid (be ts = y.n) := k1
  clear k1
  go_enter Try.func75, Try.ntmps75
  go_wp2_with (go_at_call 39; refine hcall.mono ?_; rintro e w1 ⟨v, rfl, hb, hr, hk⟩; obtain ⟨ao, cap, rfl, hcap, hnil, hcell⟩ := hb; have HR : Hid _ := hr; have HK : Hid _ := hk; clear hr hk)
  go_loopw [6, 7] (fun s6 s7 wr => ∃ k : Nat, k ≤ ts.length ∧ s7 = .int .i64 k ∧ s6 = .int .u64 (be (ts.take k)) ∧ wr = w1) (fun _ s7 _ => ts.length - (intOf s7).toNat)
  case atStart => exact ⟨0, Nat.zero_le _, rfl, rfl, rfl⟩
  case round =>
    obtain ⟨k, hkl, rfl, rfl, rfl⟩ := hrel
    by_cases hlt : k < ts.length
    · obtain ⟨gb, off, rfl, hh⟩ := hcell (by rintro rfl; simp at hlt)
      have g1 := hh k (ts[k]?.getD 0) (by rw [List.getElem?_eq_getElem hlt]; rfl)
      have hz01 := octs_getD hto k
      have hbe := be_le8 (ts.take k) (octs_take hto k) (by simp; omega)
      have HB : Hid (be (ts.take (k + 1)) = be (ts.take k) * 256 + ts[k]?.getD 0) := by
        exact (congrArg be (take_snoc ts k hlt)).trans (be_snoc _ _)
      generalize be (ts.take k) = M at *
      generalize ts[k]?.getD 0 = z at *
      clear hh hto hcell
      have i0 : (0 : Int) ≤ (k : Int) := by omega
      have i1 : (k : Int) < (ts.length : Int) := by omega
      have m1 : IntKind.u64.wrap (M * 256) = M * 256 := by rw [IntKind.wrap_u64]; omega
      have m2 : IntKind.u64.wrap (M * 256 + z) = M * 256 + z := by rw [IntKind.wrap_u64]; omega
      go_wp2
      go_roundw
      case rel => exact ⟨k + 1, by omega, by go_num, by rw [HB.out], trivial⟩
      case measure => simp [intOf]; omega
    · rw [List.take_of_length_le (by omega), HT.out]
      clear hcell hto
      go_wp2
      go_ret
      exact ⟨rfl, HR.out, HK.out⟩

set_option maxHeartbeats 1000000 in
theorem EU8_any {w : World} {b g : Nat} {xs : List Int} {pl f : Nat} (R : EyeAt w b g xs pl f) (y : Took) (hy : Hid (y = takeL xs pl f 0 1 0)) :
    Calls Try.prog 58 #[.pointer (some ⟨b, 0, none⟩)] w fun e w' => e = .returned (.int .u8 y.n) ∧ EyeAt w' b g xs y.pl y.f ∧ Kept [b] w w' := by
  have hcall := Efixed_any R 1 (by decide) y hy
  have hn : 0 ≤ y.n ∧ y.n < 256 := by rw [hy.out]; exact take_lt xs R.oct pl f 1
  clear R hy
  have hw : IntKind.u8.wrap y.n = y.n := by rw [IntKind.wrap_u8']; omega
  go_enter Try.func58, Try.ntmps58
  go_wp2_with (go_at_call 75; refine hcall.mono ?_; rintro e w1 ⟨rfl, hr, hk⟩)
  go_ret
  exact ⟨rfl, hr, hk⟩
set_option maxHeartbeats 1000000 in
theorem EU32_any {w : World} {b g : Nat} {xs : List Int} {pl f : Nat} (R : EyeAt w b g xs pl f) (y : Took) (hy : Hid (y = takeL xs pl f 0 4 0)) :
    Calls Try.prog 59 #[.pointer (some ⟨b, 0, none⟩)] w fun e w' => e = .returned (.int .u32 y.n) ∧ EyeAt w' b g xs y.pl y.f ∧ Kept [b] w w' := by
  have hcall := Efixed_any R 4 (by decide) y hy
  have hn : 0 ≤ y.n ∧ y.n < 4294967296 := by rw [hy.out]; exact take_lt xs R.oct pl f 4
  clear R hy
  have hw : IntKind.u32.wrap y.n = y.n := by rw [IntKind.wrap_u32']; omega
  go_enter Try.func59, Try.ntmps59
  go_wp2_with (go_at_call 75; refine hcall.mono ?_; rintro e w1 ⟨rfl, hr, hk⟩)
  go_ret
  exact ⟨rfl, hr, hk⟩
set_option maxHeartbeats 1000000 in
theorem EU64_any {w : World} {b g : Nat} {xs : List Int} {pl f : Nat} (R : EyeAt w b g xs pl f) (y : Took) (hy : Hid (y = takeL xs pl f 0 8 0)) :
    Calls Try.prog 61 #[.pointer (some ⟨b, 0, none⟩)] w fun e w' => e = .returned (.int .u64 y.n) ∧ EyeAt w' b g xs y.pl y.f ∧ Kept [b] w w' := by
  have hcall := Efixed_any R 8 (by decide) y hy
  clear R hy
  go_enter Try.func61, Try.ntmps61
  go_wp2_with (go_at_call 75; refine hcall.mono ?_; rintro e w1 ⟨rfl, hr, hk⟩)
  go_ret
  exact ⟨rfl, hr, hk⟩

/-- Bytes is Var, then Raw; a fault of either leaves the place. -/
theorem takeL_bytes (xs : List Int) (ho : Octs xs) (pl f : Nat) (hp : pl ≤ xs.length) (most : Int) (hm : most ≤ 9223372036854775807) :
    0 ≤ (takeL xs pl f 1 0 most).n ∧ (takeL xs pl f 1 0 most).n ≤ 9223372036854775807 ∧
    takeL xs pl f 2 0 most = if (takeL xs (takeL xs pl f 1 0 most).pl (takeL xs pl f 1 0 most).f 3 (takeL xs pl f 1 0 most).n 0).f ≠ 0
      then ⟨0, [], pl, (takeL xs (takeL xs pl f 1 0 most).pl (takeL xs pl f 1 0 most).f 3 (takeL xs pl f 1 0 most).n 0).f⟩
      else ⟨(takeL xs pl f 1 0 most).n, (takeL xs (takeL xs pl f 1 0 most).pl (takeL xs pl f 1 0 most).f 3 (takeL xs pl f 1 0 most).n 0).text, (takeL xs (takeL xs pl f 1 0 most).pl (takeL xs pl f 1 0 most).f 3 (takeL xs pl f 1 0 most).n 0).pl, 0⟩ := by
  by_cases hf : f = 0
  · subst hf
    have hg := varL_good (xs.drop pl) most (octs_drop ho pl)
    rw [takeL_var]
    have e2 : takeL xs pl 0 2 0 most = if (bytesL (xs.drop pl) most).f ≠ 0 then ⟨0, [], pl, (bytesL (xs.drop pl) most).f⟩
        else ⟨(bytesL (xs.drop pl) most).n, ((xs.drop pl).take (bytesL (xs.drop pl) most).to).drop (bytesL (xs.drop pl) most).frm, pl + (bytesL (xs.drop pl) most).to, 0⟩ := by simp [takeL, lookL]
    rw [e2]
    unfold bytesL
    obtain ⟨x, hx⟩ : ∃ x, x = varL (xs.drop pl) most := ⟨_, rfl⟩
    rw [← hx] at hg ⊢
    clear hx e2
    obtain ⟨g1, g2, g3, g4, g5, g6, g7⟩ := hg
    obtain ⟨n, frm, tt, f⟩ := x
    dsimp only at *
    by_cases h0 : f = 0
    · subst h0
      have hto := g7 rfl
      obtain rfl : frm = tt := hto.2.2
      have hn := g2 rfl
      rw [List.length_drop] at g4 ⊢
      simp only [ne_eq, not_true_eq_false, if_false]
      by_cases hs : ((xs.length - pl : Nat) : Int) - frm < n
      · rw [if_pos hs, takeL_short xs (pl + frm) n g1 (by omega) (by omega)]
        exact ⟨g1, by omega, rfl⟩
      · rw [if_neg hs, takeL_raw xs (pl + frm) n g1 (by omega)]
        refine ⟨g1, by omega, ?_⟩
        simp [List.drop_take, Nat.add_assoc]
    · simp only [ne_eq, h0, not_false_eq_true, if_true]
      rw [takeL_bad _ _ _ _ _ _ h0]
      simp [h0]
  · simp [takeL_bad _ _ _ _ _ _ hf, hf]

set_option maxHeartbeats 2000000 in
/-- Text, for every Eye and bound. -/
theorem EText_any {w : World} {b g : Nat} {xs : List Int} {pl f : Nat} (R : EyeAt w b g xs pl f) (most : Int) (hm0 : -9223372036854775808 ≤ most) (hm1 : most ≤ 9223372036854775807) (y : Took) (hy : Hid (y = takeL xs pl f 2 0 (max most 0))) :
    Calls Try.prog 38 #[.pointer (some ⟨b, 0, none⟩), .int .i64 most] w fun e w' =>
      ∃ v, e = .returned v ∧ BytesAt w' v y.text ∧ EyeAt w' b g xs y.pl y.f ∧ Kept [b] w w' := by
  obtain ⟨k1, k2, k3⟩ := takeL_bytes xs R.oct pl f R.le (max most 0) (by omega)
  have hvar := EVar_any R (max most 0) _ rfl
  obtain ⟨d0, d1, d2, d3, d4⟩ := R.facts
  have hle := R.le
  have hsm := R.small
  obtain ⟨y1, hy1⟩ : ∃ y1, y1 = takeL xs pl f 1 0 (max most 0) := ⟨_, rfl⟩
  rw [← hy1] at k1 k2 k3 hvar
  obtain ⟨y2, hy2⟩ : ∃ y2, y2 = takeL xs y1.pl y1.f 3 y1.n 0 := ⟨_, rfl⟩
  have hraw := fun (W : World) (RW : EyeAt W b g xs y1.pl y1.f) => ERaw_any RW y1.n (by omega) k2 y2 hy2
  rw [← hy2] at k3
  rw [← hy.out] at k3
  clear hy hy1 hy2 R
  have HY : Hid _ := k3
  clear k3
  have i1 : IntKind.i64.wrap y1.n = y1.n := by rw [IntKind.wrap_i64]; omega
  by_cases hf2 : y2.f = 0
  · have EZ : errL y2.f = 0 := by rw [hf2]; rfl
    have ey : y = ⟨y1.n, y2.text, y2.pl, y2.f⟩ := by rw [HY.out, if_neg (by simpa using hf2), hf2]
    rw [ey]
    clear HY ey hf2
    by_cases h0 : most < 0
    · rw [show max most 0 = 0 by omega] at hvar
      go_enter Try.func38, Try.ntmps38
      go_wp2_with (first
        | (go_at_call 63; refine hvar.mono ?_; rintro e w1 ⟨rfl, hr, hk⟩; have hraw1 := hraw w1 hr; have HK1 : Hid _ := hk; clear hr hk)
        | (go_at_call 39; refine hraw1.mono ?_; rintro e w2 ⟨v, rfl, hb, hr, hk⟩; obtain ⟨z0, z1, z2, z3, z4⟩ := hr.facts; rw [EZ] at z2; have HB : Hid _ := hb; have HR : Hid _ := hr; have HK : Hid _ := HK1.out.then hk; clear hb hr hk))
      go_ret
      exact ⟨v, rfl, HB.out, HR.out, HK.out⟩
    · rw [show max most 0 = most by omega] at hvar
      have i2 : IntKind.u64.wrap most = most := by rw [IntKind.wrap_u64]; omega
      go_enter Try.func38, Try.ntmps38
      go_wp2_with (first
        | (go_at_call 63; refine hvar.mono ?_; rintro e w1 ⟨rfl, hr, hk⟩; have hraw1 := hraw w1 hr; have HK1 : Hid _ := hk; clear hr hk)
        | (go_at_call 39; refine hraw1.mono ?_; rintro e w2 ⟨v, rfl, hb, hr, hk⟩; obtain ⟨z0, z1, z2, z3, z4⟩ := hr.facts; rw [EZ] at z2; have HB : Hid _ := hb; have HR : Hid _ := hr; have HK : Hid _ := HK1.out.then hk; clear hb hr hk))
      go_ret
      exact ⟨v, rfl, HB.out, HR.out, HK.out⟩
  · obtain ⟨z, EZ⟩ : ∃ z, errL y2.f = z := ⟨_, rfl⟩
    have ey : y = ⟨0, [], pl, y2.f⟩ := by rw [HY.out, if_pos hf2]
    rw [ey]
    clear HY ey
    have hz : y2.f ≤ 4 → (z != 0) = true := fun h => by rw [← EZ]; simpa using errL_ne _ h hf2
    clear hf2
    by_cases h0 : most < 0
    · rw [show max most 0 = 0 by omega] at hvar
      go_enter Try.func38, Try.ntmps38
      go_wp2_with (first
        | (go_at_call 63; refine hvar.mono ?_; rintro e w1 ⟨rfl, hr, hk⟩; have hraw1 := hraw w1 hr; have HK1 : Hid _ := hk; clear hr hk)
        | (go_at_call 39; refine hraw1.mono ?_; rintro e w2 ⟨v, rfl, hb, hr, hk⟩; obtain ⟨z0, z1, z2, z3, z4⟩ := hr.facts; rw [EZ] at z2; have hzz := hz hr.bad; have HR : Hid _ := hr; have HK : Hid _ := HK1.out.then hk; clear hb hr hk))
      go_ret
      exact ⟨_, rfl, BytesAt.nil _, HR.out.setPlace pl hle, HK.out.setCell (Or.inl (by simp)) _⟩
    · rw [show max most 0 = most by omega] at hvar
      have i2 : IntKind.u64.wrap most = most := by rw [IntKind.wrap_u64]; omega
      go_enter Try.func38, Try.ntmps38
      go_wp2_with (first
        | (go_at_call 63; refine hvar.mono ?_; rintro e w1 ⟨rfl, hr, hk⟩; have hraw1 := hraw w1 hr; have HK1 : Hid _ := hk; clear hr hk)
        | (go_at_call 39; refine hraw1.mono ?_; rintro e w2 ⟨v, rfl, hb, hr, hk⟩; obtain ⟨z0, z1, z2, z3, z4⟩ := hr.facts; rw [EZ] at z2; have hzz := hz hr.bad; have HR : Hid _ := hr; have HK : Hid _ := HK1.out.then hk; clear hb hr hk))
      go_ret
      exact ⟨_, rfl, BytesAt.nil _, HR.out.setPlace pl hle, HK.out.setCell (Or.inl (by simp)) _⟩
end Go.Proofs.Ytkhcofdcokngkaa
