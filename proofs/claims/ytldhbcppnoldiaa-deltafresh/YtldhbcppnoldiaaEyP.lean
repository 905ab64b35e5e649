/-
  Lists of bytes that are one's own; satchelref1.Var, for every number.
  PLAIN: what the document's own Reader is held against; a piece of a slice.
-/
import Derived.Test.YtldhbcppnoldiaaConv
import Derived.Test.YtldhbcppnoldiaaPlain5
import Derived.Test.YtldhbcppnoldiaaReaderV
namespace Go.Proofs.Ytldhbcppnoldiaa
open Go.RowKit

set_option maxHeartbeats 1000000 in
/-- satchelref1.Var: the shortest form, in new memory. -/
theorem RVar_any : ∀ (fuel : Nat) (n : Int) (w : World), 0 ≤ n → n ≤ 18446744073709551615 → n.toNat ≤ fuel →
    Calls Try.prog 37 #[.int .u64 n] w fun e w' => ∃ v, e = .returned v ∧ OwnB w' w.heap.size v (varB n) ∧ Kept [] w w' := by
  intro fuel
  induction fuel with
  | zero =>
    intro n w h0 h1 hf
    obtain rfl : n = 0 := by omega
    go_enter Try.func37, Try.ntmps37
    go_wp2
    go_ret
    exact ⟨_, rfl, by rw [varB_small 0 (by decide) (by decide)]; exact OwnB.one 0, (Kept.refl _ _).alloc _⟩
  | succ fuel ih =>
    intro n w h0 h1 hf
    by_cases hs : n < 128
    · clear ih
      have hw : IntKind.u8.wrap n = n := by rw [IntKind.wrap_u8']; omega
      go_enter Try.func37, Try.ntmps37
      go_wp2
      go_ret
      exact ⟨_, rfl, by rw [varB_small n h0 hs]; exact OwnB.one n, (Kept.refl _ _).alloc _⟩
    · obtain ⟨i0, hi, hz0, hz1, hz2⟩ := info_parts Try.info_u8
      have hcall := fun W => ih (n / 128) W (by omega) (by omega) (by omega)
      clear ih
      have r1 : Int.tmod n 128 = n % 128 := Int.tmod_eq_emod_of_nonneg h0
      have r2 : IntKind.u8.wrap (128 + n % 128) = 128 + n % 128 := by rw [IntKind.wrap_u8']; omega
      have r3 : Int.tdiv n 128 = n / 128 := Int.tdiv_eq_ediv_of_nonneg h0
      have HO : Hid (OwnB (w.alloc (.cells #[.int .u8 (128 + n % 128)] 5)) w.heap.size (.slice (some ⟨w.heap.size, 0, none⟩) 1 1) [128 + n % 128]) := OwnB.one _
      go_enter Try.func37, Try.ntmps37
      obtain ⟨m, hm⟩ : ∃ m, m = (varB (n / 128)).length := ⟨_, rfl⟩
      have hm10 : m ≤ 10 := by rw [hm]; exact varB_len _ (by omega) (by omega)
      have hne : varB (n / 128) ≠ [] := by unfold varB; simp
      obtain ⟨cs, hcs⟩ : ∃ cs, cs = (varB (n / 128)).map (Value.int .u8) := ⟨_, rfl⟩
      have hcl : cs.length = m * 1 := by rw [hcs, hm]; simp
      have hco : ∀ u ∈ cs, u.oneCell' = true := by rw [hcs]; exact map_oneCell _
      have HC : Hid (cs = (varB (n / 128)).map (Value.int .u8)) := hcs
      have HM : Hid (m = (varB (n / 128)).length) := hm
      clear hcs hm
      go_wp2_with (first
        | (go_at_call 37; refine (hcall _).mono ?_; rintro e w1 ⟨v, rfl, hv, hk⟩
           obtain ⟨g, cap, rfl, hBg, hg⟩ := hv.form hne
           rw [← HM.out]
           have ho1 := HO.out.kept hk (by simp)
           have hnews : ∀ j u, cs[j]? = some u → w1.cell? ((⟨g, 0, none⟩ : Addr).add j) = some u := by
             rw [HC.out]; exact World.ownsRow.cells hv rfl
           have HV : Hid _ := hv
           have HK : Hid (Kept [] w w1) := ((Kept.refl [] w).alloc _).then hk
           clear hv)
        | (at_builtin; refine wpList_append_own_at _ rfl (.tmp 14) (.tmp 17) 22 rfl w.heap.size 5 i0 (.int .u8 0) 1 1 Try.underlying22 hi hz0 hz1 hz2 rfl (by decide) (.slice (some ⟨w.heap.size, 0, none⟩) 1 1) 1 [.int .u8 (128 + n % 128)] rfl ho1 ⟨g, 0, none⟩ m cap cs rfl hcl hnews hco (by unfold maxLen; omega) (by omega) HK.out.size ?_; intro v' w2 ho' hgr hnil hat))
      go_ret
      refine ⟨_, rfl, ?_, HK.out.grown hgr (fun k hk => Or.inr (by cases hk; exact Nat.le_refl _))⟩
      have e1 : varB n = [128 + n % 128] ++ varB (n / 128) := varB_big n (by omega) h1
      unfold OwnB
      rw [e1, List.length_append, List.map_append, ← HM.out, ← HC.out]
      exact ho'
end Go.Proofs.Ytldhbcppnoldiaa

namespace Go.Proofs.Ytldhbcppnoldiaa
open Go.RowKit

theorem errL_ne (f : Nat) (h : f ≤ 4) (h0 : f ≠ 0) : errL f ≠ 0 := by
  have : ∀ f : Nat, f ≤ 4 → f ≠ 0 → errL f ≠ 0 := by decide
  exact this f h h0
theorem errL_fits (f : Nat) (h : f ≤ 4) : 0 ≤ errL f ∧ errL f ≤ 14 := by
  have : ∀ f : Nat, f ≤ 4 → 0 ≤ errL f ∧ errL f ≤ 14 := by decide
  exact this f h

theorem takeL_raw (xs : List Int) (pl : Nat) (n : Int) (h0 : 0 ≤ n) (h1 : n ≤ (xs.length : Int) - pl) : takeL xs pl 0 3 n 0 = ⟨0, (xs.drop pl).take n.toNat, pl + n.toNat, 0⟩ := by
  simp [takeL, lookL, rawL, show ¬ n < 0 by omega, show ¬ (((xs.length - pl : Nat) : Int) < n) by omega]

theorem Kept.undrewN {S : List Nat} {w w1 : World} {n : Nat} (h : Kept S (w.drewN n) w1) : Kept S w w1 := ⟨h.os, h.tape, h.output, h.size, h.block⟩

theorem takeL_bad (xs : List Int) (pl f : Nat) (kind size most : Int) (hf : f ≠ 0) : takeL xs pl f kind size most = ⟨0, [], pl, f⟩ := if_pos hf
theorem takeL_arg (xs : List Int) (pl : Nat) (n : Int) (h0 : n < 0) : takeL xs pl 0 3 n 0 = ⟨0, [], pl, 4⟩ := by simp [takeL, lookL, rawL, h0]
theorem takeL_short (xs : List Int) (pl : Nat) (n : Int) (h0 : 0 ≤ n) (h1 : (xs.length : Int) - pl < n) (hp : pl ≤ xs.length) : takeL xs pl 0 3 n 0 = ⟨0, [], pl, 1⟩ := by
  simp [takeL, lookL, rawL, show ¬ n < 0 by omega, show ((xs.length - pl : Nat) : Int) < n by omega]

/-- What last tells: the first place from pl on, of ten, with a byte below 128. -/
def LastIs (xs : List Int) (pl : Nat) (r : Int) : Prop :=
  (∃ k, k < 10 ∧ pl + k < xs.length ∧ (∀ j, j < k → 128 ≤ xs[pl + j]?.getD 0) ∧ xs[pl + k]?.getD 0 < 128 ∧ r = pl + k) ∨
    ((∀ j, j < 10 → pl + j < xs.length → 128 ≤ xs[pl + j]?.getD 0) ∧ r = -1)

theorem takeL_var (xs : List Int) (pl : Nat) (most : Int) : takeL xs pl 0 1 0 most = if (varL (xs.drop pl) most).f ≠ 0 then ⟨0, [], pl, (varL (xs.drop pl) most).f⟩
    else ⟨(varL (xs.drop pl) most).n, ((xs.drop pl).take (varL (xs.drop pl) most).to).drop (varL (xs.drop pl) most).frm, pl + (varL (xs.drop pl) most).to, 0⟩ := by
  simp [takeL, lookL]

/-- Behind last, where a place was found: the bytes there, and what the Reader of the document makes of them. -/
theorem var_found (xs : List Int) (pl k : Nat) (most : Int) (ho : Octs xs) (h10 : k < 10) (hl : pl + k < xs.length) (hall : ∀ j, j < k → 128 ≤ xs[pl + j]?.getD 0) (hz : xs[pl + k]?.getD 0 < 128) :
    takeL xs pl 0 1 0 most = if varB (eyeN ((xs.drop pl).take (k + 1))) = (xs.drop pl).take (k + 1)
      then (if most < eyeN ((xs.drop pl).take (k + 1)) then ⟨0, [], pl, 3⟩ else ⟨eyeN ((xs.drop pl).take (k + 1)), [], pl + (k + 1), 0⟩) else ⟨0, [], pl, 2⟩ := by
  obtain ⟨ys, hys⟩ : ∃ ys, ys = xs.drop pl := ⟨_, rfl⟩
  have hyl : k < ys.length := by rw [hys]; simp; omega
  have hyo : Octs ys := by rw [hys]; exact octs_drop ho pl
  have hy : ∀ j, ys[j]?.getD 0 = xs[pl + j]?.getD 0 := by intro j; rw [hys, List.getElem?_drop]
  have e : ys = ys.take k ++ (ys[k]?.getD 0) :: ys.drop (k + 1) := by rw [← drop_cons ys k hyl, List.take_append_drop]
  have hlen : (ys.take k).length = k := by simp; omega
  have e2 : ys.take (k + 1) = ys.take k ++ [ys[k]?.getD 0] := take_snoc ys k hyl
  have hv := varL_eye (ys.take k) (ys.drop (k + 1)) (ys[k]?.getD 0) most (fun x hx => by
      obtain ⟨j, hj, rfl⟩ := List.mem_iff_getElem.1 hx
      rw [hlen] at hj
      have h1 := hall j hj
      rw [← hy] at h1
      have h2 := octs_getD hyo j
      rw [List.getElem_take]
      rw [List.getElem?_eq_getElem (show j < ys.length by omega)] at h1 h2
      exact ⟨h1, h2.2⟩) (by omega) (octs_getD hyo k).1 (by rw [hy]; exact hz) (octs_drop hyo _)
  rw [← e, ← e2, hlen] at hv
  rw [takeL_var, ← hys, hv]
  by_cases h1 : varB (eyeN (ys.take (k + 1))) = ys.take (k + 1)
  · rw [if_pos h1, if_pos h1]
    by_cases h2 : most < eyeN (ys.take (k + 1))
    · rw [if_pos h2, if_pos h2]; rfl
    · rw [if_neg h2, if_neg h2]
      simp
  · rw [if_neg h1, if_neg h1]; rfl
theorem var_open (xs : List Int) (pl : Nat) (most : Int) (hall : ∀ j, j < 10 → pl + j < xs.length → 128 ≤ xs[pl + j]?.getD 0) :
    takeL xs pl 0 1 0 most = ⟨0, [], pl, if xs.length - pl < 10 then 1 else 2⟩ := by
  have hv := varL_open (xs.drop pl) most (fun x hx => by
    obtain ⟨j, hj, rfl⟩ := List.mem_iff_getElem.1 hx
    simp only [List.length_take, List.length_drop] at hj
    have := hall j (by omega) (by omega)
    rw [List.getElem?_eq_getElem (show pl + j < xs.length by omega)] at this
    simpa using this)
  rw [takeL_var, hv, List.length_drop]
  split <;> simp_all
theorem eyeN_step (ys : List Int) (m k : Nat) (hm : m < k + 1) (hk : k < ys.length) : eyeN ((ys.drop m).take (k + 1 - m)) = (eyeN ((ys.drop (m + 1)).take (k + 1 - (m + 1))) * 128 + ys[m]?.getD 0 % 128) % 18446744073709551616 := by
  rw [drop_cons ys m (by omega), show k + 1 - m = (k + 1 - (m + 1)) + 1 by omega, List.take_succ_cons, eyeN]

theorem LastIs.uniq {xs : List Int} {pl : Nat} {r s : Int} (h : LastIs xs pl r) (k : LastIs xs pl s) : r = s := by
  rcases h with ⟨i, a1, a2, a3, a4, rfl⟩ | ⟨a3, rfl⟩ <;> rcases k with ⟨j, b1, b2, b3, b4, rfl⟩ | ⟨b3, rfl⟩
  · rcases Nat.lt_trichotomy i j with c | c | c
    · have := b3 i c; omega
    · rw [c]
    · have := a3 j c; omega
  · have := b3 i a1 a2; omega
  · have := a3 j b1 b2; omega
  · rfl
theorem last_ex (xs : List Int) (pl : Nat) : ∀ n, (∃ k, k < n ∧ pl + k < xs.length ∧ (∀ j, j < k → 128 ≤ xs[pl + j]?.getD 0) ∧ xs[pl + k]?.getD 0 < 128) ∨ (∀ j, j < n → pl + j < xs.length → 128 ≤ xs[pl + j]?.getD 0) := by
  intro n
  induction n with
  | zero => exact Or.inr fun j h => absurd h (by omega)
  | succ n ih =>
    rcases ih with ⟨k, h1, h2⟩ | h
    · exact Or.inl ⟨k, by omega, h2⟩
    · by_cases h1 : pl + n < xs.length ∧ xs[pl + n]?.getD 0 < 128
      · exact Or.inl ⟨n, by omega, h1.1, fun j hj => h j hj (by omega), h1.2⟩
      · refine Or.inr fun j hj hl => ?_
        by_cases e : j = n
        · subst e
          have : ¬ xs[pl + j]?.getD 0 < 128 := fun c => h1 ⟨hl, c⟩
          omega
        · exact h j (by omega) hl

/-- A piece of a slice of bytes. -/
theorem BytesAt.sub {w : World} {g off n cap : Nat} {xs : List Int} (h : BytesAt w (.slice (some ⟨g, off, none⟩) n cap) xs) (lo m c : Nat) (hm : lo + m ≤ xs.length) (hc : m ≤ c) :
    BytesAt w (.slice (some ⟨g, off + lo, none⟩) m c) ((xs.drop lo).take m) := by
  have hl : ((xs.drop lo).take m).length = m := by simp; omega
  refine ⟨some ⟨g, off + lo, none⟩, c, by rw [hl], by rw [hl]; exact hc, fun e => (by simp at e), fun _ => ⟨g, off + lo, rfl, fun i u hu => ?_⟩⟩
  obtain ⟨_, _, he, _, _, hh⟩ := h
  injection he with e1 e2 e3
  have hi : i < m := by have := (List.getElem?_eq_some_iff.1 hu).1; omega
  obtain ⟨b', off', hb, hcell⟩ := hh (by rintro rfl; simp at hm; omega)
  rw [← e1] at hb
  injection hb with hb
  injection hb with hb1 hb2
  subst hb1 hb2
  rw [List.getElem?_take_of_lt hi, List.getElem?_drop] at hu
  have := hcell (lo + i) u hu
  rwa [show off + lo + i = off + (lo + i) by omega]

end Go.Proofs.Ytldhbcppnoldiaa
