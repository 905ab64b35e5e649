/-
  WALKS: delta.alike, alikeAtEnd.
-/
import Derived.Test.YtldhbcppnoldiaaMk0
import Derived.Test.YtldhbcppnoldiaaEqAn
import Derived.Deep.QuietTactic
import Derived.BigQuiet
namespace Go.Proofs.Ytldhbcppnoldiaa
open Go.RowKit

/-- So many bytes are common to both beginnings, and not one more. -/
structure LcpIs (xs ys : List Int) (k : Nat) : Prop where
  a : k ≤ xs.length
  b : k ≤ ys.length
  same : ∀ i, i < k → xs[i]?.getD 0 = ys[i]?.getD 0
  stop : k < xs.length → k < ys.length → xs[k]?.getD 0 ≠ ys[k]?.getD 0
theorem LcpIs.uniq {xs ys : List Int} {k j : Nat} (h : LcpIs xs ys k) (g : LcpIs xs ys j) : k = j := by
  rcases Nat.lt_trichotomy k j with c | c | c
  · exact absurd (g.same k c) (h.stop (by have := g.a; omega) (by have := g.b; omega))
  · exact c
  · exact absurd (h.same j c) (g.stop (by have := h.a; omega) (by have := h.b; omega))
theorem LcpIs.take {xs ys : List Int} {k : Nat} (h : LcpIs xs ys k) : xs.take k = ys.take k := by
  have h1 := h.a
  have h2 := h.b
  apply List.ext_getElem?
  intro i
  by_cases hi : i < k
  · rw [List.getElem?_take_of_lt hi, List.getElem?_take_of_lt hi]
    have hs := h.same i hi
    rw [List.getElem?_eq_getElem (show i < xs.length by omega), List.getElem?_eq_getElem (show i < ys.length by omega)] at hs ⊢
    exact congrArg some hs
  · rw [List.getElem?_eq_none (by rw [List.length_take]; omega), List.getElem?_eq_none (by rw [List.length_take]; omega)]
/-- So many bytes are common to both ends, and not one more. -/
structure LcsIs (xs ys : List Int) (k : Nat) : Prop where
  a : k ≤ xs.length
  b : k ≤ ys.length
  same : ∀ i, i < k → xs[xs.length - 1 - i]?.getD 0 = ys[ys.length - 1 - i]?.getD 0
  stop : k < xs.length → k < ys.length → xs[xs.length - 1 - k]?.getD 0 ≠ ys[ys.length - 1 - k]?.getD 0
theorem LcsIs.uniq {xs ys : List Int} {k j : Nat} (h : LcsIs xs ys k) (g : LcsIs xs ys j) : k = j := by
  rcases Nat.lt_trichotomy k j with c | c | c
  · exact absurd (g.same k c) (h.stop (by have := g.a; omega) (by have := g.b; omega))
  · exact c
  · exact absurd (h.same j c) (g.stop (by have := h.a; omega) (by have := h.b; omega))
theorem LcsIs.drop {xs ys : List Int} {k : Nat} (h : LcsIs xs ys k) : xs.drop (xs.length - k) = ys.drop (ys.length - k) := by
  have h1 := h.a
  have h2 := h.b
  apply List.ext_getElem?
  intro i
  rw [List.getElem?_drop, List.getElem?_drop]
  by_cases hi : i < k
  · have hs := h.same (k - 1 - i) (by omega)
    rw [show xs.length - 1 - (k - 1 - i) = xs.length - k + i by omega, show ys.length - 1 - (k - 1 - i) = ys.length - k + i by omega] at hs
    rw [List.getElem?_eq_getElem (show xs.length - k + i < xs.length by omega), List.getElem?_eq_getElem (show ys.length - k + i < ys.length by omega)] at hs ⊢
    exact congrArg some hs
  · rw [List.getElem?_eq_none (by omega), List.getElem?_eq_none (by omega)]

/-- What the walks ask of a slice of bytes that may be empty: its cells. -/
theorem BytesAt.cells {w : World} {ao : Option Addr} {n cap : Nat} {ys : List Int} (h : BytesAt w (.slice ao n cap) ys) : n = ys.length ∧ (0 < ys.length → ∃ b off, ao = some ⟨b, off, none⟩ ∧ ∀ i, i < ys.length → w.cell? ⟨b, off + i, none⟩ = some (.int .u8 (ys[i]?.getD 0))) := by
  obtain ⟨_, _, he, _, _, hh⟩ := h
  injection he with e1 e2 e3
  subst e1
  refine ⟨e2, fun hp => ?_⟩
  obtain ⟨b, off, rfl, hc⟩ := hh (by rintro rfl; simp at hp)
  exact ⟨b, off, rfl, fun i hi => hc i _ (by rw [List.getElem?_eq_getElem hi]; rfl)⟩

set_option maxRecDepth 100000 in
set_option maxHeartbeats 2000000 in
theorem alike_any {w : World} {a1 a2 : Option Addr} {c1 c2 : Nat} {xs ys : List Int} (h1 : BytesAt w (.slice a1 xs.length c1) xs) (h2 : BytesAt w (.slice a2 ys.length c2) ys) (hx : xs.length ≤ 140737488355328) (hy : ys.length ≤ 140737488355328) (k0 : Nat) (hk0 : Hid (LcpIs xs ys k0)) :
    Calls Try.prog 85 #[.slice a1 xs.length c1, .slice a2 ys.length c2] w fun e w' => e = .returned (.int .i64 k0) ∧ ∃ n, w' = w.drewN n := by
  have HX : Hid _ := h1.cells.2
  have HY : Hid _ := h2.cells.2
  clear h1 h2
  obtain ⟨m, hm, hmx, hmy, hme⟩ : ∃ m : Nat, min (xs.length : Int) (ys.length : Int) = m ∧ m ≤ xs.length ∧ m ≤ ys.length ∧ (m = xs.length ∨ m = ys.length) := by
    rcases Nat.le_total xs.length ys.length with h | h
    · exact ⟨xs.length, by omega, by omega, by omega, Or.inl rfl⟩
    · exact ⟨ys.length, by omega, by omega, by omega, Or.inr rfl⟩
  have HME : Hid (m = xs.length ∨ m = ys.length) := hme
  clear hme
  go_enter Try.func85, Try.ntmps85
  go_wp2
  go_loopw [6, 13] (fun _ s13 wr => ∃ k : Nat, k ≤ m ∧ s13 = .int .i64 k ∧ Hid (∀ i, i < k → xs[i]?.getD 0 = ys[i]?.getD 0) ∧ ∃ n, wr = w.drewN n) (fun _ s13 _ => m - (intOf s13).toNat)
  case atStart => exact ⟨0, Nat.zero_le _, rfl, fun i hi => absurd hi (by omega), 0, rfl⟩
  case round =>
    obtain ⟨k, hk, rfl, HS, n, rfl⟩ := hrel
    by_cases hlt : k < m
    · have t1 : decide ((k : Int) < m) = true := by simp; omega
      obtain ⟨b1, o1, rfl, g1⟩ := HX.out (by omega)
      obtain ⟨b2, o2, rfl, g2⟩ := HY.out (by omega)
      have e1 := g1 k (by omega)
      have e2 := g2 k (by omega)
      obtain ⟨x, hxk⟩ : ∃ x, x = xs[k]?.getD 0 := ⟨_, rfl⟩
      obtain ⟨y, hyk⟩ : ∃ y, y = ys[k]?.getD 0 := ⟨_, rfl⟩
      rw [← hxk] at e1
      rw [← hyk] at e2
      have HXK : Hid (x = xs[k]?.getD 0) := hxk
      have HYK : Hid (y = ys[k]?.getD 0) := hyk
      have i0 : (0 : Int) ≤ (k : Int) := by omega
      have i1 : (k : Int) < (xs.length : Int) := by omega
      have i2 : (k : Int) < (ys.length : Int) := by omega
      clear g1 g2 hxk hyk
      by_cases hxy : x = y
      · have e3 : (x != y) = false := by simpa using hxy
        have HXY : Hid (x = y) := hxy
        clear hxy
        go_wp2
        go_quiet (fail)
        go_wp2
        go_roundw
        case rel => exact ⟨k + 1, by omega, by go_num, fun i hi => by
          by_cases e : i = k
          · rw [e, ← HXK.out, ← HYK.out]; exact HXY.out
          · exact HS.out i (by omega), _, rfl⟩
        case measure => simp [intOf]; omega
      · have e3 : (x != y) = true := by simpa using hxy
        have HK : Hid (k0 = k) := hk0.out.uniq ⟨by omega, by omega, HS.out, fun _ _ => by rw [← HXK.out, ← HYK.out]; exact hxy⟩
        clear hxy
        go_wp2
        go_quiet (fail)
        go_wp2
        go_ret
        exact ⟨by rw [HK.out]; rfl, drew_two _ _ _⟩
    · have t1 : decide ((k : Int) < m) = false := by simp; omega
      obtain rfl : k = m := by omega
      have HK : Hid (k0 = k) := hk0.out.uniq ⟨by omega, by omega, HS.out, fun h1 h2 => by rcases HME.out with h | h <;> omega⟩
      go_wp2
      go_ret
      exact ⟨by rw [HK.out]; rfl, _, rfl⟩
set_option maxRecDepth 100000 in
set_option maxHeartbeats 2000000 in
theorem alikeEnd_any {w : World} {a1 a2 : Option Addr} {c1 c2 : Nat} {xs ys : List Int} (h1 : BytesAt w (.slice a1 xs.length c1) xs) (h2 : BytesAt w (.slice a2 ys.length c2) ys) (hx : xs.length ≤ 140737488355328) (hy : ys.length ≤ 140737488355328) (k0 : Nat) (hk0 : Hid (LcsIs xs ys k0)) :
    Calls Try.prog 86 #[.slice a1 xs.length c1, .slice a2 ys.length c2] w fun e w' => e = .returned (.int .i64 k0) ∧ ∃ n, w' = w.drewN n := by
  have HX : Hid _ := h1.cells.2
  have HY : Hid _ := h2.cells.2
  clear h1 h2
  obtain ⟨m, hm, hmx, hmy, hme⟩ : ∃ m : Nat, min (xs.length : Int) (ys.length : Int) = m ∧ m ≤ xs.length ∧ m ≤ ys.length ∧ (m = xs.length ∨ m = ys.length) := by
    rcases Nat.le_total xs.length ys.length with h | h
    · exact ⟨xs.length, by omega, by omega, by omega, Or.inl rfl⟩
    · exact ⟨ys.length, by omega, by omega, by omega, Or.inr rfl⟩
  have HME : Hid (m = xs.length ∨ m = ys.length) := hme
  clear hme
  go_enter Try.func86, Try.ntmps86
  go_wp2
  go_loopw [6, 13] (fun _ s13 wr => ∃ k : Nat, k ≤ m ∧ s13 = .int .i64 k ∧ Hid (∀ i, i < k → xs[xs.length - 1 - i]?.getD 0 = ys[ys.length - 1 - i]?.getD 0) ∧ ∃ n, wr = w.drewN n) (fun _ s13 _ => m - (intOf s13).toNat)
  case atStart => exact ⟨0, Nat.zero_le _, rfl, fun i hi => absurd hi (by omega), 0, rfl⟩
  case round =>
    obtain ⟨k, hk, rfl, HS, n, rfl⟩ := hrel
    by_cases hlt : k < m
    · have t1 : decide ((k : Int) < m) = true := by simp; omega
      obtain ⟨b1, o1, rfl, g1⟩ := HX.out (by omega)
      obtain ⟨b2, o2, rfl, g2⟩ := HY.out (by omega)
      have e1 := g1 (xs.length - 1 - k) (by omega)
      have e2 := g2 (ys.length - 1 - k) (by omega)
      obtain ⟨x, hxk⟩ : ∃ x, x = xs[xs.length - 1 - k]?.getD 0 := ⟨_, rfl⟩
      obtain ⟨y, hyk⟩ : ∃ y, y = ys[ys.length - 1 - k]?.getD 0 := ⟨_, rfl⟩
      rw [← hxk] at e1
      rw [← hyk] at e2
      have HXK : Hid (x = xs[xs.length - 1 - k]?.getD 0) := hxk
      have HYK : Hid (y = ys[ys.length - 1 - k]?.getD 0) := hyk
      obtain ⟨kx, hkx⟩ : ∃ kx, kx = xs.length - 1 - k := ⟨_, rfl⟩
      obtain ⟨ky, hky⟩ : ∃ ky, ky = ys.length - 1 - k := ⟨_, rfl⟩
      rw [← hkx] at e1
      rw [← hky] at e2
      have r1 : IntKind.i64.wrap ((xs.length : Int) - 1) = xs.length - 1 := by rw [IntKind.wrap_i64]; omega
      have r2 : IntKind.i64.wrap ((xs.length : Int) - 1 - k) = kx := by rw [IntKind.wrap_i64]; omega
      have r3 : IntKind.i64.wrap ((ys.length : Int) - 1) = ys.length - 1 := by rw [IntKind.wrap_i64]; omega
      have r4 : IntKind.i64.wrap ((ys.length : Int) - 1 - k) = ky := by rw [IntKind.wrap_i64]; omega
      have i1 : (kx : Int) < (xs.length : Int) := by omega
      have i2 : (ky : Int) < (ys.length : Int) := by omega
      clear hkx hky
      clear g1 g2 hxk hyk
      by_cases hxy : x = y
      · have e3 : (x != y) = false := by simpa using hxy
        have HXY : Hid (x = y) := hxy
        clear hxy
        go_wp2
        go_quiet (fail)
        go_wp2
        go_roundw
        case rel => exact ⟨k + 1, by omega, by go_num, fun i hi => by
          by_cases e : i = k
          · rw [e, ← HXK.out, ← HYK.out]; exact HXY.out
          · exact HS.out i (by omega), _, rfl⟩
        case measure => simp [intOf]; omega
      · have e3 : (x != y) = true := by simpa using hxy
        have HK : Hid (k0 = k) := hk0.out.uniq ⟨by omega, by omega, HS.out, fun _ _ => by rw [← HXK.out, ← HYK.out]; exact hxy⟩
        clear hxy
        go_wp2
        go_quiet (fail)
        go_wp2
        go_ret
        exact ⟨by rw [HK.out]; rfl, drew_two _ _ _⟩
    · have t1 : decide ((k : Int) < m) = false := by simp; omega
      obtain rfl : k = m := by omega
      have HK : Hid (k0 = k) := hk0.out.uniq ⟨by omega, by omega, HS.out, fun h1 h2 => by rcases HME.out with h | h <;> omega⟩
      go_wp2
      go_ret
      exact ⟨by rw [HK.out]; rfl, _, rfl⟩
end Go.Proofs.Ytldhbcppnoldiaa
