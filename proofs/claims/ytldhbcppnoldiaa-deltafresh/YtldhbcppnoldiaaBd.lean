/-
  WALK: satchelref7.Bound.
-/
import Derived.Test.YtldhbcppnoldiaaMk2
namespace Go.Proofs.Ytldhbcppnoldiaa
open Go.RowKit

theorem lcs_drop {bs ts : List Int} {p s : Nat} (hp1 : p ≤ bs.length) (hp2 : p ≤ ts.length) (h1 : s ≤ bs.length - p) (h2 : s ≤ ts.length - p) (hs : ∀ i, i < s → bs[bs.length - 1 - i]?.getD 0 = ts[ts.length - 1 - i]?.getD 0)
    (hst : s < bs.length - p → s < ts.length - p → bs[bs.length - 1 - s]?.getD 0 ≠ ts[ts.length - 1 - s]?.getD 0) : LcsIs (bs.drop p) (ts.drop p) s := by
  have e : ∀ (xs : List Int) (i : Nat), p ≤ xs.length → i < xs.length - p → (xs.drop p)[(xs.drop p).length - 1 - i]? = xs[xs.length - 1 - i]? := by
    intro xs i h1 h2
    rw [List.getElem?_drop, List.length_drop]
    congr 1
    omega
  refine ⟨by rw [List.length_drop]; omega, by rw [List.length_drop]; omega, fun i hi => ?_, fun a b => ?_⟩
  · rw [e bs i hp1 (by omega), e ts i hp2 (by omega)]
    exact hs i hi
  · rw [List.length_drop] at a b
    rw [e bs s hp1 (by omega), e ts s hp2 (by omega)]
    exact hst a b

set_option maxRecDepth 100000 in
set_option maxHeartbeats 4000000 in
theorem RBound_any {w : World} {a1 a2 : Option Addr} {c1 c2 : Nat} {xs ys : List Int} (h1 : BytesAt w (.slice a1 xs.length c1) xs) (h2 : BytesAt w (.slice a2 ys.length c2) ys) (hx : xs.length ≤ 140737488355328) (hy : ys.length ≤ 140737488355328) (p0 s0 : Nat) (hp0 : Hid (LcpIs xs ys p0)) (hs0 : Hid (LcsIs (xs.drop p0) (ys.drop p0) s0)) :
    Calls Try.prog 24 #[.slice a1 xs.length c1, .slice a2 ys.length c2] w fun e w' => e = .returned (.int .i64 ((ys.length : Int) - p0 - s0 + 32)) ∧ ∃ n, w' = w.drewN n := by
  have HX : Hid _ := h1.cells.2
  have HY : Hid _ := h2.cells.2
  clear h1 h2
  go_enter Try.func24, Try.ntmps24
  go_wp2
  go_loopw [5] (fun s5 wr => ∃ k : Nat, k ≤ xs.length ∧ k ≤ ys.length ∧ s5 = .int .i64 k ∧ Hid (∀ i, i < k → xs[i]?.getD 0 = ys[i]?.getD 0) ∧ ∃ n, wr = w.drewN n) (fun s5 _ => xs.length - (intOf s5).toNat)
  case atStart => exact ⟨0, Nat.zero_le _, Nat.zero_le _, rfl, fun i hi => absurd hi (by omega), 0, rfl⟩
  case round =>
    obtain ⟨k, hk1, hk2, rfl, HS, n, rfl⟩ := hrel
    by_cases hlt : k < xs.length
    · have t1 : decide ((k : Int) < xs.length) = true := by simp; omega
      by_cases hlt2 : k < ys.length
      · have t2 : decide ((k : Int) < ys.length) = true := by simp; omega
        obtain ⟨b1, o1, rfl, g1⟩ := HX.out (by omega)
        obtain ⟨b2, o2, rfl, g2⟩ := HY.out (by omega)
        have e1 := g1 k (by omega)
        have e2 := g2 k (by omega)
        obtain ⟨x, hxk⟩ : ∃ x, x = xs[k]?.getD 0 := ⟨_, rfl⟩
        obtain ⟨y, hyk⟩ : ∃ y, y = ys[k]?.getD 0 := ⟨_, rfl⟩
        rw [← hxk] at e1
        rw [← hyk] at e2
        have HXK : Hid (x = xs[k]?.getD 0) := hxk
        have HYK : Hid (y = ys[k]?.getD 0) := hyk
        have i0 : (0 : Int) ≤ (k : Int) := by omega
        have i1 : (k : Int) < (xs.length : Int) := by omega
        have i2 : (k : Int) < (ys.length : Int) := by omega
        clear g1 g2 hxk hyk
        by_cases hxy : x = y
        · have e3 : (x == y) = true := by simpa using hxy
          have HXY : Hid (x = y) := hxy
          clear hxy
          go_wp2
          go_quiet (fail)
          go_wp2
          go_roundw
          case rel => exact ⟨k + 1, by omega, by omega, by go_num, fun i hi => by
            by_cases e : i = k
            · rw [e, ← HXK.out, ← HYK.out]; exact HXY.out
            · exact HS.out i (by omega), _, rfl⟩
          case measure => simp [intOf]; omega
        · have e3 : (x == y) = false := by simpa using hxy
          have HK : Hid (p0 = k) := hp0.out.uniq ⟨by omega, by omega, HS.out, fun _ _ => by rw [← HXK.out, ← HYK.out]; exact hxy⟩
          clear hxy HXK HYK
          go_wp2
          go_quiet (fail)
          obtain rfl := HK.out
          clear HK HS e3 e1 e2 i0 i1 i2
          generalize hmxE : xs.length - p0 = mx
          generalize hmyE : ys.length - p0 = my
          have HMX : Hid (xs.length - p0 = mx) := hmxE
          have HMY : Hid (ys.length - p0 = my) := hmyE
          have r1 : IntKind.i64.wrap ((xs.length : Int) - p0) = mx := by rw [IntKind.wrap_i64]; omega
          have r2 : IntKind.i64.wrap ((ys.length : Int) - p0) = my := by rw [IntKind.wrap_i64]; omega
          have q1 : mx ≤ xs.length := by omega
          have q2 : my ≤ ys.length := by omega
          clear hmxE hmyE
          go_wp2
          go_loopw [6] (fun s6 wr => ∃ k : Nat, k ≤ mx ∧ k ≤ my ∧ s6 = .int .i64 k ∧ Hid (∀ i, i < k → xs[xs.length - 1 - i]?.getD 0 = ys[ys.length - 1 - i]?.getD 0) ∧ ∃ n, wr = w.drewN n) (fun s6 _ => mx - (intOf s6).toNat)
          case atStart => exact ⟨0, Nat.zero_le _, Nat.zero_le _, rfl, fun i hi => absurd hi (by omega), by first | exact ⟨_, rfl⟩ | exact drew_two _ _ _⟩
          case round =>
            obtain ⟨j, hj1, hj2, rfl, HS, n2, rfl⟩ := hrel
            have u2 : IntKind.i64.wrap ((my : Int) - j) = my - j := by rw [IntKind.wrap_i64]; omega
            have u3 : IntKind.i64.wrap ((my : Int) - j + 32) = my - j + 32 := by rw [IntKind.wrap_i64]; omega
            by_cases hlx : j < mx
            · have d1 : decide ((j : Int) < mx) = true := by simp; omega
              by_cases hly : j < my
              · have d2 : decide ((j : Int) < my) = true := by simp; omega
                obtain ⟨b3, o3, hb3, g1⟩ := HX.out (by omega)
                obtain ⟨b4, o4, hb4, g2⟩ := HY.out (by omega)
                try cases hb3
                try cases hb4
                have e1 := g1 (xs.length - 1 - j) (by omega)
                have e2 := g2 (ys.length - 1 - j) (by omega)
                obtain ⟨x, hxk⟩ : ∃ x, x = xs[xs.length - 1 - j]?.getD 0 := ⟨_, rfl⟩
                obtain ⟨y, hyk⟩ : ∃ y, y = ys[ys.length - 1 - j]?.getD 0 := ⟨_, rfl⟩
                rw [← hxk] at e1
                rw [← hyk] at e2
                have HXK : Hid (x = xs[xs.length - 1 - j]?.getD 0) := hxk
                have HYK : Hid (y = ys[ys.length - 1 - j]?.getD 0) := hyk
                obtain ⟨kx, hkx⟩ : ∃ kx, kx = xs.length - 1 - j := ⟨_, rfl⟩
                obtain ⟨ky, hky⟩ : ∃ ky, ky = ys.length - 1 - j := ⟨_, rfl⟩
                rw [← hkx] at e1
                rw [← hky] at e2
                have v1 : IntKind.i64.wrap ((xs.length : Int) - 1) = xs.length - 1 := by rw [IntKind.wrap_i64]; omega
                have v2 : IntKind.i64.wrap ((xs.length : Int) - 1 - j) = kx := by rw [IntKind.wrap_i64]; omega
                have v3 : IntKind.i64.wrap ((ys.length : Int) - 1) = ys.length - 1 := by rw [IntKind.wrap_i64]; omega
                have v4 : IntKind.i64.wrap ((ys.length : Int) - 1 - j) = ky := by rw [IntKind.wrap_i64]; omega
                have i3 : (kx : Int) < (xs.length : Int) := by omega
                have i4 : (ky : Int) < (ys.length : Int) := by omega
                clear hkx hky g1 g2 hxk hyk
                by_cases hxy : x = y
                · have e3 : (x == y) = true := by simpa using hxy
                  have HXY : Hid (x = y) := hxy
                  clear hxy
                  go_wp2
                  go_quiet (fail)
                  go_wp2
                  go_roundw
                  case rel => exact ⟨j + 1, by omega, by omega, by go_num, fun i hi => by
                    by_cases e : i = j
                    · rw [e, ← HXK.out, ← HYK.out]; exact HXY.out
                    · exact HS.out i (by omega), _, rfl⟩
                  case measure => simp [intOf]; omega
                · have e3 : (x == y) = false := by simpa using hxy
                  have HK : Hid (s0 = j) := hs0.out.uniq (lcs_drop (by omega) (by omega) (by have := HMX.out; omega) (by have := HMY.out; omega) HS.out (fun _ _ => by rw [← HXK.out, ← HYK.out]; exact hxy))
                  have HE : Hid ((my : Int) - j + 32 = (ys.length : Int) - p0 - s0 + 32) := by have a := HK.out; have b := HMY.out; exact (by omega : (my : Int) - j + 32 = (ys.length : Int) - p0 - s0 + 32)
                  clear hxy
                  go_wp2
                  go_quiet (fail)
                  go_wp2
                  go_ret
                  exact ⟨by rw [← HE.out]; exact rfl, by first | exact ⟨_, rfl⟩ | exact drew_two _ _ _⟩
              · have d2 : decide ((j : Int) < my) = false := by simp; omega
                have HK : Hid (s0 = j) := hs0.out.uniq (lcs_drop (by omega) (by omega) (by have := HMX.out; omega) (by have := HMY.out; omega) HS.out (fun _ h => by have := HMY.out; omega))
                have HE : Hid ((my : Int) - j + 32 = (ys.length : Int) - p0 - s0 + 32) := by have a := HK.out; have b := HMY.out; exact (by omega : (my : Int) - j + 32 = (ys.length : Int) - p0 - s0 + 32)
                go_wp2
                go_quiet (fail)
                go_wp2
                go_ret
                exact ⟨by rw [← HE.out]; exact rfl, by first | exact ⟨_, rfl⟩ | exact drew_two _ _ _⟩
            · have d1 : decide ((j : Int) < mx) = false := by simp; omega
              have HK : Hid (s0 = j) := hs0.out.uniq (lcs_drop (by omega) (by omega) (by have := HMX.out; omega) (by have := HMY.out; omega) HS.out (fun h _ => by have := HMX.out; omega))
              have HE : Hid ((my : Int) - j + 32 = (ys.length : Int) - p0 - s0 + 32) := by have a := HK.out; have b := HMY.out; exact (by omega : (my : Int) - j + 32 = (ys.length : Int) - p0 - s0 + 32)
              go_wp2
              go_quiet (fail)
              go_wp2
              go_ret
              exact ⟨by rw [← HE.out]; exact rfl, by first | exact ⟨_, rfl⟩ | exact drew_two _ _ _⟩
      · have t2 : decide ((k : Int) < ys.length) = false := by simp; omega
        have HK : Hid (p0 = k) := hp0.out.uniq ⟨by omega, by omega, HS.out, fun _ h => absurd h hlt2⟩
        go_wp2
        go_quiet (fail)
        obtain rfl := HK.out
        clear HK HS t2
        generalize hmxE : xs.length - p0 = mx
        generalize hmyE : ys.length - p0 = my
        have HMX : Hid (xs.length - p0 = mx) := hmxE
        have HMY : Hid (ys.length - p0 = my) := hmyE
        have r1 : IntKind.i64.wrap ((xs.length : Int) - p0) = mx := by rw [IntKind.wrap_i64]; omega
        have r2 : IntKind.i64.wrap ((ys.length : Int) - p0) = my := by rw [IntKind.wrap_i64]; omega
        have q1 : mx ≤ xs.length := by omega
        have q2 : my ≤ ys.length := by omega
        clear hmxE hmyE
        go_wp2
        go_loopw [6] (fun s6 wr => ∃ k : Nat, k ≤ mx ∧ k ≤ my ∧ s6 = .int .i64 k ∧ Hid (∀ i, i < k → xs[xs.length - 1 - i]?.getD 0 = ys[ys.length - 1 - i]?.getD 0) ∧ ∃ n, wr = w.drewN n) (fun s6 _ => mx - (intOf s6).toNat)
        case atStart => exact ⟨0, Nat.zero_le _, Nat.zero_le _, rfl, fun i hi => absurd hi (by omega), by first | exact ⟨_, rfl⟩ | exact drew_two _ _ _⟩
        case round =>
          obtain ⟨j, hj1, hj2, rfl, HS, n2, rfl⟩ := hrel
          have u2 : IntKind.i64.wrap ((my : Int) - j) = my - j := by rw [IntKind.wrap_i64]; omega
          have u3 : IntKind.i64.wrap ((my : Int) - j + 32) = my - j + 32 := by rw [IntKind.wrap_i64]; omega
          by_cases hlx : j < mx
          · have d1 : decide ((j : Int) < mx) = true := by simp; omega
            by_cases hly : j < my
            · have d2 : decide ((j : Int) < my) = true := by simp; omega
              obtain ⟨b3, o3, hb3, g1⟩ := HX.out (by omega)
              obtain ⟨b4, o4, hb4, g2⟩ := HY.out (by omega)
              try cases hb3
              try cases hb4
              have e1 := g1 (xs.length - 1 - j) (by omega)
              have e2 := g2 (ys.length - 1 - j) (by omega)
              obtain ⟨x, hxk⟩ : ∃ x, x = xs[xs.length - 1 - j]?.getD 0 := ⟨_, rfl⟩
              obtain ⟨y, hyk⟩ : ∃ y, y = ys[ys.length - 1 - j]?.getD 0 := ⟨_, rfl⟩
              rw [← hxk] at e1
              rw [← hyk] at e2
              have HXK : Hid (x = xs[xs.length - 1 - j]?.getD 0) := hxk
              have HYK : Hid (y = ys[ys.length - 1 - j]?.getD 0) := hyk
              obtain ⟨kx, hkx⟩ : ∃ kx, kx = xs.length - 1 - j := ⟨_, rfl⟩
              obtain ⟨ky, hky⟩ : ∃ ky, ky = ys.length - 1 - j := ⟨_, rfl⟩
              rw [← hkx] at e1
              rw [← hky] at e2
              have v1 : IntKind.i64.wrap ((xs.length : Int) - 1) = xs.length - 1 := by rw [IntKind.wrap_i64]; omega
              have v2 : IntKind.i64.wrap ((xs.length : Int) - 1 - j) = kx := by rw [IntKind.wrap_i64]; omega
              have v3 : IntKind.i64.wrap ((ys.length : Int) - 1) = ys.length - 1 := by rw [IntKind.wrap_i64]; omega
              have v4 : IntKind.i64.wrap ((ys.length : Int) - 1 - j) = ky := by rw [IntKind.wrap_i64]; omega
              have i3 : (kx : Int) < (xs.length : Int) := by omega
              have i4 : (ky : Int) < (ys.length : Int) := by omega
              clear hkx hky g1 g2 hxk hyk
              by_cases hxy : x = y
              · have e3 : (x == y) = true := by simpa using hxy
                have HXY : Hid (x = y) := hxy
                clear hxy
                go_wp2
                go_quiet (fail)
                go_wp2
                go_roundw
                case rel => exact ⟨j + 1, by omega, by omega, by go_num, fun i hi => by
                  by_cases e : i = j
                  · rw [e, ← HXK.out, ← HYK.out]; exact HXY.out
                  · exact HS.out i (by omega), _, rfl⟩
                case measure => simp [intOf]; omega
              · have e3 : (x == y) = false := by simpa using hxy
                have HK : Hid (s0 = j) := hs0.out.uniq (lcs_drop (by omega) (by omega) (by have := HMX.out; omega) (by have := HMY.out; omega) HS.out (fun _ _ => by rw [← HXK.out, ← HYK.out]; exact hxy))
                have HE : Hid ((my : Int) - j + 32 = (ys.length : Int) - p0 - s0 + 32) := by have a := HK.out; have b := HMY.out; exact (by omega : (my : Int) - j + 32 = (ys.length : Int) - p0 - s0 + 32)
                clear hxy
                go_wp2
                go_quiet (fail)
                go_wp2
                go_ret
                exact ⟨by rw [← HE.out]; exact rfl, by first | exact ⟨_, rfl⟩ | exact drew_two _ _ _⟩
            · have d2 : decide ((j : Int) < my) = false := by simp; omega
              have HK : Hid (s0 = j) := hs0.out.uniq (lcs_drop (by omega) (by omega) (by have := HMX.out; omega) (by have := HMY.out; omega) HS.out (fun _ h => by have := HMY.out; omega))
              have HE : Hid ((my : Int) - j + 32 = (ys.length : Int) - p0 - s0 + 32) := by have a := HK.out; have b := HMY.out; exact (by omega : (my : Int) - j + 32 = (ys.length : Int) - p0 - s0 + 32)
              go_wp2
              go_quiet (fail)
              go_wp2
              go_ret
              exact ⟨by rw [← HE.out]; exact rfl, by first | exact ⟨_, rfl⟩ | exact drew_two _ _ _⟩
          · have d1 : decide ((j : Int) < mx) = false := by simp; omega
            have HK : Hid (s0 = j) := hs0.out.uniq (lcs_drop (by omega) (by omega) (by have := HMX.out; omega) (by have := HMY.out; omega) HS.out (fun h _ => by have := HMX.out; omega))
            have HE : Hid ((my : Int) - j + 32 = (ys.length : Int) - p0 - s0 + 32) := by have a := HK.out; have b := HMY.out; exact (by omega : (my : Int) - j + 32 = (ys.length : Int) - p0 - s0 + 32)
            go_wp2
            go_quiet (fail)
            go_wp2
            go_ret
            exact ⟨by rw [← HE.out]; exact rfl, by first | exact ⟨_, rfl⟩ | exact drew_two _ _ _⟩
    · have t1 : decide ((k : Int) < xs.length) = false := by simp; omega
      have HK : Hid (p0 = k) := hp0.out.uniq ⟨by omega, by omega, HS.out, fun h _ => absurd h hlt⟩
      go_wp2
      go_quiet (fail)
      obtain rfl := HK.out
      clear HK HS
      generalize hmxE : xs.length - p0 = mx
      generalize hmyE : ys.length - p0 = my
      have HMX : Hid (xs.length - p0 = mx) := hmxE
      have HMY : Hid (ys.length - p0 = my) := hmyE
      have r1 : IntKind.i64.wrap ((xs.length : Int) - p0) = mx := by rw [IntKind.wrap_i64]; omega
      have r2 : IntKind.i64.wrap ((ys.length : Int) - p0) = my := by rw [IntKind.wrap_i64]; omega
      have q1 : mx ≤ xs.length := by omega
      have q2 : my ≤ ys.length := by omega
      clear hmxE hmyE
      go_wp2
      go_loopw [6] (fun s6 wr => ∃ k : Nat, k ≤ mx ∧ k ≤ my ∧ s6 = .int .i64 k ∧ Hid (∀ i, i < k → xs[xs.length - 1 - i]?.getD 0 = ys[ys.length - 1 - i]?.getD 0) ∧ ∃ n, wr = w.drewN n) (fun s6 _ => mx - (intOf s6).toNat)
      case atStart => exact ⟨0, Nat.zero_le _, Nat.zero_le _, rfl, fun i hi => absurd hi (by omega), by first | exact ⟨_, rfl⟩ | exact drew_two _ _ _⟩
      case round =>
        obtain ⟨j, hj1, hj2, rfl, HS, n2, rfl⟩ := hrel
        have u2 : IntKind.i64.wrap ((my : Int) - j) = my - j := by rw [IntKind.wrap_i64]; omega
        have u3 : IntKind.i64.wrap ((my : Int) - j + 32) = my - j + 32 := by rw [IntKind.wrap_i64]; omega
        by_cases hlx : j < mx
        · have d1 : decide ((j : Int) < mx) = true := by simp; omega
          by_cases hly : j < my
          · have d2 : decide ((j : Int) < my) = true := by simp; omega
            obtain ⟨b3, o3, hb3, g1⟩ := HX.out (by omega)
            obtain ⟨b4, o4, hb4, g2⟩ := HY.out (by omega)
            try cases hb3
            try cases hb4
            have e1 := g1 (xs.length - 1 - j) (by omega)
            have e2 := g2 (ys.length - 1 - j) (by omega)
            obtain ⟨x, hxk⟩ : ∃ x, x = xs[xs.length - 1 - j]?.getD 0 := ⟨_, rfl⟩
            obtain ⟨y, hyk⟩ : ∃ y, y = ys[ys.length - 1 - j]?.getD 0 := ⟨_, rfl⟩
            rw [← hxk] at e1
            rw [← hyk] at e2
            have HXK : Hid (x = xs[xs.length - 1 - j]?.getD 0) := hxk
            have HYK : Hid (y = ys[ys.length - 1 - j]?.getD 0) := hyk
            obtain ⟨kx, hkx⟩ : ∃ kx, kx = xs.length - 1 - j := ⟨_, rfl⟩
            obtain ⟨ky, hky⟩ : ∃ ky, ky = ys.length - 1 - j := ⟨_, rfl⟩
            rw [← hkx] at e1
            rw [← hky] at e2
            have v1 : IntKind.i64.wrap ((xs.length : Int) - 1) = xs.length - 1 := by rw [IntKind.wrap_i64]; omega
            have v2 : IntKind.i64.wrap ((xs.length : Int) - 1 - j) = kx := by rw [IntKind.wrap_i64]; omega
            have v3 : IntKind.i64.wrap ((ys.length : Int) - 1) = ys.length - 1 := by rw [IntKind.wrap_i64]; omega
            have v4 : IntKind.i64.wrap ((ys.length : Int) - 1 - j) = ky := by rw [IntKind.wrap_i64]; omega
            have i3 : (kx : Int) < (xs.length : Int) := by omega
            have i4 : (ky : Int) < (ys.length : Int) := by omega
            clear hkx hky g1 g2 hxk hyk
            by_cases hxy : x = y
            · have e3 : (x == y) = true := by simpa using hxy
              have HXY : Hid (x = y) := hxy
              clear hxy
              go_wp2
              go_quiet (fail)
              go_wp2
              go_roundw
              case rel => exact ⟨j + 1, by omega, by omega, by go_num, fun i hi => by
                by_cases e : i = j
                · rw [e, ← HXK.out, ← HYK.out]; exact HXY.out
                · exact HS.out i (by omega), _, rfl⟩
              case measure => simp [intOf]; omega
            · have e3 : (x == y) = false := by simpa using hxy
              have HK : Hid (s0 = j) := hs0.out.uniq (lcs_drop (by omega) (by omega) (by have := HMX.out; omega) (by have := HMY.out; omega) HS.out (fun _ _ => by rw [← HXK.out, ← HYK.out]; exact hxy))
              have HE : Hid ((my : Int) - j + 32 = (ys.length : Int) - p0 - s0 + 32) := by have a := HK.out; have b := HMY.out; exact (by omega : (my : Int) - j + 32 = (ys.length : Int) - p0 - s0 + 32)
              clear hxy
              go_wp2
              go_quiet (fail)
              go_wp2
              go_ret
              exact ⟨by rw [← HE.out]; exact rfl, by first | exact ⟨_, rfl⟩ | exact drew_two _ _ _⟩
          · have d2 : decide ((j : Int) < my) = false := by simp; omega
            have HK : Hid (s0 = j) := hs0.out.uniq (lcs_drop (by omega) (by omega) (by have := HMX.out; omega) (by have := HMY.out; omega) HS.out (fun _ h => by have := HMY.out; omega))
            have HE : Hid ((my : Int) - j + 32 = (ys.length : Int) - p0 - s0 + 32) := by have a := HK.out; have b := HMY.out; exact (by omega : (my : Int) - j + 32 = (ys.length : Int) - p0 - s0 + 32)
            go_wp2
            go_quiet (fail)
            go_wp2
            go_ret
            exact ⟨by rw [← HE.out]; exact rfl, by first | exact ⟨_, rfl⟩ | exact drew_two _ _ _⟩
        · have d1 : decide ((j : Int) < mx) = false := by simp; omega
          have HK : Hid (s0 = j) := hs0.out.uniq (lcs_drop (by omega) (by omega) (by have := HMX.out; omega) (by have := HMY.out; omega) HS.out (fun h _ => by have := HMX.out; omega))
          have HE : Hid ((my : Int) - j + 32 = (ys.length : Int) - p0 - s0 + 32) := by have a := HK.out; have b := HMY.out; exact (by omega : (my : Int) - j + 32 = (ys.length : Int) - p0 - s0 + 32)
          go_wp2
          go_quiet (fail)
          go_wp2
          go_ret
          exact ⟨by rw [← HE.out]; exact rfl, by first | exact ⟨_, rfl⟩ | exact drew_two _ _ _⟩
end Go.Proofs.Ytldhbcppnoldiaa
