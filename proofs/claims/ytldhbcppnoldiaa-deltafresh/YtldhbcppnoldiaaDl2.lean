/-
  WALKS: delta.fresh, shared, command.
-/
import Derived.Test.YtldhbcppnoldiaaDl1
import Derived.Test.YtldhbcppnoldiaaEyP
namespace Go.Proofs.Ytldhbcppnoldiaa
open Go.RowKit

structure CmdTo (w w' : World) (r g : Nat) (ds : List Int) (c : Cmd) (v : Value) : Prop where
  rd : c.err = 0 → Rdr w' r g ds c.pl 0
  text : BytesAt w' v c.text
  kept : Kept [r] w w'

theorem raw_row {w : World} {q : Nat} {ys : List Int} (h : w.heap[q]? = some (.cells (ys.map (Value.int .u8)).toArray 5 (0, 0))) : BytesAt w (.slice (some ⟨q, 0, none⟩) ys.length ys.length) ys :=
  BytesAt.row (ys := ys) (zs := []) (by rw [List.append_nil]; exact h) _ (Nat.le_refl _)

set_option maxRecDepth 100000 in
set_option maxHeartbeats 2000000 in
/-- New bytes. -/
theorem fresh_any {w : World} {r g : Nat} {ds : List Int} {pl : Nat} (R : Rdr w r g ds pl 0) (n : Int) (hn : n ≤ 9223372036854775807) (z : Took) (hz : Hid (z = takeL ds pl 0 3 n 0)) (c : Cmd) (hc : Hid (c = if z.f ≠ 0 then ⟨70, [], 0⟩ else ⟨0, z.text, z.pl⟩)) :
    Calls Try.prog 93 #[.pointer (some ⟨r, 0, none⟩), .int .i64 n] w fun e w' => ∃ v, e = .returned (.tuple #[v, .int .i64 c.err]) ∧ CmdTo w w' r g ds c v := by
  have hcall := Raw_any R n hn z hz
  have hf : z.f ≤ 4 := by rw [hz.out]; exact take_f ds R.oct _ _ _ _ _ (by decide) (fun h => absurd h (by decide)) (by decide)
  clear R hz
  go_enter Try.func93, Try.ntmps93
  go_wp2_with fail
  go_at_call 13
  refine hcall.mono ?_
  rintro e w1 ⟨q, rfl, hq, hq0, R1, k1⟩
  have hF := Fault_any R1 hf
  have HB : Hid (BytesAt w1 (.slice (some ⟨q, 0, none⟩) z.text.length z.text.length) z.text) := raw_row hq
  have HR1 : Hid _ := R1
  have HK1 : Hid _ := k1
  clear hcall hq R1 k1
  go_wp2_with fail
  go_at_call 92
  refine hF.mono ?_
  rintro e w2 ⟨rfl, hw2⟩
  subst w2
  clear hF
  by_cases c1 : z.f = 0
  · have hce : c = ⟨0, z.text, z.pl⟩ := by rw [hc.out, if_neg (by simpa using c1)]
    subst hce
    rw [c1, show errL 0 = 0 from rfl]
    go_wp2
    go_ret2
    exact ⟨_, rfl, fun _ => c1 ▸ HR1.out, HB.out, HK1.out⟩
  · have e1 := err_ne _ hf c1
    have hce : c = ⟨70, [], 0⟩ := by rw [hc.out, if_pos c1]
    subst hce
    generalize errL z.f = y at *
    go_wp2
    go_ret2
    exact ⟨_, rfl, fun h => absurd h (by decide), BytesAt.nil _, HK1.out⟩

set_option maxRecDepth 100000 in
set_option maxHeartbeats 2000000 in
/-- A piece of the base. -/
theorem shared_any {w : World} {r g : Nat} {ds : List Int} {pl : Nat} (R : Rdr w r g ds pl 0) {ao : Option Addr} {cap : Nat} {bs : List Int} (hb : BytesAt w (.slice ao bs.length cap) bs) (hne : bs ≠ [] → ∀ k, blkOf (.slice ao bs.length cap) = some k → k ≠ r) (hbl : bs.length ≤ 65536)
    (n : Nat) (hn0 : 0 < n) (hn : n ≤ 65536) (z : Took) (hz : Hid (z = takeL ds pl 0 1 0 topV)) (c : Cmd) (hc : Hid (c = if z.f ≠ 0 then ⟨70, [], 0⟩ else if (bs.length : Int) < z.n + n then ⟨72, [], 0⟩ else ⟨0, (bs.drop z.n.toNat).take n, z.pl⟩)) :
    Calls Try.prog 94 #[.pointer (some ⟨r, 0, none⟩), .slice ao bs.length cap, .int .i64 n] w fun e w' => ∃ v, e = .returned (.tuple #[v, .int .i64 c.err]) ∧ CmdTo w w' r g ds c v := by
  have hcall := Var_any R 18446744073709551615 (by decide) z hz
  have hf : z.f ≤ 4 := by rw [hz.out]; exact take_f ds R.oct _ _ _ _ _ (by decide) (by decide) (by decide)
  have hzb : 0 ≤ z.n ∧ z.n ≤ 18446744073709551615 := by rw [hz.out]; exact var_le ds R.oct _ _ topV (by decide)
  clear R hz
  go_enter Try.func94, Try.ntmps94
  go_wp2_with fail
  go_at_call 91
  refine hcall.mono ?_
  rintro e w1 ⟨rfl, R1, k1⟩
  have hF := Fault_any R1 hf
  have HB : Hid (BytesAt w1 (.slice ao bs.length cap) bs) := hb.kept' k1 (fun h k hk => by simpa using hne h k hk)
  have HR1 : Hid _ := R1
  have HK1 : Hid _ := k1
  clear hcall R1 k1 hb hne
  go_wp2_with fail
  go_at_call 92
  refine hF.mono ?_
  rintro e w2 ⟨rfl, hw2⟩
  subst w2
  clear hF
  by_cases c1 : z.f = 0
  · rw [c1, show errL 0 = 0 from rfl]
    by_cases c2 : (bs.length : Int) < z.n
    · have hce : c = ⟨72, [], 0⟩ := by rw [hc.out, if_neg (by simpa using c1), if_pos (by omega)]
      subst hce
      go_wp2
      go_ret2
      exact ⟨_, rfl, fun h => absurd h (by decide), BytesAt.nil _, HK1.out⟩
    · obtain ⟨m, hm⟩ : ∃ m : Nat, z.n = m := ⟨z.n.toNat, by omega⟩
      rw [hm] at c2 hzb ⊢
      have hw1 : IntKind.i64.wrap (m : Int) = m := by rw [IntKind.wrap_i64]; omega
      have hw2 : IntKind.i64.wrap ((bs.length : Int) - m) = bs.length - m := by rw [IntKind.wrap_i64]; omega
      by_cases c3 : (bs.length : Int) - m < n
      · have hce : c = ⟨72, [], 0⟩ := by rw [hc.out, if_neg (by simpa using c1), if_pos (by omega)]
        subst hce
        go_wp2
        go_ret2
        exact ⟨_, rfl, fun h => absurd h (by decide), BytesAt.nil _, HK1.out⟩
      · have hce : c = ⟨0, (bs.drop m).take n, z.pl⟩ := by rw [hc.out, if_neg (by simpa using c1), if_neg (by omega), hm]; rfl
        subst hce
        obtain ⟨_, _, he, hcap, _, hh⟩ := HB.out
        injection he with e1 e2 e3
        subst e1 e3
        obtain ⟨gb, off, rfl, _⟩ := hh (by rintro rfl; simp at c3; omega)
        have HS : Hid (BytesAt w1 (.slice (some ⟨gb, off + m, none⟩) n (cap - m)) ((bs.drop m).take n)) := HB.out.sub m n _ (by omega) (by omega)
        have hw3 : IntKind.i64.wrap ((m : Int) + n) = m + n := by rw [IntKind.wrap_i64]; omega
        have q0 : ¬ cap = m := by omega
        have q1 : (0 : Int) ≤ m := by omega
        have q2 : (m : Int) ≤ m + n := by omega
        have q3 : (m : Int) + n ≤ cap := by omega
        have htn : ((m : Int) + n).toNat - m = n := by omega
        clear hh
        go_wp2
        go_ret2
        exact ⟨_, rfl, fun _ => c1 ▸ HR1.out, HS.out, HK1.out⟩
  · have e1 := err_ne _ hf c1
    have hce : c = ⟨70, [], 0⟩ := by rw [hc.out, if_pos c1]
    subst hce
    generalize errL z.f = y at *
    go_wp2
    go_ret2
    exact ⟨_, rfl, fun h => absurd h (by decide), BytesAt.nil _, HK1.out⟩

set_option maxRecDepth 100000 in
set_option maxHeartbeats 2000000 in
/-- A command, for every Reader, base and room. -/
theorem command_any {w : World} {r g : Nat} {ds : List Int} {pl : Nat} (R : Rdr w r g ds pl 0) {ao : Option Addr} {cap : Nat} {bs : List Int} (hb : BytesAt w (.slice ao bs.length cap) bs) (hne : bs ≠ [] → ∀ k, blkOf (.slice ao bs.length cap) = some k → k ≠ r) (hbl : bs.length ≤ 65536)
    (room : Nat) (hroom : room ≤ 65536) (c : Cmd) (hc : Hid (c = cmdL bs ds pl room)) :
    Calls Try.prog 57 #[.pointer (some ⟨r, 0, none⟩), .slice ao bs.length cap, .int .i64 room] w fun e w' => ∃ v, e = .returned (.tuple #[v, .int .i64 c.err]) ∧ CmdTo w w' r g ds c v := by
  obtain ⟨y, hy⟩ : ∃ y, Hid (y = takeL ds pl 0 1 0 topV) := ⟨_, rfl⟩
  obtain ⟨z, hz⟩ : ∃ z, Hid (z = cmd2 ds pl) := ⟨_, rfl⟩
  have hce : Hid (c = cmdOf y z bs room) := by
    have e : cmdL bs ds pl room = cmdOf y z bs room := by
      unfold cmdL cmd1
      rw [← hy.out, ← hz.out]
    exact hc.out.trans e
  have hz2 : Hid (z = if y.n % 2 = 0 then takeL ds y.pl y.f 3 (y.n / 2) 0 else takeL ds y.pl y.f 1 0 topV) := by
    have e : cmd2 ds pl = if y.n % 2 = 0 then takeL ds y.pl y.f 3 (y.n / 2) 0 else takeL ds y.pl y.f 1 0 topV := by
      unfold cmd2 cmd1
      rw [← hy.out]
    exact hz.out.trans e
  have hcall := Var_any R 18446744073709551615 (by decide) y hy
  have hf : y.f ≤ 4 := by rw [hy.out]; exact take_f ds R.oct _ _ _ _ _ (by decide) (by decide) (by decide)
  have hyb : 0 ≤ y.n ∧ y.n ≤ 18446744073709551615 := by rw [hy.out]; exact var_le ds R.oct _ _ topV (by decide)
  clear R hy hz hc
  have hq : Int.tdiv y.n 2 = y.n / 2 := Int.tdiv_eq_ediv_of_nonneg hyb.1
  have hm : Int.tmod y.n 2 = y.n % 2 := Int.tmod_eq_emod_of_nonneg hyb.1
  have hw0 : IntKind.u64.wrap (room : Int) = room := by rw [IntKind.wrap_u64]; omega
  go_enter Try.func57, Try.ntmps57
  go_wp2_with fail
  go_at_call 91
  refine hcall.mono ?_
  rintro e w1 ⟨rfl, R1, k1⟩
  have hF := Fault_any R1 hf
  have HB : Hid (BytesAt w1 (.slice ao bs.length cap) bs) := hb.kept' k1 (fun h k hk => by simpa using hne h k hk)
  have HNE : Hid _ := hne
  have HR1 : Hid _ := R1
  have HK1 : Hid _ := k1
  clear hcall R1 k1 hb hne
  go_wp2_with fail
  go_at_call 92
  refine hF.mono ?_
  rintro e w2 ⟨rfl, hw2⟩
  subst w2
  clear hF
  by_cases c1 : y.f = 0
  · rw [c1, show errL 0 = 0 from rfl]
    by_cases c2 : y.n < 2
    · have hcf : c = ⟨70, [], 0⟩ := by rw [hce.out]; unfold cmdOf; rw [if_neg (by simpa using c1), if_pos c2]
      subst hcf
      have e2 : (y.n / 2 == 0) = true := by have : y.n / 2 = 0 := by omega
                                            simpa using this
      go_wp2
      go_ret2
      exact ⟨_, rfl, fun h => absurd h (by decide), BytesAt.nil _, HK1.out⟩
    · have e2 : (y.n / 2 == 0) = false := by have : ¬ y.n / 2 = 0 := by omega
                                             simpa using this
      by_cases c3 : (room : Int) < y.n / 2
      · have hcf : c = ⟨73, [], 0⟩ := by rw [hce.out]; unfold cmdOf; rw [if_neg (by simpa using c1), if_neg c2, if_pos c3]
        subst hcf
        go_wp2
        go_ret2
        exact ⟨_, rfl, fun h => absurd h (by decide), BytesAt.nil _, HK1.out⟩
      · obtain ⟨m, hmn⟩ : ∃ m : Nat, y.n / 2 = m := ⟨(y.n / 2).toNat, by omega⟩
        have hm0 : 0 < m := by omega
        have hm1 : m ≤ 65536 := by omega
        have hw1 : IntKind.i64.wrap (m : Int) = m := by rw [IntKind.wrap_i64]; omega
        by_cases c4 : y.n % 2 = 0
        · have e4 : (y.n % 2 == 0) = true := by simpa using c4
          have hcf : Hid (c = if z.f ≠ 0 then ⟨70, [], 0⟩ else ⟨0, z.text, z.pl⟩) := by
            have e : cmdOf y z bs room = if z.f ≠ 0 then ⟨70, [], 0⟩ else ⟨0, z.text, z.pl⟩ := by unfold cmdOf; rw [if_neg (by simpa using c1), if_neg c2, if_neg c3, if_pos c4]
            exact hce.out.trans e
          have hzf : Hid (z = takeL ds y.pl 0 3 (m : Int) 0) := by
            have e := hz2.out
            rw [if_pos c4, hmn, c1] at e
            exact e
          have hfr := fresh_any (c1 ▸ HR1.out : Rdr w1 r g ds y.pl 0) (m : Int) (by omega) z hzf c hcf
          rw [hmn] at hq c3 e2 ⊢
          clear hce hz2 HB HNE HR1 c4 c2 hmn
          go_wp2_with fail
          go_at_call 93
          refine hfr.mono ?_
          rintro e w3 ⟨v, rfl, t1, t2, t3⟩
          go_wp2
          go_ret2
          exact ⟨_, rfl, t1, t2, HK1.out.then t3⟩
        · have e4 : (y.n % 2 == 0) = false := by simpa using c4
          have hcf : Hid (c = if z.f ≠ 0 then ⟨70, [], 0⟩ else if (bs.length : Int) < z.n + m then ⟨72, [], 0⟩ else ⟨0, (bs.drop z.n.toNat).take m, z.pl⟩) := by
            have e : cmdOf y z bs room = if z.f ≠ 0 then ⟨70, [], 0⟩ else if (bs.length : Int) < z.n + m then ⟨72, [], 0⟩ else ⟨0, (bs.drop z.n.toNat).take m, z.pl⟩ := by
              unfold cmdOf; rw [if_neg (by simpa using c1), if_neg c2, if_neg c3, if_neg c4, hmn]; rfl
            exact hce.out.trans e
          have hzf : Hid (z = takeL ds y.pl 0 1 0 topV) := by
            have e := hz2.out
            rw [if_neg c4, c1] at e
            exact e
          have hsh := shared_any (c1 ▸ HR1.out : Rdr w1 r g ds y.pl 0) HB.out HNE.out hbl m hm0 hm1 z hzf c hcf
          rw [hmn] at hq c3 e2 ⊢
          clear hce hz2 HB HNE HR1 c4 c2 hmn
          go_wp2_with fail
          go_at_call 94
          refine hsh.mono ?_
          rintro e w3 ⟨v, rfl, t1, t2, t3⟩
          go_wp2
          go_ret2
          exact ⟨_, rfl, t1, t2, HK1.out.then t3⟩
  · have e1 := err_ne _ hf c1
    have hcf : c = ⟨70, [], 0⟩ := by rw [hce.out]; unfold cmdOf; rw [if_pos c1]
    subst hcf
    generalize errL y.f = u at *
    go_wp2
    go_ret2
    exact ⟨_, rfl, fun h => absurd h (by decide), BytesAt.nil _, HK1.out⟩
end Go.Proofs.Ytldhbcppnoldiaa
