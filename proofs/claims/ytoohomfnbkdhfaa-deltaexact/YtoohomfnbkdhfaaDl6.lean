/-
  WALK: the document's own: satchelref7.one.
-/
import Derived.Test.YtoohomfnbkdhfaaDl5
namespace Go.Proofs.Ytoohomfnbkdhfaa
open Go.RowKit

/-- A piece: new bytes, or a part of the base; what it gives. -/
def PieceIs (w : World) (bs : List Int) (vn : Value) (frm long : Int) (text : List Int) : Prop :=
  ∃ ts, BytesAt w vn ts ∧ ((frm = -1 ∧ long = 0 ∧ text = ts) ∨ (ts = [] ∧ ∃ st n : Nat, frm = st ∧ long = n ∧ st + n ≤ bs.length ∧ text = (bs.drop st).take n))

structure OneTo (w w' : World) (b : Nat) (ao : Option Addr) (cap : Nat) (bs ds : List Int) (c : Cmd) (vn : Value) (frm long : Int) : Prop where
  eye : c.err = 0 → EyeG w' b ao cap ds c.pl 0
  piece : c.err = 0 → PieceIs w' bs vn frm long c.text ∧ (∀ k, blkOf vn = some k → w.heap.size ≤ k)
  kept : Kept [b] w w'

theorem Kept.three {S : List Nat} {w w1 : World} {k : Nat} (h : Kept S w w1) (hk : w.heap.size ≤ k) (a b c : Value) : Kept S w (((w1.setCell ⟨k, 0, none⟩ a).setCell ⟨k, 1, none⟩ b).setCell ⟨k, 2, none⟩ c) :=
  ((h.setCell (Or.inr hk) a).setCell (Or.inr hk) b).setCell (Or.inr hk) c

set_option maxRecDepth 100000 in
set_option maxHeartbeats 4000000 in
theorem one_any {w : World} {b : Nat} {ao : Option Addr} {cap : Nat} {ds : List Int} {pl : Nat} (R : EyeG w b ao cap ds pl 0) (bs : List Int) (hbl : bs.length ≤ 65536) (room : Nat) (hroom : room ≤ 65536) (c : Cmd) (hc : Hid (c = cmdL bs ds pl room)) :
    Calls Try.prog 62 #[.pointer (some ⟨b, 0, none⟩), .int .i64 bs.length, .int .i64 room] w fun e w' =>
      ∃ an nn cn, ∃ (frm long : Int), e = .returned (.tuple #[.agg #[.slice an nn cn, .int .i64 frm, .int .i64 long], .int .i64 c.err]) ∧ OneTo w w' b ao cap bs ds c (.slice an nn cn) frm long := by
  obtain ⟨y, hy⟩ : ∃ y, Hid (y = takeL ds pl 0 1 0 topV) := ⟨_, rfl⟩
  obtain ⟨z, hz⟩ : ∃ z, Hid (z = cmd2 ds pl) := ⟨_, rfl⟩
  have hce : Hid (c = cmdOf y z bs room) := by
    have e : cmdL bs ds pl room = cmdOf y z bs room := by
      unfold cmdL cmd1
      rw [← hy.out, ← hz.out]
    exact hc.out.trans e
  have hz2 : Hid (z = if y.n % 2 = 0 then takeL ds y.pl y.f 3 (y.n / 2) 0 else takeL ds y.pl y.f 1 0 topV) := by
    have e : cmd2 ds pl = if y.n % 2 = 0 then takeL ds y.pl y.f 3 (y.n / 2) 0 else takeL ds y.pl y.f 1 0 topV := by
      unfold cmd2 cmd1
      rw [← hy.out]
    exact hz.out.trans e
  have hod := R.oct
  have hf : y.f ≤ 4 := by rw [hy.out]; exact take_f ds hod _ _ _ _ _ (by decide) (by decide) (by decide)
  have hyb : 0 ≤ y.n ∧ y.n ≤ 18446744073709551615 := by rw [hy.out]; exact var_le ds hod _ _ topV (by decide)
  have hbw : b < w.heap.size := lt_of_block R.blk
  have HBK : Hid (ds ≠ [] → ∀ k, blkOf (.slice ao ds.length cap) = some k → k < w.heap.size) := fun hne => R.row.lt hne
  have hcall := EVar_any (R.kept0 ((Kept.refl [] w).alloc (.cells #[.slice none 0 0, .int .i64 0, .int .i64 0] 102))) 18446744073709551615 y hy
  clear R hy hz hc
  have hq : Int.tdiv y.n 2 = y.n / 2 := Int.tdiv_eq_ediv_of_nonneg hyb.1
  have hm : Int.tmod y.n 2 = y.n % 2 := Int.tmod_eq_emod_of_nonneg hyb.1
  have hw0 : IntKind.u64.wrap (room : Int) = room := by rw [IntKind.wrap_u64]; omega
  have hwb : IntKind.u64.wrap (bs.length : Int) = bs.length := by rw [IntKind.wrap_u64]; omega
  go_enter Try.func62, Try.ntmps62
  go_wp2_with fail
  go_at_call 44
  refine hcall.mono ?_
  rintro e w1 ⟨rfl, R1, k1⟩
  have blk1 := k1.heap (heap_alloc_new w (.cells #[.slice none 0 0, .int .i64 0, .int .i64 0] 102)) (by simp; omega)
  obtain ⟨q1, q2, q3⟩ := own_facts blk1
  obtain ⟨d0, d1, d2, d3, d4⟩ := R1.facts
  have HK1 : Hid (Kept [b] w w1) := ((Kept.refl [b] w).alloc _).then k1
  have HBl1 : Hid _ := blk1
  have HR1 : Hid _ := R1
  clear hcall k1 blk1 R1
  by_cases c1 : y.f = 0
  · rw [c1, show errL 0 = 0 from rfl] at d2
    by_cases c2 : y.n < 2
    · have hcf : c = ⟨70, [], 0⟩ := by rw [hce.out]; unfold cmdOf; rw [if_neg (by simpa using c1), if_pos c2]
      subst hcf
      go_wp2
      exact bodyPost_ret (v := .tuple #[.agg #[.slice none 0 0, .int .i64 0, .int .i64 0], .int .i64 70]) (by simp [results, Try.results62, go_sem, q1]) rfl ⟨none, 0, 0, 0, 0, rfl, fun h => absurd h (by decide), fun h => absurd h (by decide), HK1.out.three (Nat.le_refl _) _ _ _⟩
    · by_cases c3 : (room : Int) < y.n / 2
      · have hcf : c = ⟨73, [], 0⟩ := by rw [hce.out]; unfold cmdOf; rw [if_neg (by simpa using c1), if_neg c2, if_pos c3]
        subst hcf
        go_wp2
        exact bodyPost_ret (v := .tuple #[.agg #[.slice none 0 0, .int .i64 0, .int .i64 0], .int .i64 73]) (by simp [results, Try.results62, go_sem, q1]) rfl ⟨none, 0, 0, 0, 0, rfl, fun h => absurd h (by decide), fun h => absurd h (by decide), HK1.out.three (Nat.le_refl _) _ _ _⟩
      · obtain ⟨m, hmn⟩ : ∃ m : Nat, y.n / 2 = m := ⟨(y.n / 2).toNat, by omega⟩
        have hm0 : 0 < m := by omega
        have hm1 : m ≤ 65536 := by omega
        have hw1 : IntKind.i64.wrap (m : Int) = m := by rw [IntKind.wrap_i64]; omega
        have R1' : EyeG w1 b ao cap ds y.pl 0 := c1 ▸ HR1.out
        by_cases c4 : y.n % 2 = 0
        · have e4 : (y.n % 2 == 0) = true := by simpa using c4
          have hcf : Hid (c = if z.f ≠ 0 then ⟨70, [], 0⟩ else ⟨0, z.text, z.pl⟩) := by
            have e : cmdOf y z bs room = if z.f ≠ 0 then ⟨70, [], 0⟩ else ⟨0, z.text, z.pl⟩ := by unfold cmdOf; rw [if_neg (by simpa using c1), if_neg c2, if_neg c3, if_pos c4]
            exact hce.out.trans e
          have hzf : Hid (z = takeL ds y.pl 0 3 (m : Int) 0) := by
            have e := hz2.out
            rw [if_pos c4, hmn, c1] at e
            exact e
          have hzb : z.f ≤ 4 := by rw [hzf.out]; exact take_f ds hod _ _ _ _ _ (by decide) (fun h => absurd h (by decide)) (by decide)
          have hraw := ERaw_any R1' (m : Int) (by omega) (by omega) z hzf
          rw [hmn] at hq c3
          clear hce hz2 HR1 R1' c4 hzf
          go_wp2_with fail
          go_at_call 90
          refine hraw.mono ?_
          rintro e w2 ⟨v, rfl, hv, R2, k2, hvn⟩
          clear q1 q2 q3 d0 d1 d2 d3 d4
          have blk2 := k2.heap HBl1.out (by simp; omega)
          obtain ⟨q1, q2, q3⟩ := own_facts blk2
          obtain ⟨d0, d1, d2, d3, d4⟩ := R2.facts
          have HK2 : Hid (Kept [b] w w2) := HK1.out.then k2
          have HV : Hid (BytesAt w2 v z.text) := hv
          have HN : Hid (∀ k, blkOf v = some k → w.heap.size < k) := fun k hk => by have h1 := hvn k hk; have h2 := lt_of_block HBl1.out; omega
          have HR2 : Hid _ := R2
          have KK : Hid (∀ x1 x2 x3, Kept [w.heap.size] w2 (((w2.setCell ⟨w.heap.size, 0, none⟩ x1).setCell ⟨w.heap.size, 1, none⟩ x2).setCell ⟨w.heap.size, 2, none⟩ x3)) := fun x1 x2 x3 => (((Kept.refl [w.heap.size] w2).setCell (p := ⟨w.heap.size, 0, none⟩) (Or.inl (by simp)) x1).setCell (p := ⟨w.heap.size, 1, none⟩) (Or.inl (by simp)) x2).setCell (p := ⟨w.heap.size, 2, none⟩) (Or.inl (by simp)) x3
          obtain ⟨av, cv, rfl, _⟩ := hv
          clear hraw k2 blk2 R2 hvn HK1 HBl1
          by_cases c5 : z.f = 0
          · rw [c5, show errL 0 = 0 from rfl] at d2
            have HR3 : Hid (EyeG w2 b ao cap ds z.pl 0) := by
              have e := HR2.out
              rw [c5] at e
              exact e
            clear HR2
            have hcg : c = ⟨0, z.text, z.pl⟩ := by rw [hcf.out, if_neg (by simpa using c5)]
            subst hcg
            go_wp2
            exact bodyPost_ret (v := .tuple #[.agg #[.slice av z.text.length cv, .int .i64 (-1), .int .i64 0], .int .i64 0]) (by simp [results, Try.results62, go_sem, q1]) rfl ⟨av, _, cv, -1, 0, rfl, fun _ => HR3.out.kept (KK.out _ _ _) (by simp; omega) (fun hne k hk => by have := HBK.out hne k hk; simp; omega), fun _ => ⟨⟨z.text, HV.out.kept (KK.out _ _ _) (fun k hk => by have := HN.out k hk; simp; omega), Or.inl ⟨rfl, rfl, rfl⟩⟩, fun k hk => Nat.le_of_lt (HN.out k hk)⟩, HK2.out.three (Nat.le_refl _) _ _ _⟩
          · have e1 := err_ne _ hzb c5
            have hcg : c = ⟨70, [], 0⟩ := by rw [hcf.out, if_pos c5]
            subst hcg
            generalize errL z.f = u at *
            go_wp2
            exact bodyPost_ret (v := .tuple #[.agg #[.slice none 0 0, .int .i64 0, .int .i64 0], .int .i64 70]) (by simp [results, Try.results62, go_sem, q1]) rfl ⟨none, 0, 0, 0, 0, rfl, fun h => absurd h (by decide), fun h => absurd h (by decide), HK2.out.three (Nat.le_refl _) _ _ _⟩
        · have e4 : (y.n % 2 == 0) = false := by simpa using c4
          have hcf : Hid (c = if z.f ≠ 0 then ⟨70, [], 0⟩ else if (bs.length : Int) < z.n + m then ⟨72, [], 0⟩ else ⟨0, (bs.drop z.n.toNat).take m, z.pl⟩) := by
            have e : cmdOf y z bs room = if z.f ≠ 0 then ⟨70, [], 0⟩ else if (bs.length : Int) < z.n + m then ⟨72, [], 0⟩ else ⟨0, (bs.drop z.n.toNat).take m, z.pl⟩ := by
              unfold cmdOf; rw [if_neg (by simpa using c1), if_neg c2, if_neg c3, if_neg c4, hmn]; rfl
            exact hce.out.trans e
          have hzf : Hid (z = takeL ds y.pl 0 1 0 topV) := by
            have e := hz2.out
            rw [if_neg c4, c1] at e
            exact e
          have hzb : z.f ≤ 4 := by rw [hzf.out]; exact take_f ds hod _ _ _ _ _ (by decide) (by decide) (by decide)
          have hzn : 0 ≤ z.n ∧ z.n ≤ 18446744073709551615 := by rw [hzf.out]; exact var_le ds hod _ _ topV (by decide)
          have hvar := EVar_any R1' 18446744073709551615 z hzf
          rw [hmn] at hq c3
          clear hce hz2 HR1 R1' c4 hzf
          go_wp2_with fail
          go_at_call 44
          refine hvar.mono ?_
          rintro e w2 ⟨rfl, R2, k2⟩
          clear q1 q2 q3 d0 d1 d2 d3 d4
          have blk2 := k2.heap HBl1.out (by simp; omega)
          obtain ⟨q1, q2, q3⟩ := own_facts blk2
          obtain ⟨d0, d1, d2, d3, d4⟩ := R2.facts
          have HK2 : Hid (Kept [b] w w2) := HK1.out.then k2
          have HR2 : Hid _ := R2
          have KK : Hid (∀ x1 x2 x3, Kept [w.heap.size] w2 (((w2.setCell ⟨w.heap.size, 0, none⟩ x1).setCell ⟨w.heap.size, 1, none⟩ x2).setCell ⟨w.heap.size, 2, none⟩ x3)) := fun x1 x2 x3 => (((Kept.refl [w.heap.size] w2).setCell (p := ⟨w.heap.size, 0, none⟩) (Or.inl (by simp)) x1).setCell (p := ⟨w.heap.size, 1, none⟩) (Or.inl (by simp)) x2).setCell (p := ⟨w.heap.size, 2, none⟩) (Or.inl (by simp)) x3
          clear hvar k2 blk2 R2 HK1 HBl1
          by_cases c5 : z.f = 0
          · rw [c5, show errL 0 = 0 from rfl] at d2
            have HR3 : Hid (EyeG w2 b ao cap ds z.pl 0) := by
              have e := HR2.out
              rw [c5] at e
              exact e
            clear HR2
            by_cases c6 : (bs.length : Int) < z.n
            · have hcg : c = ⟨72, [], 0⟩ := by rw [hcf.out, if_neg (by simpa using c5), if_pos (by omega)]
              subst hcg
              obtain ⟨x, hx⟩ : ∃ x, IntKind.u64.wrap (z.n + (m : Int)) = x := ⟨_, rfl⟩
              go_wp2
              exact bodyPost_ret (v := .tuple #[.agg #[.slice none 0 0, .int .i64 0, .int .i64 0], .int .i64 72]) (by simp [results, Try.results62, go_sem, q1]) rfl ⟨none, 0, 0, 0, 0, rfl, fun h => absurd h (by decide), fun h => absurd h (by decide), HK2.out.three (Nat.le_refl _) _ _ _⟩
            · obtain ⟨s, hs⟩ : ∃ s : Nat, z.n = s := ⟨z.n.toNat, by omega⟩
              rw [hs] at c6 hzn ⊢
              have hw2 : IntKind.u64.wrap ((s : Int) + m) = s + m := by rw [IntKind.wrap_u64]; omega
              have hw3 : IntKind.i64.wrap (s : Int) = s := by rw [IntKind.wrap_i64]; omega
              by_cases c7 : (bs.length : Int) < s + m
              · have hcg : c = ⟨72, [], 0⟩ := by rw [hcf.out, if_neg (by simpa using c5), if_pos (by omega)]
                subst hcg
                go_wp2
                exact bodyPost_ret (v := .tuple #[.agg #[.slice none 0 0, .int .i64 0, .int .i64 0], .int .i64 72]) (by simp [results, Try.results62, go_sem, q1]) rfl ⟨none, 0, 0, 0, 0, rfl, fun h => absurd h (by decide), fun h => absurd h (by decide), HK2.out.three (Nat.le_refl _) _ _ _⟩
              · have hcg : c = ⟨0, (bs.drop s).take m, z.pl⟩ := by rw [hcf.out, if_neg (by simpa using c5), if_neg (by omega), hs]; rfl
                subst hcg
                go_wp2
                exact bodyPost_ret (v := .tuple #[.agg #[.slice none 0 0, .int .i64 s, .int .i64 m], .int .i64 0]) (by simp [results, Try.results62, go_sem, q1]) rfl ⟨none, 0, 0, s, m, rfl, fun _ => HR3.out.kept (KK.out _ _ _) (by simp; omega) (fun hne k hk => by have := HBK.out hne k hk; simp; omega), fun _ => ⟨⟨[], BytesAt.nil _, Or.inr ⟨rfl, s, m, rfl, rfl, by omega, rfl⟩⟩, fun k hk => by simp [blkOf] at hk⟩, HK2.out.three (Nat.le_refl _) _ _ _⟩
          · have e1 := err_ne _ hzb c5
            have hcg : c = ⟨70, [], 0⟩ := by rw [hcf.out, if_pos c5]
            subst hcg
            generalize errL z.f = u at *
            go_wp2
            exact bodyPost_ret (v := .tuple #[.agg #[.slice none 0 0, .int .i64 0, .int .i64 0], .int .i64 70]) (by simp [results, Try.results62, go_sem, q1]) rfl ⟨none, 0, 0, 0, 0, rfl, fun h => absurd h (by decide), fun h => absurd h (by decide), HK2.out.three (Nat.le_refl _) _ _ _⟩
  · have e1 := err_ne _ hf c1
    have hcf : c = ⟨70, [], 0⟩ := by rw [hce.out]; unfold cmdOf; rw [if_pos c1]
    subst hcf
    generalize errL y.f = u at *
    go_wp2
    exact bodyPost_ret (v := .tuple #[.agg #[.slice none 0 0, .int .i64 0, .int .i64 0], .int .i64 70]) (by simp [results, Try.results62, go_sem, q1]) rfl ⟨none, 0, 0, 0, 0, rfl, fun h => absurd h (by decide), fun h => absurd h (by decide), HK1.out.three (Nat.le_refl _) _ _ _⟩
end Go.Proofs.Ytoohomfnbkdhfaa
