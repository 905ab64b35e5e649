/-
  The document's own Reader over any slice: its call Raw.
-/
import Derived.Test.YtmambfdfkobjgaaOpenB
import Derived.Deep.CutRange
namespace Go.Proofs.Ytmambfdfkobjgaa
open Go.RowKit

set_option maxRecDepth 100000 in
set_option maxHeartbeats 4000000 in
theorem ERaw_mid {w : World} {b cap : Nat} {ao : Option Addr} {xs : List Int} {pl : Nat} (R : EyeG w b ao cap xs pl 0) (n : Nat) (hn : pl + n ≤ xs.length) (hn0 : 0 < n) :
    Calls Try.prog 14 #[.pointer (some ⟨b, 0, none⟩), .int .i64 n] w fun e w' =>
      ∃ q, e = .returned (.slice (some ⟨q, 0, none⟩) n n) ∧ w'.heap[q]? = some (.cells ((((xs.drop pl).take n).map (Value.int .u8)).toArray) 5 (0, 0)) ∧ w.heap.size ≤ q ∧ EyeG w' b ao cap xs (pl + n) 0 ∧ Kept [b] w w' := by
  obtain ⟨d0, d1, d2, d3, d4⟩ := R.facts
  have hleft0 := ELeft_any R
  have hsm := R.small
  obtain ⟨hcap, g, off, rfl, hrow⟩ := R.some (by omega)
  have he : ¬ cap = pl := by omega
  have e0 : errL 0 = 0 := rfl
  rw [e0] at d2
  have hz : ((0 : Int) != 0) = false := rfl
  have hn1 : ((xs.length : Int) - pl < n) = False := by simp; omega
  have hseg : BytesAt w (.slice (some ⟨g, off + pl, none⟩) n (cap - pl)) ((xs.drop pl).take n) := R.row.sub pl n _ hn (by omega)
  have hl : ((xs.drop pl).take n).length = n := by simp; omega
  have hcopy := fun k => Copy_any _ ((xs.drop pl).take n) (w.drewN k) (hseg.drewN k) (by rw [hl]; omega)
  have HR : Hid (EyeG w b (some ⟨g, off, none⟩) cap xs pl 0) := R
  clear R hseg hrow
  have hwr : IntKind.i64.wrap ((pl : Int) + n) = pl + n := by rw [IntKind.wrap_i64]; omega
  have q1 : (pl : Int) ≤ pl + n := by omega
  have q2 : (pl : Int) + n ≤ xs.length := by omega
  have q3 : (0 : Int) ≤ pl := by omega
  go_enter Try.func14, Try.ntmps14
  go_upto_region 9 with (go_at_call 40; refine hleft0.mono ?_; rintro e w1 ⟨rfl, k0, rfl⟩)
  go_cut [5] from 26 to 41 (fun s5 wx => s5 = .slice (some ⟨w.heap.size, 0, none⟩) n n ∧ Hid (wx.heap[w.heap.size]? = some (.cells ((((xs.drop pl).take n).map (Value.int .u8)).toArray) 5 (0, 0))) ∧ Kept [] w wx)
  case first =>
    go_region_with (go_at_call 7; refine (hcopy _).mono ?_; rintro e w2 ⟨rfl, hq, hk⟩; have HQ : Hid _ := hq; clear hq; have hk1 := hk.undrewN)
    all_goals (go_wp2_with fail; go_meet; exact ⟨rfl, HQ, hk1⟩)
  case rest =>
  obtain ⟨rfl, HQ, hk1⟩ := hcut
  have R2 := HR.out.kept0 hk1
  obtain ⟨z0, z1, z2, z3, z4⟩ := R2.facts
  have HR2 : Hid _ := R2
  clear R2 hcopy hleft0
  go_wp2
  go_ret
  refine ⟨w.heap.size, rfl, ?_, Nat.le_refl _, HR2.out.setPlace (pl + n) hn, (hk1.more (by simp)).setCell (Or.inl (by simp)) _⟩
  rw [heap_setCell_other _ _ _ _ (Nat.ne_of_gt d4)]
  exact HQ.out

set_option maxHeartbeats 1000000 in
/-- Raw, for every Eye and number. -/
theorem ERaw_any {w : World} {b cap : Nat} {ao : Option Addr} {xs : List Int} {pl f : Nat} (R : EyeG w b ao cap xs pl f) (n : Int) (hn0 : 1 ≤ n) (hn1 : n ≤ 9223372036854775807) (y : Took) (hy : Hid (y = takeL xs pl f 3 n 0)) :
    Calls Try.prog 14 #[.pointer (some ⟨b, 0, none⟩), .int .i64 n] w fun e w' =>
      ∃ v, e = .returned v ∧ BytesAt w' v y.text ∧ EyeG w' b ao cap xs y.pl y.f ∧ Kept [b] w w' ∧ (∀ k, blkOf v = some k → w.heap.size ≤ k) := by
  rw [hy.out]
  clear hy y
  have hle := R.le
  by_cases hf : f = 0
  · subst hf
    by_cases h1 : (xs.length : Int) - pl < n
    · rw [takeL_short xs pl n (by omega) h1 hle]
      have hleft0 := ELeft_any R
      obtain ⟨d0, d1, d2, d3, d4⟩ := R.facts
      rw [show errL 0 = 0 from rfl] at d2
      have HR : Hid (EyeG w b ao cap xs pl 0) := R
      clear R
      go_enter Try.func14, Try.ntmps14
      go_wp2_with (go_at_call 40; refine hleft0.mono ?_; rintro e w1 ⟨rfl, k0, rfl⟩)
      go_ret
      exact ⟨_, rfl, BytesAt.nil _, (HR.out.drewN k0).setBad 1 (by decide), ((Kept.refl _ _).drewN k0).setCell (Or.inl (by simp)) _, fun k hk => by simp [blkOf] at hk⟩
    · obtain ⟨m, rfl⟩ := Int.eq_ofNat_of_zero_le (show 0 ≤ n by omega)
      rw [takeL_raw xs pl m (by omega) (by omega)]
      refine (ERaw_mid R m (by omega) (by omega)).mono ?_
      rintro e w' ⟨q, rfl, hq, hq0, hr, hk⟩
      refine ⟨_, rfl, ?_, hr, hk, fun k hk => by simp [blkOf] at hk; omega⟩
      have hl : ((xs.drop pl).take m).length = m := by simp; omega
      have := BytesAt.row (ys := (xs.drop pl).take m) (zs := []) (by rw [List.append_nil]; exact hq) m (by omega)
      rw [hl] at this
      exact this
  · rw [takeL_bad _ _ _ _ _ _ hf]
    obtain ⟨d0, d1, d2, d3, d4⟩ := R.facts
    have hz : (errL f != 0) = true := by simpa using errL_ne f R.bad hf
    have HR : Hid (EyeG w b ao cap xs pl f) := R
    clear R
    generalize errL f = z at *
    go_enter Try.func14, Try.ntmps14
    go_wp2
    go_ret
    exact ⟨_, rfl, BytesAt.nil _, HR.out, Kept.refl _ _, fun k hk => by simp [blkOf] at hk⟩
end Go.Proofs.Ytmambfdfkobjgaa
