/-
  WALKS: the document's own: satchelref7.Size and one.
-/
import Derived.Test.YtoohomfnbkdhfaaDl1
import Derived.Test.YtoohomfnbkdhfaaEyG2
namespace Go.Proofs.Ytoohomfnbkdhfaa
open Go.RowKit

theorem BytesAt.lt {w : World} {v : Value} {ys : List Int} (h : BytesAt w v ys) (hne : ys ≠ []) : ∀ k, blkOf v = some k → k < w.heap.size := by
  intro k hk
  obtain ⟨ao, cap, rfl, _, _, hcc⟩ := h
  obtain ⟨b', off', rfl, hh⟩ := hcc hne
  simp [blkOf] at hk
  subst hk
  cases ys with
  | nil => exact absurd rfl hne
  | cons x t => exact World.block_lt_of_cell? w _ (hh 0 x rfl)
/-- A new Eye. -/
theorem EyeG.mk0 {w : World} {ao : Option Addr} {cap : Nat} {ds : List Int} (hd : BytesAt w (.slice ao ds.length cap) ds) (ho : Octs ds) (hs : ds.length ≤ 140737488355328) :
    EyeG (w.alloc (.cells #[.slice ao ds.length cap, .int .i64 0, .int .i64 0] 105)) w.heap.size ao cap ds 0 0 :=
  ⟨heap_alloc_new w _, hd.kept (S := []) ((Kept.refl _ _).alloc _) (fun _ _ => by simp), fun hne k hk => Nat.ne_of_lt (hd.lt hne k hk), Nat.zero_le _, hs, ho, Nat.zero_le _⟩

set_option maxRecDepth 100000 in
set_option maxHeartbeats 2000000 in
theorem RSize_any {w : World} {ao : Option Addr} {cap : Nat} {ds : List Int} (hd : BytesAt w (.slice ao ds.length cap) ds) (hod : Octs ds) (hsd : ds.length ≤ 140737488355328) (h : Head) (hh : Hid (h = headL ds (fun _ => true))) :
    Calls Try.prog 22 #[.slice ao ds.length cap] w fun e w' => e = .returned (.tuple #[.int .i64 h.b, .int .i64 h.t, .int .i64 h.err]) ∧ Kept [] w w' := by
  obtain ⟨y1, hy1⟩ : ∃ y, Hid (y = takeL ds 0 0 1 0 65536) := ⟨_, rfl⟩
  obtain ⟨y2, hy2⟩ : ∃ y, Hid (y = takeL ds y1.pl y1.f 1 0 topV) := ⟨_, rfl⟩
  have hhe : Hid (h = headOf y1 y2 true) := by
    have e : headL ds (fun _ => true) = headOf y1 y2 true := by
      unfold headL len2 len1
      rw [← hy1.out, ← hy2.out]
    exact hh.out.trans e
  have hb1 : 0 ≤ y1.n ∧ y1.n ≤ 65536 := by rw [hy1.out]; exact var_le ds hod 0 0 65536 (by decide)
  have hb2 : 0 ≤ y2.n ∧ y2.n ≤ 18446744073709551615 := by rw [hy2.out]; exact var_le ds hod _ _ topV (by decide)
  have hf1 : y1.f ≤ 4 := by rw [hy1.out]; exact take_f ds hod _ _ _ _ _ (by decide) (by decide) (by decide)
  have hf2 : y2.f ≤ 4 := by rw [hy2.out]; exact take_f ds hod _ _ _ _ _ hf1 (by decide) (by decide)
  have hff : y1.f ≠ 0 → y2.f ≠ 0 := by
    intro h1
    have e := hy2.out
    rw [takeL_bad _ _ _ _ _ _ h1] at e
    rw [e]
    exact h1
  have hv1 := EVar_any (EyeG.mk0 hd hod hsd) 65536 y1 hy1
  have HV2 := fun W (hW : EyeG W w.heap.size ao cap ds y1.pl y1.f) => EVar_any hW 18446744073709551615 y2 hy2
  have hw1 : IntKind.i64.wrap y1.n = y1.n := by rw [IntKind.wrap_i64]; omega
  clear hd hh hy1 hy2
  go_enter Try.func22, Try.ntmps22
  go_wp2_with fail
  go_at_call 44
  refine hv1.mono ?_
  rintro e w1 ⟨rfl, R1, k1⟩
  have hv2 := HV2 w1 R1
  have K1 : Kept [] w w1 := ((Kept.refl [] w).alloc _).trans k1 (by simp)
  clear hv1 HV2 R1 k1
  go_wp2_with fail
  go_at_call 44
  refine hv2.mono ?_
  rintro e w2 ⟨rfl, R2, k2⟩
  have HK2 : Hid (Kept [] w w2) := K1.trans k2 (by simp)
  obtain ⟨d0, d1, d2, d3, d4⟩ := R2.facts
  clear hv2 R2 k2 K1
  by_cases c3 : y2.f = 0
  · have c1 : y1.f = 0 := Decidable.byContradiction fun h => hff h c3
    rw [c3, show errL 0 = 0 from rfl] at d2
    by_cases c4 : 65536 < y2.n
    · have hhf : h = ⟨73, 0, 0, 0⟩ := by rw [hhe.out]; unfold headOf; rw [if_neg (by simpa using c1), if_neg (by decide), if_neg (by simpa using c3), if_pos c4]
      subst hhf
      go_wp2
      exact bodyPost_ret (v := .tuple #[.int .i64 0, .int .i64 0, .int .i64 73]) (by simp [results, Try.results22, go_sem]) rfl ⟨rfl, HK2.out⟩
    · have hhf : h = ⟨0, y1.n, y2.n, y2.pl⟩ := by rw [hhe.out]; unfold headOf; rw [if_neg (by simpa using c1), if_neg (by decide), if_neg (by simpa using c3), if_neg c4]
      subst hhf
      have hw2 : IntKind.i64.wrap y2.n = y2.n := by rw [IntKind.wrap_i64]; omega
      go_wp2
      exact bodyPost_ret (v := .tuple #[.int .i64 y1.n, .int .i64 y2.n, .int .i64 0]) (by simp [results, Try.results22, go_sem]) rfl ⟨rfl, HK2.out⟩
  · have e3 := err_ne _ hf2 c3
    have hhf : h = ⟨70, 0, 0, 0⟩ := by
      rw [hhe.out]; unfold headOf
      by_cases c1 : y1.f = 0
      · rw [if_neg (by simpa using c1), if_neg (by decide), if_pos c3]
      · rw [if_pos c1]
    subst hhf
    generalize errL y2.f = z at *
    go_wp2
    exact bodyPost_ret (v := .tuple #[.int .i64 0, .int .i64 0, .int .i64 70]) (by simp [results, Try.results22, go_sem]) rfl ⟨rfl, HK2.out⟩
end Go.Proofs.Ytoohomfnbkdhfaa
