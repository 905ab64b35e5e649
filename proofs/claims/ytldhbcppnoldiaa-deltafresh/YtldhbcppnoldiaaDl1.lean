/-
  WALKS: delta.lengths, asked by Apply and by Size.
-/
import Derived.Test.YtldhbcppnoldiaaReaderF
namespace Go.Proofs.Ytldhbcppnoldiaa
open Go.RowKit

theorem take_f (xs : List Int) (ho : Octs xs) (pl f : Nat) (kind size most : Int) (hf : f ≤ 4) (hs : kind = 0 → size ≤ 8) (hm : most ≤ 18446744073709551615) : (takeL xs pl f kind size most).f ≤ 4 := by
  have h := lookL_fits (xs.drop pl) kind size most (octs_drop ho pl) hs hm
  unfold takeL
  split
  · exact hf
  · split
    · exact h.f
    · exact Nat.zero_le _
theorem err_ne (f : Nat) (h : f ≤ 4) (h0 : f ≠ 0) : (errL f != 0) = true := by
  have : ∀ f : Nat, f ≤ 4 → f ≠ 0 → (errL f != 0) = true := by decide
  exact this f h h0
/-- A block of one's own, written by nobody else: its cells. -/
theorem own_facts {w : World} {k : Nat} {c : Array Value} {t : TypeId} (h : w.heap[k]? = some (.cells c t (0, 0))) : (∀ o, w.cell? ⟨k, o, none⟩ = c[o]?) ∧ (∀ o, w.frozen? ⟨k, o, none⟩ = false) ∧ k < w.heap.size :=
  ⟨fun _ => cell_of_row _ _ _ _ _ _ h, fun _ => frozen_of_row _ _ _ _ _ h, lt_of_block h⟩

structure HeadTo (w w' : World) (r g : Nat) (ds : List Int) (h : Head) : Prop where
  rd : h.err = 0 → Rdr w' r g ds h.pl 0
  kept : Kept [r] w w'

theorem fitsA_any {w : World} {bx : Nat} {ao : Option Addr} {n cap : Nat} (m : Int) (hb : w.cell? ⟨bx, 0, none⟩ = some (.slice ao n cap)) :
    Calls Try.prog 56 #[.int .i64 m, .pointer (some ⟨bx, 0, none⟩)] w fun e w' => e = .returned (.bool (m == (n : Int))) ∧ w' = w := by
  go_enter Try.func56, Try.ntmps56
  go_wp2
  go_ret
  exact ⟨rfl, rfl⟩

set_option maxRecDepth 100000 in
set_option maxHeartbeats 2000000 in
theorem lengthsA_any {w : World} {r g bx : Nat} {ds : List Int} {ao : Option Addr} {n cap : Nat} (R : Rdr w r g ds 0 0) (hb : w.cell? ⟨bx, 0, none⟩ = some (.slice ao n cap)) (hne : bx ≠ r) (h : Head) (hh : Hid (h = headL ds (fun m => decide (m = n)))) :
    Calls Try.prog 55 #[.pointer (some ⟨r, 0, none⟩), .func (.func 56) #[] #[.pointer (some ⟨bx, 0, none⟩)]] w fun e w' =>
      e = .returned (.tuple #[.agg #[.int .i64 h.b, .int .i64 h.t], .int .i64 h.err]) ∧ HeadTo w w' r g ds h := by
  have hr := lt_of_block R.blk
  have hbx : bx < w.heap.size := World.block_lt_of_cell? w _ hb
  have ho := R.oct
  have HG : Hid (g < w.heap.size) := lt_of_block R.row
  obtain ⟨y1, hy1⟩ : ∃ y, Hid (y = takeL ds 0 0 1 0 65536) := ⟨_, rfl⟩
  obtain ⟨y2, hy2⟩ : ∃ y, Hid (y = takeL ds y1.pl y1.f 1 0 topV) := ⟨_, rfl⟩
  have hhe : Hid (h = headOf y1 y2 (decide (y1.n = n))) := by
    have e : headL ds (fun m => decide (m = n)) = headOf y1 y2 (decide (y1.n = n)) := by
      unfold headL len2 len1
      rw [← hy1.out, ← hy2.out]
    exact hh.out.trans e
  have hb1 : 0 ≤ y1.n ∧ y1.n ≤ 65536 := by rw [hy1.out]; exact var_le ds ho 0 0 65536 (by decide)
  have hb2 : 0 ≤ y2.n ∧ y2.n ≤ 18446744073709551615 := by rw [hy2.out]; exact var_le ds ho _ _ topV (by decide)
  have hf1 : y1.f ≤ 4 := by rw [hy1.out]; exact take_f ds ho _ _ _ _ _ (by decide) (by decide) (by decide)
  have hf2 : y2.f ≤ 4 := by rw [hy2.out]; exact take_f ds ho _ _ _ _ _ hf1 (by decide) (by decide)
  have HV1 := fun W (hW : Rdr W r g ds 0 0) => Var_any hW 65536 (by decide) y1 hy1
  have HV2 := fun W (hW : Rdr W r g ds y1.pl y1.f) => Var_any hW 18446744073709551615 (by decide) y2 hy2
  clear hh hy1 hy2
  have hcall := HV1 (w.alloc (.cells #[.int .i64 0, .int .i64 0] 108)) (R.alloc _)
  have hw1 : IntKind.i64.wrap y1.n = y1.n := by rw [IntKind.wrap_i64]; omega
  have cb := (Kept.refl [] w).alloc (.cells #[.int .i64 0, .int .i64 0] 108)
  have cb1 := cb.cell hb (by simp)
  clear cb HV1 R
  go_enter Try.func55, Try.ntmps55
  go_wp2_with fail
  go_at_call 91
  refine hcall.mono ?_
  rintro e w1 ⟨rfl, R1, k1⟩
  have blk1 := k1.heap (heap_alloc_new w (.cells #[.int .i64 0, .int .i64 0] 108)) (by simp; omega)
  obtain ⟨q1, q2, q3⟩ := own_facts blk1
  have d1 := k1.cell cb1 (by simpa using hne)
  have K1 : Kept [r] w w1 := ((Kept.refl [r] w).alloc _).then k1
  have hF := Fault_any R1 hf1
  have HB1 : Hid _ := blk1
  clear hcall k1 cb1 blk1
  go_wp2_with fail
  go_at_call 92
  refine hF.mono ?_
  rintro e w2 ⟨rfl, hw2⟩
  subst w2
  by_cases c1 : y1.f = 0
  · rw [c1, show errL 0 = 0 from rfl]
    by_cases c2 : y1.n = (n : Int)
    · have e2 : (y1.n == (n : Int)) = true := by simpa using c2
      have C2 : Hid (¬ decide (y1.n = (n : Int)) = false) := (by simpa using c2 : ¬ decide (y1.n = (n : Int)) = false)
      clear c2
      have hV := HV2 w1 R1
      have hfit := fitsA_any y1.n d1
      rw [e2] at hfit
      clear R1 hF HV2
      go_wp2_with fail
      go_at_call 56
      refine hfit.mono ?_
      rintro e w5 ⟨rfl, hw5⟩
      subst w5
      go_wp2_with fail
      go_at_call 91
      refine hV.mono ?_
      rintro e w3 ⟨rfl, R3, k3⟩
      have blk3 := k3.heap HB1.out (by simp; omega)
      have K3 : Kept [r] w w3 := K1.then k3
      have HFin : Hid (∀ a b, Kept [r] w ((w3.setCell ⟨w.heap.size, 0, none⟩ a).setCell ⟨w.heap.size, 1, none⟩ b)) := fun a b => (K3.setCell (Or.inr (Nat.le_refl _)) _).setCell (Or.inr (Nat.le_refl _)) _
      have HR3 : Hid (∀ a b, Rdr ((w3.setCell ⟨w.heap.size, 0, none⟩ a).setCell ⟨w.heap.size, 1, none⟩ b) r g ds y2.pl y2.f) := fun a b =>
        R3.kept (((Kept.refl [w.heap.size] w3).setCell (p := ⟨w.heap.size, 0, none⟩) (Or.inl (by simp)) a).setCell (p := ⟨w.heap.size, 1, none⟩) (Or.inl (by simp)) b) (by simp; omega) (by
          have := lt_of_block R3.row
          have hg : g < w.heap.size := HG.out
          simp; omega)
      clear q1 q2 q3 d1
      obtain ⟨q1, q2, q3⟩ := own_facts blk3
      have hF2 := Fault_any R3 hf2
      clear R3 k3 K3 blk3 HB1 K1 hV
      go_wp2_with fail
      go_at_call 92
      refine hF2.mono ?_
      rintro e w4 ⟨rfl, hw4⟩
      subst w4
      clear hF2
      by_cases c3 : y2.f = 0
      · rw [c3, show errL 0 = 0 from rfl]
        by_cases c4 : 65536 < y2.n
        · have hhf : h = ⟨73, 0, 0, 0⟩ := by rw [hhe.out]; unfold headOf; rw [if_neg (by simpa using c1), if_neg C2.out, if_neg (by simpa using c3), if_pos c4]
          subst hhf
          go_wp2
          exact bodyPost_ret (v := .tuple #[.agg #[.int .i64 0, .int .i64 0], .int .i64 73]) (by simp [results, Try.results55, go_sem, q1]) rfl ⟨rfl, fun e => absurd e (by decide), HFin.out _ _⟩
        · have hhf : h = ⟨0, y1.n, y2.n, y2.pl⟩ := by rw [hhe.out]; unfold headOf; rw [if_neg (by simpa using c1), if_neg C2.out, if_neg (by simpa using c3), if_neg c4]
          subst hhf
          have hw2 : IntKind.i64.wrap y2.n = y2.n := by rw [IntKind.wrap_i64]; omega
          go_wp2
          exact bodyPost_ret (v := .tuple #[.agg #[.int .i64 y1.n, .int .i64 y2.n], .int .i64 0]) (by simp [results, Try.results55, go_sem, q1]) rfl ⟨rfl, fun _ => c3 ▸ HR3.out _ _, HFin.out _ _⟩
      · have e3 := err_ne _ hf2 c3
        have hhf : h = ⟨70, 0, 0, 0⟩ := by rw [hhe.out]; unfold headOf; rw [if_neg (by simpa using c1), if_neg C2.out, if_pos c3]
        subst hhf
        generalize errL y2.f = z at *
        go_wp2
        exact bodyPost_ret (v := .tuple #[.agg #[.int .i64 0, .int .i64 0], .int .i64 70]) (by simp [results, Try.results55, go_sem, q1]) rfl ⟨rfl, fun e => absurd e (by decide), HFin.out _ _⟩
    · have e2 : (y1.n == (n : Int)) = false := by simpa using c2
      have hhf : h = ⟨71, 0, 0, 0⟩ := by rw [hhe.out]; unfold headOf; rw [if_neg (by simpa using c1), if_pos (by simpa using c2)]
      subst hhf
      go_wp2
      exact bodyPost_ret (v := .tuple #[.agg #[.int .i64 0, .int .i64 0], .int .i64 71]) (by simp [results, Try.results55, go_sem, q1]) rfl ⟨rfl, fun e => absurd e (by decide), (K1.setCell (Or.inr (Nat.le_refl _)) _).setCell (Or.inr (Nat.le_refl _)) _⟩
  · have e1 := err_ne _ hf1 c1
    have hhf : h = ⟨70, 0, 0, 0⟩ := by rw [hhe.out]; unfold headOf; rw [if_pos c1]
    subst hhf
    generalize errL y1.f = z at *
    go_wp2
    exact bodyPost_ret (v := .tuple #[.agg #[.int .i64 0, .int .i64 0], .int .i64 70]) (by simp [results, Try.results55, go_sem, q1]) rfl ⟨rfl, fun e => absurd e (by decide), (K1.setCell (Or.inr (Nat.le_refl _)) _).setCell (Or.inr (Nat.le_refl _)) _⟩
end Go.Proofs.Ytldhbcppnoldiaa
