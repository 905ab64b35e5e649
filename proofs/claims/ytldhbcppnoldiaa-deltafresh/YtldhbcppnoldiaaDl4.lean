/-
  BYTES cut out of bytes.
  Bytes lie in memory that is there.
  WALKS: delta.lengths, asked by Size; delta.Size.
-/
import Derived.Test.YtldhbcppnoldiaaBase
import Derived.Test.YtldhbcppnoldiaaDl1
import Derived.Deep.QuietTactic
import Derived.BigQuiet
namespace Go.Proofs.Ytldhbcppnoldiaa
open Go.RowKit

/-- A part of a slice of bytes, as the machine cuts it. -/
def cutA (ao : Option Addr) (cap lo : Nat) : Option Addr := if cap = lo then ao else Option.map (fun x => x.add lo) ao
theorem bytes_cut {w : World} {ao : Option Addr} {n cap : Nat} {ys : List Int} (h : BytesAt w (.slice ao n cap) ys) (lo m : Nat) (h2 : lo + m ≤ ys.length) :
    BytesAt w (.slice (cutA ao cap lo) m (cap - lo)) ((ys.drop lo).take m) ∧ ((ys.drop lo).take m ≠ [] → ∀ k, blkOf (.slice (cutA ao cap lo) m (cap - lo)) = some k → blkOf (.slice ao n cap) = some k) := by
  have hl : ((ys.drop lo).take m).length = m := by rw [List.length_take, List.length_drop]; omega
  obtain ⟨ao', cap', he, hc, hnil, hh⟩ := h
  injection he with e1 e2 e3
  subst e1 e2 e3
  unfold cutA
  refine ⟨⟨if cap = lo then ao else Option.map (fun x => x.add lo) ao, cap - lo, by rw [hl], by omega, fun e => ?_, fun hne => ?_⟩, ?_⟩
  · by_cases hcl : cap = lo
    · omega
    · rw [if_neg hcl] at e
      cases ao with
      | none => have := hnil rfl; omega
      | some a => simp at e
  · have hne2 : ys ≠ [] := by rintro rfl; simp at hne
    obtain ⟨b, off, rfl, hcell⟩ := hh hne2
    have hpos : 0 < ((ys.drop lo).take m).length := List.length_pos_iff.2 hne
    have hcl : ¬ cap = lo := by omega
    rw [if_neg hcl]
    refine ⟨b, off + lo, by simp [Addr.add_mid], fun i u hu => ?_⟩
    have hi' : i < m := by have := (List.getElem?_eq_some_iff.1 hu).1; omega
    rw [List.getElem?_take_of_lt hi', List.getElem?_drop] at hu
    have := hcell (lo + i) u hu
    rwa [show off + lo + i = off + (lo + i) by omega]
  · intro hne k hk
    have hne2 : ys ≠ [] := by rintro rfl; simp at hne
    obtain ⟨b, off, rfl, hcell⟩ := hh hne2
    have hpos : 0 < ((ys.drop lo).take m).length := List.length_pos_iff.2 hne
    have hcl : ¬ cap = lo := by omega
    rw [if_neg hcl] at hk
    simpa [blkOf, Addr.add_mid] using hk
theorem bytes_tail {w : World} {ao : Option Addr} {n cap : Nat} {ys : List Int} (h : BytesAt w (.slice ao n cap) ys) (lo : Nat) (h2 : lo ≤ ys.length) :
    BytesAt w (.slice (cutA ao cap lo) (ys.length - lo) (cap - lo)) (ys.drop lo) := by
  have e := (bytes_cut h lo (ys.length - lo) (by omega)).1
  rwa [List.take_of_length_le (by simp)] at e
end Go.Proofs.Ytldhbcppnoldiaa

namespace Go.Proofs.Ytldhbcppnoldiaa
open Go.RowKit

theorem BytesAt.lt {w : World} {v : Value} {ys : List Int} (h : BytesAt w v ys) (hne : ys ≠ []) : ∀ k, blkOf v = some k → k < w.heap.size := by
  intro k hk
  obtain ⟨ao, cap, rfl, _, _, hcc⟩ := h
  obtain ⟨b', off', rfl, hh⟩ := hcc hne
  simp [blkOf] at hk
  subst hk
  cases ys with
  | nil => exact absurd rfl hne
  | cons x t => exact World.block_lt_of_cell? w _ (hh 0 x rfl)

end Go.Proofs.Ytldhbcppnoldiaa

namespace Go.Proofs.Ytldhbcppnoldiaa
open Go.RowKit

theorem fitsS_any (w : World) (m : Int) : Calls Try.prog 59 #[.int .i64 m] w fun e w' => e = .returned (.bool true) ∧ w' = w := by
  go_enter Try.func59, Try.ntmps59
  go_wp2
  go_ret
  exact ⟨rfl, rfl⟩

set_option maxRecDepth 100000 in
set_option maxHeartbeats 2000000 in
theorem lengthsS_any {w : World} {r g : Nat} {ds : List Int} (R : Rdr w r g ds 0 0) (h : Head) (hh : Hid (h = headL ds (fun _ => true))) :
    Calls Try.prog 55 #[.pointer (some ⟨r, 0, none⟩), .func (.func 59) #[] #[]] w fun e w' =>
      e = .returned (.tuple #[.agg #[.int .i64 h.b, .int .i64 h.t], .int .i64 h.err]) ∧ HeadTo w w' r g ds h := by
  have hr := lt_of_block R.blk
  have ho := R.oct
  have HG : Hid (g < w.heap.size) := lt_of_block R.row
  obtain ⟨y1, hy1⟩ : ∃ y, Hid (y = takeL ds 0 0 1 0 65536) := ⟨_, rfl⟩
  obtain ⟨y2, hy2⟩ : ∃ y, Hid (y = takeL ds y1.pl y1.f 1 0 topV) := ⟨_, rfl⟩
  have hhe : Hid (h = headOf y1 y2 true) := by
    have e : headL ds (fun _ => true) = headOf y1 y2 true := by
      unfold headL len2 len1
      rw [← hy1.out, ← hy2.out]
    exact hh.out.trans e
  have hb1 : 0 ≤ y1.n ∧ y1.n ≤ 65536 := by rw [hy1.out]; exact var_le ds ho 0 0 65536 (by decide)
  have hb2 : 0 ≤ y2.n ∧ y2.n ≤ 18446744073709551615 := by rw [hy2.out]; exact var_le ds ho _ _ topV (by decide)
  have hf1 : y1.f ≤ 4 := by rw [hy1.out]; exact take_f ds ho _ _ _ _ _ (by decide) (by decide) (by decide)
  have hf2 : y2.f ≤ 4 := by rw [hy2.out]; exact take_f ds ho _ _ _ _ _ hf1 (by decide) (by decide)
  have HV1 := fun W (hW : Rdr W r g ds 0 0) => Var_any hW 65536 (by decide) y1 hy1
  have HV2 := fun W (hW : Rdr W r g ds y1.pl y1.f) => Var_any hW 18446744073709551615 (by decide) y2 hy2
  clear hh hy1 hy2
  have hcall := HV1 (w.alloc (.cells #[.int .i64 0, .int .i64 0] 108)) (R.alloc _)
  have hw1 : IntKind.i64.wrap y1.n = y1.n := by rw [IntKind.wrap_i64]; omega
  clear HV1 R
  go_enter Try.func55, Try.ntmps55
  go_wp2_with fail
  go_at_call 91
  refine hcall.mono ?_
  rintro e w1 ⟨rfl, R1, k1⟩
  have blk1 := k1.heap (heap_alloc_new w (.cells #[.int .i64 0, .int .i64 0] 108)) (by simp; omega)
  obtain ⟨q1, q2, q3⟩ := own_facts blk1
  have K1 : Kept [r] w w1 := ((Kept.refl [r] w).alloc _).then k1
  have hF := Fault_any R1 hf1
  have HB1 : Hid _ := blk1
  clear hcall k1 blk1
  go_wp2_with fail
  go_at_call 92
  refine hF.mono ?_
  rintro e w2 ⟨rfl, hw2⟩
  subst w2
  by_cases c1 : y1.f = 0
  · rw [c1, show errL 0 = 0 from rfl]
    have hV := HV2 w1 R1
    have hfit := fitsS_any w1 y1.n
    clear R1 hF HV2
    go_wp2_with fail
    go_at_call 59
    refine hfit.mono ?_
    rintro e w5 ⟨rfl, hw5⟩
    subst w5
    go_wp2_with fail
    go_at_call 91
    refine hV.mono ?_
    rintro e w3 ⟨rfl, R3, k3⟩
    have blk3 := k3.heap HB1.out (by simp; omega)
    have K3 : Kept [r] w w3 := K1.then k3
    have HFin : Hid (∀ a b, Kept [r] w ((w3.setCell ⟨w.heap.size, 0, none⟩ a).setCell ⟨w.heap.size, 1, none⟩ b)) := fun a b => (K3.setCell (Or.inr (Nat.le_refl _)) _).setCell (Or.inr (Nat.le_refl _)) _
    have HR3 : Hid (∀ a b, Rdr ((w3.setCell ⟨w.heap.size, 0, none⟩ a).setCell ⟨w.heap.size, 1, none⟩ b) r g ds y2.pl y2.f) := fun a b =>
      R3.kept (((Kept.refl [w.heap.size] w3).setCell (p := ⟨w.heap.size, 0, none⟩) (Or.inl (by simp)) a).setCell (p := ⟨w.heap.size, 1, none⟩) (Or.inl (by simp)) b) (by simp; omega) (by
        have := lt_of_block R3.row
        have hg : g < w.heap.size := HG.out
        simp; omega)
    clear q1 q2 q3
    obtain ⟨q1, q2, q3⟩ := own_facts blk3
    have hF2 := Fault_any R3 hf2
    clear R3 k3 K3 blk3 HB1 K1 hV
    go_wp2_with fail
    go_at_call 92
    refine hF2.mono ?_
    rintro e w4 ⟨rfl, hw4⟩
    subst w4
    clear hF2
    by_cases c3 : y2.f = 0
    · rw [c3, show errL 0 = 0 from rfl]
      by_cases c4 : 65536 < y2.n
      · have hhf : h = ⟨73, 0, 0, 0⟩ := by rw [hhe.out]; unfold headOf; rw [if_neg (by simpa using c1), if_neg (by decide), if_neg (by simpa using c3), if_pos c4]
        subst hhf
        go_wp2
        exact bodyPost_ret (v := .tuple #[.agg #[.int .i64 0, .int .i64 0], .int .i64 73]) (by simp [results, Try.results55, go_sem, q1]) rfl ⟨rfl, fun e => absurd e (by decide), HFin.out _ _⟩
      · have hhf : h = ⟨0, y1.n, y2.n, y2.pl⟩ := by rw [hhe.out]; unfold headOf; rw [if_neg (by simpa using c1), if_neg (by decide), if_neg (by simpa using c3), if_neg c4]
        subst hhf
        have hw2 : IntKind.i64.wrap y2.n = y2.n := by rw [IntKind.wrap_i64]; omega
        go_wp2
        exact bodyPost_ret (v := .tuple #[.agg #[.int .i64 y1.n, .int .i64 y2.n], .int .i64 0]) (by simp [results, Try.results55, go_sem, q1]) rfl ⟨rfl, fun _ => c3 ▸ HR3.out _ _, HFin.out _ _⟩
    · have e3 := err_ne _ hf2 c3
      have hhf : h = ⟨70, 0, 0, 0⟩ := by rw [hhe.out]; unfold headOf; rw [if_neg (by simpa using c1), if_neg (by decide), if_pos c3]
      subst hhf
      generalize errL y2.f = z at *
      go_wp2
      exact bodyPost_ret (v := .tuple #[.agg #[.int .i64 0, .int .i64 0], .int .i64 70]) (by simp [results, Try.results55, go_sem, q1]) rfl ⟨rfl, fun e => absurd e (by decide), HFin.out _ _⟩
  · have e1 := err_ne _ hf1 c1
    have hhf : h = ⟨70, 0, 0, 0⟩ := by rw [hhe.out]; unfold headOf; rw [if_pos c1]
    subst hhf
    generalize errL y1.f = z at *
    go_wp2
    exact bodyPost_ret (v := .tuple #[.agg #[.int .i64 0, .int .i64 0], .int .i64 70]) (by simp [results, Try.results55, go_sem, q1]) rfl ⟨rfl, fun e => absurd e (by decide), (K1.setCell (Or.inr (Nat.le_refl _)) _).setCell (Or.inr (Nat.le_refl _)) _⟩

set_option maxRecDepth 100000 in
set_option maxHeartbeats 2000000 in
theorem Size_any {w : World} {ds : List Int} {vd : Value} (hd : BytesAt w vd ds) (hod : Octs ds) (hsd : ds.length ≤ 140737488355328) (h : Head) (hh : Hid (h = headL ds (fun _ => true))) :
    Calls Try.prog 26 #[vd] w fun e w' => e = .returned (.tuple #[.int .i64 h.b, .int .i64 h.t, .int .i64 h.err]) ∧ Kept [] w w' := by
  have hrd := Read_any vd ds w hd hsd hod
  clear hd
  go_enter Try.func26, Try.ntmps26
  go_wp2_with fail
  go_at_call 7
  refine hrd.mono ?_
  rintro e w1 ⟨r, g, rfl, R1, k1, hr, hg⟩
  have hlen := lengthsS_any R1 h hh
  clear hrd R1
  go_wp2_with fail
  go_at_call 55
  refine hlen.mono ?_
  rintro e w2 ⟨rfl, t1, t2⟩
  have HK : Hid (Kept [] w w2) := k1.trans t2 (by simp; omega)
  clear hlen t1 t2 k1
  go_wp2
  go_quiet (fail)
  go_wp2
  exact bodyPost_ret (v := .tuple #[.int .i64 h.b, .int .i64 h.t, .int .i64 h.err]) (by simp [results, Try.results26, go_sem]) rfl ⟨rfl, (HK.out.alloc _).drewN _⟩
end Go.Proofs.Ytldhbcppnoldiaa
