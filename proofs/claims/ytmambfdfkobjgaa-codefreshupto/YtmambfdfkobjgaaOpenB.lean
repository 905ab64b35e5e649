/-
  The document's own Reader (satchelref1.Eye) over any slice of bytes: what it is; its call Left.
  LISTS OF BYTES AND OF INTEGERS OPENED: what a reading of them says of memory, and how much it weighs.
-/
import Derived.Test.YtmambfdfkobjgaaEyP
import Derived.Test.YtmambfdfkobjgaaRCopy
import Derived.Test.YtmambfdfkobjgaaEqAn
import Derived.Deep.RegionWith
import Derived.Test.YtmambfdfkobjgaaRows
import Derived.Test.YtmambfdfkobjgaaBase
import Derived.Test.YtmambfdfkobjgaaPlain
import Derived.ProofKit
import Derived.OpenShut
import Derived.SizedLaws
import Derived.Deep.Slices
namespace Go.Proofs.Ytmambfdfkobjgaa
open Go.RowKit

/-- An Eye at b over a slice that reads as the bytes xs. -/
structure EyeG (w : World) (b : Nat) (ao : Option Addr) (cap : Nat) (xs : List Int) (pl f : Nat) : Prop where
  blk : w.heap[b]? = some (.cells #[.slice ao xs.length cap, .int .i64 pl, .int .i64 (errL f)] 34 (0, 0))
  row : BytesAt w (.slice ao xs.length cap) xs
  ne : xs ≠ [] → ∀ k, blkOf (.slice ao xs.length cap) = some k → k ≠ b
  le : pl ≤ xs.length
  small : xs.length ≤ 140737488355328
  oct : Octs xs
  bad : f ≤ 4

theorem EyeG.kept {w w' : World} {b : Nat} {ao : Option Addr} {cap : Nat} {xs : List Int} {pl f : Nat} {S : List Nat} (R : EyeG w b ao cap xs pl f) (k : Kept S w w') (h1 : b ∉ S) (h2 : xs ≠ [] → ∀ k, blkOf (.slice ao xs.length cap) = some k → k ∉ S) : EyeG w' b ao cap xs pl f :=
  ⟨k.heap R.blk h1, R.row.kept' k h2, R.ne, R.le, R.small, R.oct, R.bad⟩
theorem EyeG.facts {w : World} {b : Nat} {ao : Option Addr} {cap : Nat} {xs : List Int} {pl f : Nat} (R : EyeG w b ao cap xs pl f) :
    w.cell? ⟨b, 0, none⟩ = some (.slice ao xs.length cap) ∧ w.cell? ⟨b, 1, none⟩ = some (.int .i64 pl) ∧ w.cell? ⟨b, 2, none⟩ = some (.int .i64 (errL f)) ∧
      (∀ o, w.frozen? ⟨b, o, none⟩ = false) ∧ b < w.heap.size :=
  ⟨cell_of_row _ _ _ _ _ _ R.blk, cell_of_row _ _ _ _ _ _ R.blk, cell_of_row _ _ _ _ _ _ R.blk, fun _ => frozen_of_row _ _ _ _ _ R.blk, lt_of_block R.blk⟩
theorem EyeG.setBad {w : World} {b : Nat} {ao : Option Addr} {cap : Nat} {xs : List Int} {pl f : Nat} (R : EyeG w b ao cap xs pl f) (f' : Nat) (h : f' ≤ 4) : EyeG (w.setCell ⟨b, 2, none⟩ (.int .i64 (errL f'))) b ao cap xs pl f' :=
  ⟨heap_setCell_same _ _ _ _ _ _ R.blk, R.row.kept' (S := [b]) ((Kept.refl _ _).setCell (Or.inl (by simp)) _) (fun h k hk => by simpa using R.ne h k hk), R.ne, R.le, R.small, R.oct, h⟩
theorem EyeG.setPlace {w : World} {b : Nat} {ao : Option Addr} {cap : Nat} {xs : List Int} {pl f : Nat} (R : EyeG w b ao cap xs pl f) (pl' : Nat) (h : pl' ≤ xs.length) : EyeG (w.setCell ⟨b, 1, none⟩ (.int .i64 pl')) b ao cap xs pl' f :=
  ⟨heap_setCell_same _ _ _ _ _ _ R.blk, R.row.kept' (S := [b]) ((Kept.refl _ _).setCell (Or.inl (by simp)) _) (fun h k hk => by simpa using R.ne h k hk), R.ne, h, R.small, R.oct, R.bad⟩
theorem EyeG.kept0 {w w' : World} {b : Nat} {ao : Option Addr} {cap : Nat} {xs : List Int} {pl f : Nat} (R : EyeG w b ao cap xs pl f) (k : Kept [] w w') : EyeG w' b ao cap xs pl f := R.kept k (by simp) (fun _ _ _ => by simp)
theorem EyeG.drewN {w : World} {b : Nat} {ao : Option Addr} {cap : Nat} {xs : List Int} {pl f : Nat} (R : EyeG w b ao cap xs pl f) (n : Nat) : EyeG (w.drewN n) b ao cap xs pl f := R.kept0 ((Kept.refl _ _).drewN n)
/-- Where there are bytes they lie somewhere. -/
theorem EyeG.some {w : World} {b : Nat} {ao : Option Addr} {cap : Nat} {xs : List Int} {pl f : Nat} (R : EyeG w b ao cap xs pl f) (h : 0 < xs.length) : xs.length ≤ cap ∧ ∃ g off, ao = some ⟨g, off, none⟩ ∧ ∀ i, i < xs.length → w.cell? ⟨g, off + i, none⟩ = some (.int .u8 (xs[i]?.getD 0)) := by
  obtain ⟨ao', cap', he, hc, _, hh⟩ := R.row
  injection he with e1 e2 e3
  subst e1 e3
  obtain ⟨g, off, hb, hcell⟩ := hh (by rintro rfl; simp at h)
  exact ⟨hc, g, off, hb, fun i hi => hcell i _ (by rw [List.getElem?_eq_getElem hi]; rfl)⟩

theorem ELeft_any {w : World} {b cap : Nat} {ao : Option Addr} {xs : List Int} {pl f : Nat} (R : EyeG w b ao cap xs pl f) : Calls Try.prog 40 #[.pointer (some ⟨b, 0, none⟩)] w fun e w' => e = .returned (.int .i64 ((xs.length : Int) - pl)) ∧ ∃ n, w' = w.drewN n := by
  obtain ⟨d0, d1, d2, d3, d4⟩ := R.facts
  have hle := R.le
  have hsm := R.small
  clear R
  go_enter Try.func40, Try.ntmps40
  go_wp2
  go_quiet (fail)
  go_wp2
  go_ret
  exact ⟨rfl, _, rfl⟩

end Go.Proofs.Ytmambfdfkobjgaa

namespace Go.Proofs.Ytmambfdfkobjgaa
open Go.ChangeShapes Go.WideShapes Go.ChangeAt Go.RowKit Go.Deep

theorem Try.cells_u8 : Try.prog.cellsOf 5 = 1 := by kernel_rfl
theorem Try.bytes_u8 : Try.prog.bytesOf 5 = 1 := by kernel_rfl
theorem Try.cells_bytes : Try.prog.cellsOf 22 = 1 := by kernel_rfl
theorem Try.cells_int : Try.prog.cellsOf 3 = 1 := by kernel_rfl

section
variable {H : Type} {enc : TypeId × Value → H} {w : World} {base : Nat} {spare : Nat → Bool} {held : Bool} {fuel : Nat} {cs : List Value} {x : DataW H × List MemPlace}

theorem octs_wf {zs : List Int} (h : ∀ n ∈ zs, (Lit.int .u8 n).wf = true) : Octs zs := fun u hu => by
  have h1 := h u hu
  have e1 : IntKind.u8.min = 0 := rfl
  have e2 : IntKind.u8.max = 255 := rfl
  simp only [Lit.wf, Bool.and_eq_true, decide_eq_true_eq, e1, e2] at h1
  omega
theorem i64_wf {n : Int} (h : (Lit.int .i64 n).wf = true) : -9223372036854775808 ≤ n ∧ n ≤ 9223372036854775807 := by
  have e1 : IntKind.i64.min = -9223372036854775808 := rfl
  have e2 : IntKind.i64.max = 9223372036854775807 := rfl
  simp only [Lit.wf, Bool.and_eq_true, decide_eq_true_eq, e1, e2] at h
  omega
theorem u64_wf {n : Int} (h : (Lit.int .u64 n).wf = true) : 0 ≤ n ∧ n ≤ 18446744073709551615 := by
  have e1 : IntKind.u64.min = 0 := rfl
  have e2 : IntKind.u64.max = 18446744073709551615 := rfl
  simp only [Lit.wf, Bool.and_eq_true, decide_eq_true_eq, e1, e2] at h
  omega

theorem bulk_length (l : List (DataW H)) : l.length ≤ Rows.uptoBulkAll l := by
  induction l with
  | nil => simp [Rows.uptoBulkAll]
  | cons d r ih =>
    have h1 : 1 ≤ Rows.uptoBulk d := by
      cases d with
      | lit l => cases l <;> simp [Rows.uptoBulk]
      | nil => simp [Rows.uptoBulk]
      | ptr d => simp [Rows.uptoBulk]
      | slice elems spare => simp [Rows.uptoBulk]
      | agg parts => simp [Rows.uptoBulk]
      | iface t d => simp [Rows.uptoBulk]
      | map entries => simp [Rows.uptoBulk]
      | held h => simp [Rows.uptoBulk]
    simp only [Rows.uptoBulkAll, List.length_cons]
    omega

theorem open_bytes (h : DataW.trod enc Try.prog w base spare held fuel 22 cs = some x) :
    ∃ ao cap ys, cs = [.slice ao ys.length cap] ∧ BytesAt w (.slice ao ys.length cap) ys ∧ Octs ys ∧ (∀ B, (DataW.weights Try.prog 22 x.1).all (· ≤ B) = true → ys.length ≤ B) ∧ ys.length + 1 ≤ Rows.uptoBulk x.1 := by
  rcases open_ints Try.underlying22 Try.underlying5 Try.cells_u8 h with ⟨rfl, rfl⟩ | ⟨a, len, cap, zs, rfl, _, hl, hm, hz, rfl, hcell, hwz⟩
  · exact ⟨none, 0, [], rfl, BytesAt.nil w, fun u hu => by simp at hu, fun _ _ => Nat.zero_le _, by simp [Rows.uptoBulk]⟩
  · have hlz : len ≤ zs.length := by rw [hz]; split <;> omega
    have hy : (zs.take len).length = len := by simp; omega
    refine ⟨some a, cap, zs.take len, by rw [hy], ?_, fun u hu => octs_wf hwz u (List.mem_of_mem_take hu), fun B hB => ?_, ?_⟩
    · refine ⟨some a, cap, rfl, by rw [hy]; exact hl, fun e => (by simp at e), fun hne => ?_⟩
      have hpos : 0 < zs.length := by
        rcases Nat.eq_zero_or_pos zs.length with h0 | h0
        · rw [List.eq_nil_of_length_eq_zero h0] at hne; simp at hne
        · exact h0
      obtain ⟨b, off, rfl, hc⟩ := ints_at hcell hpos
      refine ⟨b, off, rfl, fun i u hu => ?_⟩
      have hi : i < (zs.take len).length := (List.getElem?_eq_some_iff.1 hu).1
      rw [hy] at hi
      rw [hc i (by omega)]
      rw [List.getElem?_take_of_lt hi] at hu
      simp [List.getD, hu]
    · rw [hy]
      simp only [DataW.weights, Try.underlying22, Try.bytes_u8, List.all_cons, Bool.and_eq_true, decide_eq_true_eq, lits, List.length_map, List.length_take, List.length_drop] at hB
      omega
    · have h1 := bulk_length (lits (H := H) .u8 (zs.take len))
      simp only [Rows.uptoBulk]
      simp only [lits, List.length_map] at h1 ⊢
      omega
end
end Go.Proofs.Ytmambfdfkobjgaa
