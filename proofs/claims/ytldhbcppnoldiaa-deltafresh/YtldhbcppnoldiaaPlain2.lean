/-
  What was lent is written to.
  WALK: code.copied, for every slice of bytes: a new row that holds the same bytes.
  PLAIN MATHEMATICS, continued: what is found lies within the bytes. No Go text is named here.
-/
import Derived.Test.YtldhbcppnoldiaaLend
import Derived.Maps.AppendAt
import Derived.Test.YtldhbcppnoldiaaConv
import Derived.Test.YtldhbcppnoldiaaPlain
import Derived.Test.YtldhbcppnoldiaaBase
namespace Go.Proofs.Ytldhbcppnoldiaa
open Go.RowKit

theorem Lent.set {w : World} {B g cap : Nat} {ys : List Int} (h : Lent w B g cap ys) (j : Nat) (hj : j < ys.length) (u : Int) : Lent (w.setCell ⟨g, j, none⟩ (.int .u8 u)) B g cap (ys.set j u) := by
  unfold Lent OwnB at *
  rw [List.length_append] at *
  have h1 := (World.ownsRow.stored h j (.int .u8 u)).1
  rw [List.length_set]
  have e : ((ys ++ [165, 90, 165]).map (Value.int .u8)).set j (.int .u8 u) = (ys.set j u ++ [165, 90, 165]).map (Value.int .u8) := by
    rw [← List.map_set, List.set_append_left _ _ hj]
  rw [e] at h1
  exact h1
theorem Lent.frozen {w : World} {B g cap : Nat} {ys : List Int} (h : Lent w B g cap ys) (j : Nat) : w.frozen? ⟨g, j, none⟩ = false := by
  unfold Lent OwnB at h
  rw [List.length_append] at h
  exact World.ownsRow.frozenAt h j

theorem mid_set (zs ys : List Int) (k : Nat) (h : k < zs.length) (hl : ys.length = zs.length) : (zs.take k ++ ys.drop k).set k (zs[k]?.getD 0) = zs.take (k + 1) ++ ys.drop (k + 1) := by
  have hk : (zs.take k).length = k := by simp; omega
  rw [List.set_append_right _ _ (by omega), hk, Nat.sub_self, List.drop_eq_getElem_cons (show k < ys.length by omega), List.set_cons_zero, List.getElem?_eq_getElem h, List.take_succ_eq_append_getElem h, List.append_assoc]
  rfl

end Go.Proofs.Ytldhbcppnoldiaa

namespace Go.Proofs.Ytldhbcppnoldiaa
open Go.RowKit

set_option maxHeartbeats 400000 in
theorem copied_any (v : Value) (ys : List Int) (w : World) (h : BytesAt w v ys) (hm : ys.length ≤ 140737488355328) :
    Calls Try.prog 29 #[v] w fun e w' => e = .returned (.slice (some ⟨w.heap.size, 0, none⟩) ys.length ys.length) ∧
      w'.heap[w.heap.size]? = some (.cells (ys.map (Value.int .u8)).toArray 5 (0, 0)) ∧ Kept [] w w' := by
  obtain ⟨ao, cap, rfl, hc, hnil, hcell⟩ := h
  have hmk := run_make_row' (P := Try.prog) 22 5 (.int .u8 0) 1 Try.underlying22 Try.info_u8 rfl .i64 .i64 ys.length (by omega) (by omega)
  obtain ⟨cs, hcs⟩ : ∃ cs, cs = ys.map (Value.int .u8) := ⟨_, rfl⟩
  have HC : Hid (cs = ys.map (Value.int .u8)) := hcs
  clear hcs
  go_enter Try.func29, Try.ntmps29
  go_wp2_with (refine wpList_copy_splice rfl (.tmp 7) (.tmp 8) 22 22 rfl 5 Try.underlying22 Try.size_u8 _ _ _ _ _ _ rfl rfl w.heap.size 0 (List.replicate ys.length (.int .u8 0)) 5 ?cg cs ?cn ?cp ?cf ?co w.heap.size w ?cb (Nat.le_refl _) ?_)
  case cg => rw [← toList_madeCells_one]; exact heap_alloc_new w _
  case cn => rw [HC.out]; simp
  case cp =>
    intro h0
    rw [HC.out] at h0
    obtain ⟨b, off, rfl, hh⟩ := hcell (by rintro rfl; simp at h0)
    refine ⟨_, rfl, fun j u hu => ?_⟩
    rw [HC.out] at hu
    simp only [List.getElem?_map, Option.map_eq_some_iff] at hu
    obtain ⟨z, hz, rfl⟩ := hu
    rw [Addr.add_mid, World.cell?_alloc_lt]
    · exact hh j z hz
    · exact World.block_lt_of_cell? w _ (hh j z hz)
  case cf => rw [HC.out]; simp
  case co => rw [HC.out]; exact map_oneCell ys
  case cb => exact (Below.refl _ _).alloc (Nat.le_refl _) _
  intro w2 hg hb
  go_wp2
  go_ret
  refine ⟨rfl, ?_, kept_of_below hb⟩
  rw [hg.out, splice_all _ _ _ (by rw [HC.out]; simp), HC.out]

end Go.Proofs.Ytldhbcppnoldiaa

namespace Go.Proofs.Ytldhbcppnoldiaa
open Go.RowKit

structure Fnd.Fits (x : Fnd) (len : Nat) : Prop where
  n0 : 0 ≤ x.n
  n1 : x.n ≤ 18446744073709551615
  frm : x.frm ≤ x.to
  to : x.to ≤ len
  f : x.f ≤ 4
  bad : x.f ≠ 0 → x = ⟨0, 0, 0, x.f⟩

theorem fits_bad (f len : Nat) (h : f ≤ 4) : Fnd.Fits ⟨0, 0, 0, f⟩ len := ⟨Int.le_refl _, (by dsimp only; decide), Nat.le_refl _, Nat.zero_le _, h, fun _ => rfl⟩
theorem varL_fits (ys : List Int) (most : Int) (ho : Octs ys) (hm : most ≤ 18446744073709551615) : Fnd.Fits (varL ys most) ys.length := by
  obtain ⟨g1, g2, g3, g4, g5, g6, g7⟩ := varL_good ys most ho
  refine ⟨g1, ?_, g3, g4, by omega, g6⟩
  by_cases h : (varL ys most).f = 0
  · have := g2 h; omega
  · rw [g6 h]; dsimp only; decide
theorem fixedL_fits (ys : List Int) (size : Nat) (ho : Octs ys) (hs : size ≤ 8) : Fnd.Fits (fixedL ys size) ys.length := by
  unfold fixedL
  split
  · exact fits_bad 1 _ (by decide)
  · rename_i hl
    have h1 := be_from (ys.take size) (octs_take ho size) 0 (by omega)
    have h2 : (ys.take size).length = size := by simp; omega
    have h3 : ∀ k : Nat, k ≤ 8 → (256 : Int) ^ k ≤ 18446744073709551616 := by decide +kernel
    have h4 := h3 size hs
    rw [h2] at h1
    have h5 : be (ys.take size) < (0 + 1) * 256 ^ size := h1.2
    have h6 : 0 ≤ be (ys.take size) := h1.1
    exact ⟨h6, by dsimp only; omega, Nat.le_refl _, by dsimp only; omega, Nat.zero_le _, fun h => absurd rfl h⟩
theorem rawL_fits (ys : List Int) (size : Int) : Fnd.Fits (rawL ys size) ys.length := by
  unfold rawL
  split
  · exact fits_bad 4 _ (by decide)
  · split
    · exact fits_bad 1 _ (by decide)
    · exact ⟨Int.le_refl _, (by dsimp only; decide), Nat.zero_le _, by dsimp only; omega, Nat.zero_le _, fun h => absurd rfl h⟩
theorem bytesL_fits (ys : List Int) (most : Int) (ho : Octs ys) (hm : most ≤ 18446744073709551615) : Fnd.Fits (bytesL ys most) ys.length := by
  obtain ⟨g1, g2, g3, g4, g5, g6⟩ := varL_fits ys most ho hm
  unfold bytesL
  split
  · exact fits_bad _ _ g5
  · split
    · exact fits_bad 1 _ (by decide)
    · exact ⟨g1, g2, by dsimp only; omega, by dsimp only; omega, Nat.zero_le _, fun h => absurd rfl h⟩
theorem lookL_fits (ys : List Int) (kind size most : Int) (ho : Octs ys) (hs : kind = 0 → size ≤ 8) (hm : most ≤ 18446744073709551615) : Fnd.Fits (lookL ys kind size most) ys.length := by
  unfold lookL
  split
  · rename_i h; exact fixedL_fits ys _ ho (by have := hs h; omega)
  · split
    · exact varL_fits ys most ho hm
    · split
      · exact bytesL_fits ys most ho hm
      · exact rawL_fits ys size

/-- A piece of a row of bytes. -/
theorem BytesAt.seg {w : World} {g : Nat} {t : TypeId} {xs : List Int} (h : w.heap[g]? = some (.cells (xs.map (Value.int .u8)).toArray t (0, 0))) (lo n cap : Nat) (hn : lo + n ≤ xs.length) (hc : n ≤ cap) :
    BytesAt w (.slice (some ⟨g, lo, none⟩) n cap) ((xs.drop lo).take n) := by
  have hl : ((xs.drop lo).take n).length = n := by simp; omega
  refine ⟨some ⟨g, lo, none⟩, cap, by rw [hl], by rw [hl]; exact hc, fun e => (by simp at e), fun _ => ⟨g, lo, rfl, fun i u hu => ?_⟩⟩
  rw [cell_of_row w g (lo + i) _ t _ h]
  have hi : i < n := by have := (List.getElem?_eq_some_iff.1 hu).1; omega
  rw [List.getElem?_take_of_lt hi, List.getElem?_drop] at hu
  simp only [List.getElem?_toArray, List.getElem?_map, hu, Option.map_some]
theorem BytesAt.none' {w : World} (ao : Option Addr) (cap : Nat) (hc : ao = none → cap = 0) : BytesAt w (.slice ao 0 cap) [] := ⟨ao, cap, rfl, Nat.zero_le _, hc, fun h => absurd rfl h⟩
theorem BytesAt.drewN {w : World} {v : Value} {ys : List Int} (h : BytesAt w v ys) (n : Nat) : BytesAt (w.drewN n) v ys := h.kept (S := []) ((Kept.refl _ _).drewN n) (fun _ _ => by simp)

end Go.Proofs.Ytldhbcppnoldiaa
