/-
  The document's own Reader (satchelref1.Eye): what it is, and its calls Left, End and Raw; satchelref0.Copy.
-/
import Derived.Test.YtkhcofdcokngkaaReader
import Derived.Deep.RegionWith
namespace Go.Proofs.Ytkhcofdcokngkaa
open Go.RowKit

set_option maxHeartbeats 400000 in
theorem Copy_any (v : Value) (ys : List Int) (w : World) (h : BytesAt w v ys) (hm : ys.length ≤ 140737488355328) :
    Calls Try.prog 16 #[v] w fun e w' => e = .returned (.slice (some ⟨w.heap.size, 0, none⟩) ys.length ys.length) ∧
      w'.heap[w.heap.size]? = some (.cells (ys.map (Value.int .u8)).toArray 5 (0, 0)) ∧ Kept [] w w' := by
  obtain ⟨ao, cap, rfl, hc, hnil, hcell⟩ := h
  have hmk := run_make_row' (P := Try.prog) 31 5 (.int .u8 0) 1 Try.underlying31 Try.info_u8 rfl .i64 .i64 ys.length (by omega) (by omega)
  obtain ⟨cs, hcs⟩ : ∃ cs, cs = ys.map (Value.int .u8) := ⟨_, rfl⟩
  have HC : Hid (cs = ys.map (Value.int .u8)) := hcs
  clear hcs
  go_enter Try.func16, Try.ntmps16
  go_wp2_with (refine wpList_copy_splice rfl (.tmp 7) (.tmp 8) 31 31 rfl 5 Try.underlying31 Try.size_u8 _ _ _ _ _ _ rfl rfl w.heap.size 0 (List.replicate ys.length (.int .u8 0)) 5 ?cg cs ?cn ?cp ?cf ?co w.heap.size w ?cb (Nat.le_refl _) ?_)
  case cg => rw [← toList_madeCells_one]; exact heap_alloc_new w _
  case cn => rw [HC.out]; simp
  case cp =>
    intro h0
    rw [HC.out] at h0
    obtain ⟨b, off, rfl, hh⟩ := hcell (by rintro rfl; simp at h0)
    refine ⟨_, rfl, fun j u hu => ?_⟩
    rw [HC.out] at hu
    simp only [List.getElem?_map, Option.map_eq_some_iff] at hu
    obtain ⟨z, hz, rfl⟩ := hu
    rw [Addr.add_mid, World.cell?_alloc_lt]
    · exact hh j z hz
    · exact World.block_lt_of_cell? w _ (hh j z hz)
  case cf => rw [HC.out]; simp
  case co => rw [HC.out]; exact map_oneCell ys
  case cb => exact (Below.refl _ _).alloc (Nat.le_refl _) _
  intro w2 hg hb
  go_wp2
  go_ret
  refine ⟨rfl, ?_, kept_of_below hb⟩
  rw [hg.out, splice_all _ _ _ (by rw [HC.out]; simp), HC.out]

/-- An Eye at b over the bytes xs, which lie in the block g. -/
structure EyeAt (w : World) (b g : Nat) (xs : List Int) (pl f : Nat) : Prop where
  blk : w.heap[b]? = some (.cells #[.slice (some ⟨g, 0, none⟩) xs.length xs.length, .int .i64 pl, .int .i64 (errL f)] 58 (0, 0))
  row : w.heap[g]? = some (.cells (xs.map (Value.int .u8)).toArray 5 (0, 0))
  ne : b ≠ g
  le : pl ≤ xs.length
  small : xs.length ≤ 140737488355328
  oct : Octs xs
  bad : f ≤ 4

theorem EyeAt.kept {w w' : World} {b g : Nat} {xs : List Int} {pl f : Nat} {S : List Nat} (R : EyeAt w b g xs pl f) (k : Kept S w w') (h1 : b ∉ S) (h2 : g ∉ S) : EyeAt w' b g xs pl f :=
  ⟨k.heap R.blk h1, k.heap R.row h2, R.ne, R.le, R.small, R.oct, R.bad⟩
theorem EyeAt.facts {w : World} {b g : Nat} {xs : List Int} {pl f : Nat} (R : EyeAt w b g xs pl f) :
    w.cell? ⟨b, 0, none⟩ = some (.slice (some ⟨g, 0, none⟩) xs.length xs.length) ∧ w.cell? ⟨b, 1, none⟩ = some (.int .i64 pl) ∧ w.cell? ⟨b, 2, none⟩ = some (.int .i64 (errL f)) ∧
      (∀ o, w.frozen? ⟨b, o, none⟩ = false) ∧ b < w.heap.size :=
  ⟨cell_of_row _ _ _ _ _ _ R.blk, cell_of_row _ _ _ _ _ _ R.blk, cell_of_row _ _ _ _ _ _ R.blk, fun _ => frozen_of_row _ _ _ _ _ R.blk, lt_of_block R.blk⟩
theorem EyeAt.setBad {w : World} {b g : Nat} {xs : List Int} {pl f : Nat} (R : EyeAt w b g xs pl f) (f' : Nat) (h : f' ≤ 4) : EyeAt (w.setCell ⟨b, 2, none⟩ (.int .i64 (errL f'))) b g xs pl f' :=
  ⟨heap_setCell_same _ _ _ _ _ _ R.blk, (heap_setCell_other _ _ _ _ (Ne.symm R.ne)).trans R.row, R.ne, R.le, R.small, R.oct, h⟩
theorem EyeAt.setPlace {w : World} {b g : Nat} {xs : List Int} {pl f : Nat} (R : EyeAt w b g xs pl f) (pl' : Nat) (h : pl' ≤ xs.length) : EyeAt (w.setCell ⟨b, 1, none⟩ (.int .i64 pl')) b g xs pl' f :=
  ⟨heap_setCell_same _ _ _ _ _ _ R.blk, (heap_setCell_other _ _ _ _ (Ne.symm R.ne)).trans R.row, R.ne, h, R.small, R.oct, R.bad⟩
theorem EyeAt.drewN {w : World} {b g : Nat} {xs : List Int} {pl f : Nat} (R : EyeAt w b g xs pl f) (n : Nat) : EyeAt (w.drewN n) b g xs pl f := R.kept (S := []) ((Kept.refl _ _).drewN n) (by simp) (by simp)
theorem errL_ne (f : Nat) (h : f ≤ 4) (h0 : f ≠ 0) : errL f ≠ 0 := by
  have : ∀ f : Nat, f ≤ 4 → f ≠ 0 → errL f ≠ 0 := by decide
  exact this f h h0
theorem errL_fits (f : Nat) (h : f ≤ 4) : 0 ≤ errL f ∧ errL f ≤ 14 := by
  have : ∀ f : Nat, f ≤ 4 → 0 ≤ errL f ∧ errL f ≤ 14 := by decide
  exact this f h

theorem ELeft_any {w : World} {b g : Nat} {xs : List Int} {pl f : Nat} (R : EyeAt w b g xs pl f) : Calls Try.prog 64 #[.pointer (some ⟨b, 0, none⟩)] w fun e w' => e = .returned (.int .i64 ((xs.length : Int) - pl)) ∧ ∃ n, w' = w.drewN n := by
  obtain ⟨d0, d1, d2, d3, d4⟩ := R.facts
  have hle := R.le
  have hsm := R.small
  clear R
  go_enter Try.func64, Try.ntmps64
  go_wp2
  go_quiet (fail)
  go_wp2
  go_ret
  exact ⟨rfl, _, rfl⟩

set_option maxHeartbeats 400000 in
theorem EEnd_any {w : World} {b g : Nat} {xs : List Int} {pl f : Nat} (R : EyeAt w b g xs pl f) : Calls Try.prog 30 #[.pointer (some ⟨b, 0, none⟩)] w fun e w' =>
    e = .returned (.int .i64 (if f ≠ 0 then errL f else if pl < xs.length then 13 else 0)) ∧ ∃ n, w' = w.drewN n := by
  obtain ⟨d0, d1, d2, d3, d4⟩ := R.facts
  have hleft0 := ELeft_any R
  have hle := R.le
  have hb := R.bad
  clear R
  by_cases h0 : f = 0
  · subst h0
    rw [if_neg (by decide)]
    have e0 : errL 0 = 0 := rfl
    rw [e0] at d2
    by_cases h1 : pl < xs.length
    · rw [if_pos h1]
      go_enter Try.func30, Try.ntmps30
      go_wp2_with (go_at_call 64; refine hleft0.mono ?_; rintro e w1 ⟨rfl, n, rfl⟩)
      go_ret
      exact ⟨rfl, _, rfl⟩
    · rw [if_neg h1]
      go_enter Try.func30, Try.ntmps30
      go_wp2_with (go_at_call 64; refine hleft0.mono ?_; rintro e w1 ⟨rfl, n, rfl⟩)
      go_ret
      exact ⟨rfl, _, rfl⟩
  · rw [if_pos h0]
    have h1 := errL_ne f hb h0
    generalize errL f = z at *
    have hz : (z == 0) = false := by simpa using h1
    clear h0
    go_enter Try.func30, Try.ntmps30
    go_wp2
    go_ret
    exact ⟨rfl, 0, rfl⟩

end Go.Proofs.Ytkhcofdcokngkaa
