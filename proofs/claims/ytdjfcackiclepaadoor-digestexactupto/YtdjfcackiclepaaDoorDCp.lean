/-
  WALKS: satchelref0.Copy; a slice of bytes cut in the midst; values in a walk.
-/
import Derived.Test.YtdjfcackiclepaaDoorSha9
import Derived.Test.YtdjfcackiclepaaDoorIdEq
import Derived.Test.YtdjfcackiclepaaDoorLend
import Derived.Test.YtdjfcackiclepaaDoorQuietId
namespace Go.Proofs.YtdjfcackiclepaaDoor
open Go.RowKit

set_option maxHeartbeats 400000 in
theorem Copy0_any (v : Value) (ys : List Int) (w : World) (h : BytesAt w v ys) (hm : ys.length ≤ 140737488355328) :
    Calls Tryd.prog 26 #[v] w fun e w' => e = .returned (.slice (some ⟨w.heap.size, 0, none⟩) ys.length ys.length) ∧
      w'.heap[w.heap.size]? = some (.cells (ys.map (Value.int .u8)).toArray 5 (0, 0)) ∧ Kept [] w w' := by
  obtain ⟨ao, cap, rfl, hc, hnil, hcell⟩ := h
  have hmk := run_make_row' (P := Tryd.prog) 24 5 (.int .u8 0) 1 Tryd.underlying24 Tryd.info_u8 rfl .i64 .i64 ys.length (by omega) (by omega)
  obtain ⟨cs, hcs⟩ : ∃ cs, cs = ys.map (Value.int .u8) := ⟨_, rfl⟩
  have HC : Hid (cs = ys.map (Value.int .u8)) := hcs
  clear hcs
  go_enter Tryd.func26, Tryd.ntmps26
  go_wp2_with (refine wpList_copy_splice rfl (.tmp 7) (.tmp 8) 24 24 rfl 5 Tryd.underlying24 Tryd.size_u8 _ _ _ _ _ _ rfl rfl w.heap.size 0 (List.replicate ys.length (.int .u8 0)) 5 ?cg cs ?cn ?cp ?cf ?co w.heap.size w ?cb (Nat.le_refl _) ?_)
  case cg => rw [← toList_madeCells_one]; exact heap_alloc_new w _
  case cn => rw [HC.out]; simp
  case cp =>
    intro h0
    rw [HC.out] at h0
    obtain ⟨b, off, rfl, hh⟩ := hcell (by rintro rfl; simp at h0)
    refine ⟨_, rfl, fun j u hu => ?_⟩
    rw [HC.out] at hu
    simp only [List.getElem?_map, Option.map_eq_some_iff] at hu
    obtain ⟨z, hz, rfl⟩ := hu
    rw [Addr.add_mid, World.cell?_alloc_lt]
    · exact hh j z hz
    · exact World.block_lt_of_cell? w _ (hh j z hz)
  case cf => rw [HC.out]; simp
  case co => rw [HC.out]; exact map_oneCell ys
  case cb => exact (Below.refl _ _).alloc (Nat.le_refl _) _
  intro w2 hg hb
  go_wp2
  go_ret
  refine ⟨rfl, ?_, kept_of_below hb⟩
  rw [hg.out, splice_all _ _ _ (by rw [HC.out]; simp), HC.out]

/-- The numbers of a list of integers in memory. -/
def IntsAt (w : World) (co : Option Addr) (cs : List Int) : Prop := cs ≠ [] → ∃ b off, co = some ⟨b, off, none⟩ ∧ ∀ j u, cs[j]? = some u → w.cell? ⟨b, off + j, none⟩ = some (.int .i64 u)

/-- An operation that gives a value. -/
theorem wpList_val {P : Program} {ops : Array Oper} {rest : List Oper} {o : Oper} {a : Act} {w : World} {Q : Exit → Act → World → Prop} (hgd : o.guard = none) (v : Value) (hv : (execOp a.eval o).run P w = .ok (.value v) w)
    (h : wpList P ops Q rest (a.put o.dst v) w) : wpList P ops Q (o :: rest) a w := by
  refine wpList_plain hgd fun K hK => ?_
  unfold Oper.wp
  rw [hv]
  exact hK _ _ h

theorem block_add (a : Addr) (n : Nat) : (a.add n).block = a.block := by
  unfold Addr.add
  split <;> rfl
/-- Bytes cut in the midst: whatever they lie in. -/
theorem BytesAt.cut {w : World} {v : Value} {xs : List Int} (h : BytesAt w v xs) (l m : Nat) (hm : l + m ≤ xs.length) :
    ∃ p, (∀ W, (Instr.slice 24 v (some (.int .i64 l)) (some (.int .i64 ((l + m : Nat) : Int))) none).run Tryd.prog W = .ok p W) ∧ BytesAt w p ((xs.drop l).take m) ∧ (∀ q, blkOf p = some q → blkOf v = some q) := by
  obtain ⟨ao, cap, rfl, hc, hnil, hcell⟩ := h
  have hu : Tryd.prog.underlying 24 = some (.slice (Tryd.prog.elem 24)) := by kernel_rfl
  have h1 : ∀ W : World, (sizeOf (Tryd.prog.elem 24)).run Tryd.prog W = .ok 1 W := fun W => by kernel_rfl
  refine ⟨.slice (if cap = l then ao else ao.map (·.add l)) m (cap - l), fun W => ?_, ?_, ?_⟩
  · rw [run_slice_lh W 24 ao xs.length cap hu .i64 .i64 l ((l + m : Nat) : Int) (by omega) (by omega) (by omega), h1 W]
    simp only [Result.andThen_ok, sliced, Int.toNat_natCast, Nat.mul_one]
    rw [show l + m - l = m by omega]
  · have hl : ((xs.drop l).take m).length = m := by simp; omega
    refine ⟨if cap = l then ao else ao.map (·.add l), cap - l, by rw [hl], by rw [hl]; omega, ?_, ?_⟩
    · intro hn
      by_cases hcl : cap = l
      · omega
      · rw [if_neg hcl] at hn
        cases ao with
        | none => have := hnil rfl; omega
        | some a => cases hn
    · intro hne
      have hm0 : 0 < m := by
        rcases Nat.eq_zero_or_pos m with h | h
        · subst h; simp at hne
        · exact h
      have hxs : xs ≠ [] := by rintro rfl; simp at hm; omega
      obtain ⟨b, off, rfl, hh⟩ := hcell hxs
      refine ⟨b, off + l, ?_, fun i u hu => ?_⟩
      · rw [if_neg (by omega), Option.map_some, Addr.add_mid]
      · have hu' : xs[l + i]? = some u := by
          rw [List.getElem?_take] at hu
          split at hu
          · rwa [List.getElem?_drop] at hu
          · cases hu
        have := hh _ _ hu'
        rwa [← Nat.add_assoc] at this
  · intro q hq
    by_cases hcl : cap = l
    · rw [if_pos hcl] at hq
      cases ao with
      | none => cases hq
      | some a => exact hq
    · rw [if_neg hcl] at hq
      cases ao with
      | none => cases hq
      | some a =>
        have e : blkOf (.slice (some (a.add l)) m (cap - l)) = blkOf (.slice (some a) xs.length cap) := by
          show some (a.add l).block = some a.block
          rw [block_add]
        exact e ▸ hq

/-- The beginning of bytes. -/
theorem BytesAt.cutTo {w : World} {v : Value} {xs : List Int} (h : BytesAt w v xs) (m : Nat) (hm : m ≤ xs.length) :
    ∃ p, (∀ W, (Instr.slice 24 v none (some (.int .i64 m)) none).run Tryd.prog W = .ok p W) ∧ BytesAt w p (xs.take m) := by
  obtain ⟨p, h1, h2, _⟩ := h.cut 0 m (by omega)
  obtain ⟨ao, cap, rfl, hc, hnil, hcell⟩ := h
  have hu : Tryd.prog.underlying 24 = some (.slice (Tryd.prog.elem 24)) := by kernel_rfl
  have e : ∀ W, (Instr.slice 24 (.slice ao xs.length cap) none (some (.int .i64 m)) none).run Tryd.prog W = (Instr.slice 24 (.slice ao xs.length cap) (some (.int .i64 ((0 : Nat) : Int))) (some (.int .i64 ((0 + m : Nat) : Int))) none).run Tryd.prog W := fun W => by
    rw [run_slice_lh W 24 ao xs.length cap hu .i64 .i64 _ _ (by omega) (by omega) (by omega), run_slice_h W 24 ao xs.length cap hu .i64 _ (by omega) (by omega), Nat.zero_add]
    rfl
  refine ⟨p, fun W => (e W).trans (h1 W), ?_⟩
  rwa [List.drop_zero] at h2

theorem wpList_cut {ops : Array Oper} {rest : List Oper} {o : Oper} {a : Act} {w : World} {Q : Exit → Act → World → Prop} (hgd : o.guard = none) (x lo hi : Operand) (ho : o.op = .slice 24 x (some lo) (some hi) none) (v : Value) (hx : a.eval x = v)
    (l n : Int) (hlo : a.eval lo = .int .i64 l) (hhi : a.eval hi = .int .i64 n) (p : Value) (hp : ∀ W, (Instr.slice 24 v (some (.int .i64 l)) (some (.int .i64 n)) none).run Tryd.prog W = .ok p W)
    (h : wpList Tryd.prog ops Q rest (a.put o.dst p) w) : wpList Tryd.prog ops Q (o :: rest) a w := by
  have hu : Tryd.prog.underlying 24 = some (.slice (Tryd.prog.elem 24)) := by kernel_rfl
  refine wpList_val hgd p ?_ h
  unfold execOp
  simp only [ho, hx, hlo, hhi, Option.map_some, Option.map_none]
  simp [run_sliceAt_slice w 24 _ _ _ _ hu, hp, Result.andThen]
end Go.Proofs.YtdjfcackiclepaaDoor
