/-
  WALKS: (object.tag).children, object.readTag.
-/
import Derived.Test.YtmambfdfkobjgaaGreatDoorTag1
import Derived.Great.BuildSlice
namespace Go.Proofs.YtmambfdfkobjgaaGreatDoor
open Go.RowKit

theorem fill_nil (place : Nat → Option (Nat × Nat)) (cells : Array Value) : Instr.fill place cells [] = some cells := rfl
set_option maxRecDepth 100000 in
theorem wpList_build_link1 {ops : Array Oper} {rest : List Oper} {o : Oper} {a : Act} {w : World} {Q : Exit → Act → World → Prop} (hgd : o.guard = none) (x : Operand) (ho : o.op = .buildSlice 47 1 #[(0, x)])
    (k : LinkL) (hg : k.id.length = 32) (hx : a.eval x = .agg k.row.toArray)
    (h : wpList Tryz.prog ops Q rest (a.put o.dst (.slice (some ⟨w.heap.size, 0, none⟩) 1 1)) (w.alloc (.cells k.row.toArray 52))) : wpList Tryz.prog ops Q (o :: rest) a w := by
  obtain ⟨i0, hi, he⟩ := Option.map_eq_some_iff.1 Tryz.zeroLink
  simp only [Prod.mk.injEq] at he
  obtain ⟨hz0, hz1, hz2⟩ := he
  have hkl : k.row.length = 33 := by simp [LinkL.row, hg]
  refine wpList_buildSlice hgd 47 52 1 _ ho k.row.toArray i0 (.agg zeroK.row.toArray) Tryz.underlying47 hi hz0 (by rw [hz1]; decide) (by rw [hz1]; decide) ?_ h
  rw [hz1]
  have e1 : ((#[(0, x)] : Array (Nat × Operand)).map fun (i, x) => (i, a.eval x)).toList = [(0, .agg k.row.toArray)] := by simp [hx]
  rw [e1, fill_step (fun i => some (i * 33, 33)) _ 0 (.agg k.row.toArray) _ 0 33 rfl (by show k.row.toArray.size = 33; rw [List.size_toArray, hkl]) (by simp)]
  rw [fill_nil]
  refine congrArg some ?_
  have e2 : (Value.agg k.row.toArray).cells.toList = k.row := rfl
  rw [e2]
  obtain ⟨s1, s2⟩ := setL_spec k.row 0 ((Array.range (1 * 33)).map ((Value.agg zeroK.row.toArray).cells[· % (Value.agg zeroK.row.toArray).cells.size]!))
  apply Array.ext_getElem?
  intro j
  have e3 : k.row.toArray[j]? = k.row[j]? := by simp
  rw [s2 j, e3, hkl, Array.size_map, Array.size_range]
  by_cases hj : j < 33
  · rw [if_pos ⟨Nat.zero_le _, by omega, by omega⟩, Nat.sub_zero]
  · rw [if_neg (by omega), List.getElem?_eq_none (by omega), Array.getElem?_eq_none (by rw [Array.size_map, Array.size_range]; omega)]

set_option maxRecDepth 100000 in
set_option maxHeartbeats 1000000 in
theorem tagChildren_any (t : TagL) (w : World) (hg : t.Good) :
    Calls Tryz.prog 133 #[.agg t.row.toArray] w fun e w' => ∃ b, e = .returned (.slice (some ⟨b, 0, none⟩) 1 1) ∧ RowsIn w' b 52 [(LinkL.mk t.target t.kind).row] ∧ w.heap.size ≤ b ∧ Kept [] w w' := by
  obtain ⟨c0, c1, c2, c3, c4, c5⟩ := tag_cells hg.target.1 (heap_alloc_new w (.cells t.row.toArray 91))
  have hbl := built_link t.target hg.target.1 t.kind
  have hsi : (Tryz.prog.info? 31).map (·.size) = some (t.target.map (Value.int .u8)).length := by rw [List.length_map, hg.target.1]; exact Tryz.infoID
  have hmid : (t.target.map (Value.int .u8)).toArray = idC t.target := rfl
  have hl := hg.target.1
  clear hg
  generalize t.row.toArray = tr at *
  have HF : Hid (RowsIn ((w.alloc (.cells tr 91)).alloc (.cells (LinkL.mk t.target t.kind).row.toArray 52)) (w.heap.size + 1) 52 [(LinkL.mk t.target t.kind).row]) := by
    have h := heap_alloc_new (w.alloc (.cells tr 91)) (.cells (LinkL.mk t.target t.kind).row.toArray 52)
    rw [World.size_alloc] at h
    unfold RowsIn
    rw [List.flatten_singleton]
    exact h
  go_enter Tryz.func133, Tryz.ntmps133
  go_wp2_with (first
    | (refine wpList_load_mid (by rfl) 31 (.tmp 3) (by rfl) w.heap.size 0 (by rfl) (t.target.map (Value.int .u8)) _ c0 Tryz.underlying31 rfl hsi ?_; rw [hmid])
    | (refine wpList_build_some (by rfl) 52 _ (by rfl) (LinkL.mk t.target t.kind).row.toArray (by simp; exact hbl) ?_)
    | (refine wpList_build_link1 (by rfl) (.tmp 7) (by rfl) (LinkL.mk t.target t.kind) hl (by rfl) ?_))
  go_ret
  exact ⟨w.heap.size + 1, by simp, HF.out, by omega, ((Kept.refl _ _).alloc _).alloc _⟩

/-- A Reader, and two variables beside it, since w0. -/
structure RV (w0 W : World) (r g : Nat) (xs : List Int) (p q b0 b1 : Nat) (c0 c1 : Array Value) (ty : TypeId) : Prop where
  rd : Rdr W r g xs p q
  v0 : W.heap[b0]? = some (.cells c0 ty (0, 0))
  v1 : W.heap[b1]? = some (.cells c1 ty (0, 0))
  keep : Kept [r] w0 W
  a0 : w0.heap.size ≤ b0
  a1 : b0 < b1
  rl : r < w0.heap.size
  gl : g < w0.heap.size
section
variable {w0 W W' : World} {r g : Nat} {xs : List Int} {p q p' q' b0 b1 : Nat} {c0 c1 : Array Value} {ty : TypeId}
theorem RV.step (h : RV w0 W r g xs p q b0 b1 c0 c1 ty) (hr : Rdr W' r g xs p' q') (k : Kept [r] W W') : RV w0 W' r g xs p' q' b0 b1 c0 c1 ty :=
  ⟨hr, k.heap h.v0 (by have := h.a0; have := h.rl; simp; omega), k.heap h.v1 (by have := h.a0; have := h.a1; have := h.rl; simp; omega), h.keep.then k, h.a0, h.a1, h.rl, h.gl⟩
theorem RV.set (h : RV w0 W r g xs p q b0 b1 c0 c1 ty) (o : Nat) (v : Value) : RV w0 (W.setCell ⟨b1, o, none⟩ v) r g xs p q b0 b1 c0 (c1.setIfInBounds o v) ty := by
  have h1 := h.a0
  have h2 := h.a1
  have h3 := h.rl
  have h4 := h.gl
  have k : Kept [b1] W (W.setCell ⟨b1, o, none⟩ v) := (Kept.refl _ _).setCell (Or.inl (by simp)) _
  exact ⟨h.rd.kept k (by simp; omega) (by simp; omega), k.heap h.v0 (by simp; omega), heap_setCell_same _ _ _ _ _ _ h.v1, h.keep.setCell (Or.inr (by show w0.heap.size ≤ b1; omega)) _, h1, h2, h3, h4⟩
end

def zeroG : TagL := ⟨zero32, 0, [], [], 0, []⟩
theorem Tryz.zeroTag : (Tryz.prog.info? 91).map (fun i => (i.zero, i.size)) = some (some (.agg zeroG.row.toArray), 37) := by kernel_rfl
theorem Tryz.builtTag (parts : List (Nat × Value)) : Tryz.prog.built 91 parts = Instr.fill (fun i => (#[(0, 32), (32, 1), (33, 1), (34, 1), (35, 1), (36, 1)] : Array (Nat × Nat))[i]?) zeroG.row.toArray parts := by kernel_rfl
theorem built_tag (id : List Int) (hi : id.length = 32) : Tryz.prog.built 91 [(0, .agg (idC id))] = some (TagL.mk id 0 [] [] 0 []).row.toArray := by
  rw [Tryz.builtTag, fill_step (fun i => (#[(0, 32), (32, 1), (33, 1), (34, 1), (35, 1), (36, 1)] : Array (Nat × Nat))[i]?) zeroG.row.toArray 0 (.agg (idC id)) _ 0 32 rfl (idC_size hi) (by decide), fill_nil]
  have e : (Value.agg (idC id)).cells.toList = id.map (Value.int .u8) := rfl
  rw [e, setL_put _ _ _ (by rw [List.length_map, hi]; decide)]
  congr 2
  unfold putL TagL.row zeroG
  simp [zero32, hi]
theorem tag_set (t : TagL) (hl : t.target.length = 32) : (∀ k, t.row.toArray.setIfInBounds 32 (.int .i64 k) = ({ t with kind := k } : TagL).row.toArray) ∧ (∀ s, t.row.toArray.setIfInBounds 33 (.string (strOfNums s)) = ({ t with name := s } : TagL).row.toArray) ∧
    (∀ s, t.row.toArray.setIfInBounds 34 (.string (strOfNums s)) = ({ t with who := s } : TagL).row.toArray) ∧ (∀ k, t.row.toArray.setIfInBounds 35 (.int .u64 k) = ({ t with time := k } : TagL).row.toArray) ∧
    (∀ s, t.row.toArray.setIfInBounds 36 (.string (strOfNums s)) = ({ t with text := s } : TagL).row.toArray) := by
  have hm : (t.target.map (Value.int .u8)).length = 32 := by rw [List.length_map, hl]
  refine ⟨fun k => ?_, fun k => ?_, fun k => ?_, fun k => ?_, fun k => ?_⟩
  all_goals
    unfold TagL.row
    rw [List.setIfInBounds_toArray, List.set_append_right _ _ (by omega), hm]
    rfl
theorem tag_len (t : TagL) (hl : t.target.length = 32) : t.row.toArray.size = 37 := by simp [TagL.row, hl]
theorem tag_one (t : TagL) : t.row.toArray.all (·.oneCell') = true := all_oneCell_toArray fun v hv => by
  unfold TagL.row at hv
  rcases List.mem_append.1 hv with h | h
  · exact map_oneCell _ v h
  · simp at h
    rcases h with rfl | rfl | rfl | rfl | rfl <;> rfl
end Go.Proofs.YtmambfdfkobjgaaGreatDoor
