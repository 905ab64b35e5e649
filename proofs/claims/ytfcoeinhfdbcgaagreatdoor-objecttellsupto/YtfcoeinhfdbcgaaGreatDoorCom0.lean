/-
  WALKS: (object.tag).children, object.readTag.
  APPEND of one struct of k cells to a list of one's own; a list of one struct made anew.
  WALK: object.readTag.
  WALKS: slices.Index, slices.Contains of ids; commits: (object.commit).fault.
-/
import Derived.Test.YtfcoeinhfdbcgaaGreatDoorTag1
import Derived.Great.BuildSlice
import Derived.Maps.AppendAt
import Derived.Deep.RegionLaw
import Derived.Test.YtfcoeinhfdbcgaaGreatDoorRCopy
namespace Go.Proofs.YtfcoeinhfdbcgaaGreatDoor
open Go.RowKit

theorem fill_nil (place : Nat → Option (Nat × Nat)) (cells : Array Value) : Instr.fill place cells [] = some cells := rfl
set_option maxRecDepth 100000 in
theorem wpList_build_link1 {ops : Array Oper} {rest : List Oper} {o : Oper} {a : Act} {w : World} {Q : Exit → Act → World → Prop} (hgd : o.guard = none) (x : Operand) (ho : o.op = .buildSlice 47 1 #[(0, x)])
    (k : LinkL) (hg : k.id.length = 32) (hx : a.eval x = .agg k.row.toArray)
    (h : wpList Tryz.prog ops Q rest (a.put o.dst (.slice (some ⟨w.heap.size, 0, none⟩) 1 1)) (w.alloc (.cells k.row.toArray 52))) : wpList Tryz.prog ops Q (o :: rest) a w := by
  obtain ⟨i0, hi, he⟩ := Option.map_eq_some_iff.1 Tryz.zeroLink
  simp only [Prod.mk.injEq] at he
  obtain ⟨hz0, hz1, hz2⟩ := he
  have hkl : k.row.length = 33 := by simp [LinkL.row, hg]
  refine wpList_buildSlice hgd 47 52 1 _ ho k.row.toArray i0 (.agg zeroK.row.toArray) Tryz.underlying47 hi hz0 (by rw [hz1]; decide) (by rw [hz1]; decide) ?_ h
  rw [hz1]
  have e1 : ((#[(0, x)] : Array (Nat × Operand)).map fun (i, x) => (i, a.eval x)).toList = [(0, .agg k.row.toArray)] := by simp [hx]
  rw [e1, fill_step (fun i => some (i * 33, 33)) _ 0 (.agg k.row.toArray) _ 0 33 rfl (by show k.row.toArray.size = 33; rw [List.size_toArray, hkl]) (by simp)]
  rw [fill_nil]
  refine congrArg some ?_
  have e2 : (Value.agg k.row.toArray).cells.toList = k.row := rfl
  rw [e2]
  obtain ⟨s1, s2⟩ := setL_spec k.row 0 ((Array.range (1 * 33)).map ((Value.agg zeroK.row.toArray).cells[· % (Value.agg zeroK.row.toArray).cells.size]!))
  apply Array.ext_getElem?
  intro j
  have e3 : k.row.toArray[j]? = k.row[j]? := by simp
  rw [s2 j, e3, hkl, Array.size_map, Array.size_range]
  by_cases hj : j < 33
  · rw [if_pos ⟨Nat.zero_le _, by omega, by omega⟩, Nat.sub_zero]
  · rw [if_neg (by omega), List.getElem?_eq_none (by omega), Array.getElem?_eq_none (by rw [Array.size_map, Array.size_range]; omega)]

set_option maxRecDepth 100000 in
set_option maxHeartbeats 1000000 in
theorem tagChildren_any (t : TagL) (w : World) (hg : t.Good) :
    Calls Tryz.prog 134 #[.agg t.row.toArray] w fun e w' => ∃ b, e = .returned (.slice (some ⟨b, 0, none⟩) 1 1) ∧ RowsIn w' b 52 [(LinkL.mk t.target t.kind).row] ∧ w.heap.size ≤ b ∧ Kept [] w w' := by
  obtain ⟨c0, c1, c2, c3, c4, c5⟩ := tag_cells hg.target.1 (heap_alloc_new w (.cells t.row.toArray 91))
  have hbl := built_link t.target hg.target.1 t.kind
  have hsi : (Tryz.prog.info? 29).map (·.size) = some (t.target.map (Value.int .u8)).length := by rw [List.length_map, hg.target.1]; exact Tryz.infoID
  have hmid : (t.target.map (Value.int .u8)).toArray = idC t.target := rfl
  have hl := hg.target.1
  clear hg
  generalize t.row.toArray = tr at *
  have HF : Hid (RowsIn ((w.alloc (.cells tr 91)).alloc (.cells (LinkL.mk t.target t.kind).row.toArray 52)) (w.heap.size + 1) 52 [(LinkL.mk t.target t.kind).row]) := by
    have h := heap_alloc_new (w.alloc (.cells tr 91)) (.cells (LinkL.mk t.target t.kind).row.toArray 52)
    rw [World.size_alloc] at h
    unfold RowsIn
    rw [List.flatten_singleton]
    exact h
  go_enter Tryz.func134, Tryz.ntmps134
  go_wp2_with (first
    | (refine wpList_load_mid (by rfl) 29 (.tmp 3) (by rfl) w.heap.size 0 (by rfl) (t.target.map (Value.int .u8)) _ c0 Tryz.underlying29 rfl hsi ?_; rw [hmid])
    | (refine wpList_build_some (by rfl) 52 _ (by rfl) (LinkL.mk t.target t.kind).row.toArray (by simp; exact hbl) ?_)
    | (refine wpList_build_link1 (by rfl) (.tmp 7) (by rfl) (LinkL.mk t.target t.kind) hl (by rfl) ?_))
  go_ret
  exact ⟨w.heap.size + 1, by simp, HF.out, by omega, ((Kept.refl _ _).alloc _).alloc _⟩

/-- A Reader, and two variables beside it, since w0. -/
structure RV (w0 W : World) (r g : Nat) (xs : List Int) (p q b0 b1 : Nat) (c0 c1 : Array Value) (ty : TypeId) : Prop where
  rd : Rdr W r g xs p q
  v0 : W.heap[b0]? = some (.cells c0 ty (0, 0))
  v1 : W.heap[b1]? = some (.cells c1 ty (0, 0))
  keep : Kept [r] w0 W
  a0 : w0.heap.size ≤ b0
  a1 : b0 < b1
  rl : r < w0.heap.size
  gl : g < w0.heap.size
section
variable {w0 W W' : World} {r g : Nat} {xs : List Int} {p q p' q' b0 b1 : Nat} {c0 c1 : Array Value} {ty : TypeId}
theorem RV.step (h : RV w0 W r g xs p q b0 b1 c0 c1 ty) (hr : Rdr W' r g xs p' q') (k : Kept [r] W W') : RV w0 W' r g xs p' q' b0 b1 c0 c1 ty :=
  ⟨hr, k.heap h.v0 (by have := h.a0; have := h.rl; simp; omega), k.heap h.v1 (by have := h.a0; have := h.a1; have := h.rl; simp; omega), h.keep.then k, h.a0, h.a1, h.rl, h.gl⟩
theorem RV.set (h : RV w0 W r g xs p q b0 b1 c0 c1 ty) (o : Nat) (v : Value) : RV w0 (W.setCell ⟨b1, o, none⟩ v) r g xs p q b0 b1 c0 (c1.setIfInBounds o v) ty := by
  have h1 := h.a0
  have h2 := h.a1
  have h3 := h.rl
  have h4 := h.gl
  have k : Kept [b1] W (W.setCell ⟨b1, o, none⟩ v) := (Kept.refl _ _).setCell (Or.inl (by simp)) _
  exact ⟨h.rd.kept k (by simp; omega) (by simp; omega), k.heap h.v0 (by simp; omega), heap_setCell_same _ _ _ _ _ _ h.v1, h.keep.setCell (Or.inr (by show w0.heap.size ≤ b1; omega)) _, h1, h2, h3, h4⟩
end

def zeroG : TagL := ⟨zero32, 0, [], [], 0, []⟩
theorem Tryz.zeroTag : (Tryz.prog.info? 91).map (fun i => (i.zero, i.size)) = some (some (.agg zeroG.row.toArray), 37) := by kernel_rfl
theorem Tryz.builtTag (parts : List (Nat × Value)) : Tryz.prog.built 91 parts = Instr.fill (fun i => (#[(0, 32), (32, 1), (33, 1), (34, 1), (35, 1), (36, 1)] : Array (Nat × Nat))[i]?) zeroG.row.toArray parts := by kernel_rfl
theorem built_tag (id : List Int) (hi : id.length = 32) : Tryz.prog.built 91 [(0, .agg (idC id))] = some (TagL.mk id 0 [] [] 0 []).row.toArray := by
  rw [Tryz.builtTag, fill_step (fun i => (#[(0, 32), (32, 1), (33, 1), (34, 1), (35, 1), (36, 1)] : Array (Nat × Nat))[i]?) zeroG.row.toArray 0 (.agg (idC id)) _ 0 32 rfl (idC_size hi) (by decide), fill_nil]
  have e : (Value.agg (idC id)).cells.toList = id.map (Value.int .u8) := rfl
  rw [e, setL_put _ _ _ (by rw [List.length_map, hi]; decide)]
  congr 2
  unfold putL TagL.row zeroG
  simp [zero32, hi]
theorem tag_set (t : TagL) (hl : t.target.length = 32) : (∀ k, t.row.toArray.setIfInBounds 32 (.int .i64 k) = ({ t with kind := k } : TagL).row.toArray) ∧ (∀ s, t.row.toArray.setIfInBounds 33 (.string (strOfNums s)) = ({ t with name := s } : TagL).row.toArray) ∧
    (∀ s, t.row.toArray.setIfInBounds 34 (.string (strOfNums s)) = ({ t with who := s } : TagL).row.toArray) ∧ (∀ k, t.row.toArray.setIfInBounds 35 (.int .u64 k) = ({ t with time := k } : TagL).row.toArray) ∧
    (∀ s, t.row.toArray.setIfInBounds 36 (.string (strOfNums s)) = ({ t with text := s } : TagL).row.toArray) := by
  have hm : (t.target.map (Value.int .u8)).length = 32 := by rw [List.length_map, hl]
  refine ⟨fun k => ?_, fun k => ?_, fun k => ?_, fun k => ?_, fun k => ?_⟩
  all_goals
    unfold TagL.row
    rw [List.setIfInBounds_toArray, List.set_append_right _ _ (by omega), hm]
    rfl
theorem tag_len (t : TagL) (hl : t.target.length = 32) : t.row.toArray.size = 37 := by simp [TagL.row, hl]
theorem tag_one (t : TagL) : t.row.toArray.all (·.oneCell') = true := all_oneCell_toArray fun v hv => by
  unfold TagL.row at hv
  rcases List.mem_append.1 hv with h | h
  · exact map_oneCell _ v h
  · simp at h
    rcases h with rfl | rfl | rfl | rfl | rfl <;> rfl
end Go.Proofs.YtfcoeinhfdbcgaaGreatDoor

namespace Go.Proofs.YtfcoeinhfdbcgaaGreatDoor
open Go.RowKit

theorem step_append_k {ops : Array Oper} {o : Oper} {a : Act} {w : World} {K : Act → World → Prop} {Q : Exit → Act → World → Prop} {E : Prop} (hgd : o.guard = none) (s x : Operand) (T e : TypeId) (z : Value) (k bytes : Nat)
    (hT : Tryz.prog.underlying T = some (.slice e)) (hinfo : (Tryz.prog.info? e).map (fun i => (i.zero, i.size, i.bytes)) = some (some z, k, bytes)) (hzk : z.cells.size = k) (hk : 0 < k)
    (ho : o.op = .call { callee := .builtin .append, args := #[s, x], argTypes := #[T, T] }) {B : Nat} {v : Value} {n : Nat} {xs : List Value} (hs : a.eval s = v) (hown : w.ownsRow B e k v n xs)
    {q : Nat} {us : List Value} (hx : a.eval x = .slice (some ⟨q, 0, none⟩) 1 1) (hul : us.length = k) (hc : w.rangeAt q 0 us) (hu : ∀ u, u ∈ us → u.oneCell' = true) (hl : n ≤ 1000000) (hb : bytes ≤ 1000) (hB : B ≤ w.heap.size)
    (h : ∀ v' w', w'.ownsRow B e k v' (n + 1) (xs ++ us) → Kept v.ownBlock.toList w w' → (v'.ownBlock = v.ownBlock ∨ v'.ownBlock = some w.heap.size) → K (a.put o.dst v') w') : if Region.wanted o (yielded ops a.tmps) = true then Oper.wp Tryz.prog o a w K Q else E := by
  have hw : Region.wanted o (yielded ops a.tmps) = true := by simp [Region.wanted, hgd]
  rw [if_pos hw]
  obtain ⟨i0, hi, hez⟩ := Option.map_eq_some_iff.1 hinfo
  simp only [Prod.mk.injEq] at hez
  obtain ⟨q0, q1, q2⟩ := hez
  have hnews : ∀ j t, us[j]? = some t → w.cell? ((⟨q, 0, none⟩ : Addr).add j) = some t := fun j t ht => by
    rw [Addr.add_mid]
    exact hc j t ht
  have hmul : (n + 1) * bytes ≤ (1000000 + 1) * 1000 := Nat.mul_le_mul (by omega) hb
  obtain ⟨v', w', hr, h2, h3, _, h5⟩ := run_append_own_at (P := Tryz.prog) w B T o.type e i0 z k bytes hT hi q0 q1 q2 hzk hk v n xs hown ⟨q, 0, none⟩ 1 1 us (by rw [hul, Nat.one_mul]) hnews hu (by unfold maxLen; omega) (by omega) hB
  unfold Oper.wp execOp
  simp only [ho, resolve, invoke, builtin, Sem.run_bind, Sem.run_pure, Result.andThen_ok, List.map_toArray, List.map_cons, List.map_nil, hs, hx, hr]
  exact h v' w' h2 ((Kept.refl _ _).grown h3 fun k hk => Or.inl (by simp [hk])) h5
theorem run_build_k {t e : TypeId} {z : List Value} {k bytes : Nat} (hT : Tryz.prog.underlying t = some (.slice e)) (hinfo : (Tryz.prog.info? e).map (fun i => (i.zero, i.size, i.bytes)) = some (some (.agg z.toArray), k, bytes)) (hk : 0 < k) (hk2 : k ≤ 1000) (us : List Value) (hul : us.length = k) (W : World) :
    (Instr.buildSlice t 1 #[(0, .agg us.toArray)]).run Tryz.prog W = .ok (.slice (some ⟨W.heap.size, 0, none⟩) 1 1) (W.alloc (.cells us.toArray e)) := by
  obtain ⟨i0, hi, hez⟩ := Option.map_eq_some_iff.1 hinfo
  simp only [Prod.mk.injEq] at hez
  obtain ⟨q0, q1, q2⟩ := hez
  refine run_buildSlice W t e 1 _ us.toArray i0 (.agg z.toArray) hT hi q0 (by rw [q1]; omega) (by rw [q1]; omega) ?_
  have hsz : ((Array.range (1 * i0.size)).map ((Value.agg z.toArray).cells[· % (Value.agg z.toArray).cells.size]!)).size = k := by simp [q1]
  generalize (Array.range (1 * i0.size)).map ((Value.agg z.toArray).cells[· % (Value.agg z.toArray).cells.size]!) = C at *
  obtain ⟨C⟩ := C
  show Instr.fill (fun i => some (i * i0.size, i0.size)) C.toArray [(0, .agg us.toArray)] = some us.toArray
  have hC : C.length = k := by simpa using hsz
  rw [fill_step (fun i => some (i * i0.size, i0.size)) C.toArray 0 (.agg us.toArray) [] 0 k (by simp [q1]) (by show us.toArray.size = k; simpa using hul) (by simp [hC])]
  have e1 : (Value.agg us.toArray).cells.toList = us := rfl
  rw [e1, setL_put _ _ _ (by omega), fill_nil]
  unfold putL
  rw [List.take_zero, List.nil_append, Nat.zero_add, hul, List.drop_eq_nil_of_le (by omega), List.append_nil]
theorem ownsK_on {w w' : World} {B : Nat} {e : TypeId} {k : Nat} {v : Value} {n : Nat} {xs : List Value} {T : List Nat} (h : w.ownsRow B e k v n xs) (q : Kept T w w') (hn : ∀ g, v.ownBlock = some g → g ∉ T) : w'.ownsRow B e k v n xs := by
  obtain ⟨hl, h | ⟨g, cap, cur, hv, hB, hg, h1, h2, h3, h4⟩⟩ := h
  · exact ⟨hl, Or.inl h⟩
  · refine ⟨hl, Or.inr ⟨g, cap, cur, hv, hB, q.heap hg (hn g (by rw [hv]; rfl)), h1, h2, h3, h4⟩⟩
theorem fold_setL : ∀ (l : List Value) (o : Nat) (C : Array Value), List.foldl (fun (cs : Array Value) (x : Value × Nat) => cs.setIfInBounds x.snd x.fst) C (l.zipIdx o) = setL C o l
  | [], _, _ => rfl
  | v :: l, o, C => by
    simp only [List.zipIdx_cons, List.foldl_cons]
    exact fold_setL l (o + 1) (C.setIfInBounds o v)
theorem fold_setL' (a : Nat) : ∀ (l : List Value) (o : Nat) (C : Array Value), List.foldl (fun (cs : Array Value) (x : Value × Nat) => cs.setIfInBounds (a + x.snd) x.fst) C (l.zipIdx o) = setL C (a + o) l
  | [], _, _ => rfl
  | v :: l, o, C => by
    simp only [List.zipIdx_cons, List.foldl_cons]
    exact fold_setL' a l (o + 1) (C.setIfInBounds (a + o) v)
theorem fold_two (l : List Value) (b c : Value) (C : List Value) (h : C.length = l.length) : List.foldl (fun (cs : Array Value) (x : Value × Nat) => cs.setIfInBounds (2 + x.snd) x.fst) (b :: c :: C).toArray l.zipIdx = (b :: c :: l).toArray := by
  rw [fold_setL' 2 l 0, setL_put _ _ _ (by simp; omega)]
  unfold putL
  show (([b, c] ++ l) ++ List.drop (2 + 0 + l.length) (b :: c :: C)).toArray = _
  rw [List.drop_eq_nil_of_le (by simp; omega), List.append_nil]
  rfl
theorem fold_all (l : List Value) (C : List Value) (h : C.length = l.length) : List.foldl (fun (cs : Array Value) (x : Value × Nat) => cs.setIfInBounds x.snd x.fst) C.toArray l.zipIdx = l.toArray := by
  rw [fold_setL l 0, setL_put _ _ _ (by omega)]
  unfold putL
  rw [List.take_zero, List.nil_append, Nat.zero_add, List.drop_eq_nil_of_le (by omega), List.append_nil]
/-- Such a list, row by row. -/
theorem ownsK_rows {w : World} {B : Nat} {e : TypeId} {k : Nat} (hk : 0 < k) {v : Value} {rows : List (List Value)} (hr : ∀ r, r ∈ rows → r.length = k) (h : w.ownsRow B e k v rows.length rows.flatten) (hn : rows.length ≤ 140737488351232) : RowsAt w v k rows := by
  obtain ⟨hl, ⟨rfl, h0⟩ | ⟨g, cap, cur, rfl, hB, hg, h1, h2, h3, h4⟩⟩ := h
  · have e0 : rows = [] := by
      cases rows with
      | nil => rfl
      | cons r rs => simp at h0
    subst e0
    exact ⟨none, 0, rfl, Nat.le_refl _, fun _ => rfl, by simp, fun e => absurd rfl e⟩
  · refine ⟨_, cap, rfl, h1, fun e => by simp at e, hn, fun _ => ⟨g, 0, rfl, fun i cs hi j u hj => ?_⟩⟩
    rw [cell_of_row _ _ _ _ _ _ hg, Nat.zero_add]
    have hjk : j < k := by
      have := (List.getElem?_eq_some_iff.1 hj).1
      have := hr cs (List.mem_of_getElem? hi)
      omega
    have hi2 : i < rows.length := (List.getElem?_eq_some_iff.1 hi).1
    have e1 : rows.flatten[i * k + j]? = some u := by
      rw [flat_bind k hk rows hr, Nat.mul_comm i k, Nat.mul_add_div hk, Nat.div_eq_of_lt hjk, Nat.add_zero, hi, Nat.mul_add_mod, Nat.mod_eq_of_lt hjk]
      exact hj
    rw [← h4, List.getElem?_take_of_lt ?_] at e1
    · rw [← e1, Array.getElem?_toList]
    · have : i * k + k ≤ rows.length * k := by rw [← Nat.succ_mul]; exact Nat.mul_le_mul_right k hi2
      omega
end Go.Proofs.YtfcoeinhfdbcgaaGreatDoor

namespace Go.Proofs.YtfcoeinhfdbcgaaGreatDoor
open Go.RowKit

set_option maxRecDepth 100000 in
set_option maxHeartbeats 2000000 in
theorem readTag_any {w : World} {r g : Nat} {xs : List Int} {pl f : Nat} (R : Rdr w r g xs pl f) (y1 y2 y3 y4 y5 y6 : Took) (h1 : Hid (y1 = takeL xs pl f 3 32 0)) (h2 : Hid (y2 = takeL xs y1.pl y1.f 0 1 0)) (h3 : Hid (y3 = takeL xs y2.pl y2.f 2 0 255))
    (h4 : Hid (y4 = takeL xs y3.pl y3.f 2 0 255)) (h5 : Hid (y5 = takeL xs y4.pl y4.f 0 8 0)) (h6 : Hid (y6 = takeL xs y5.pl y5.f 2 0 4096)) :
    Calls Tryz.prog 49 #[.pointer (some ⟨r, 0, none⟩)] w fun e w' => e = .returned (.agg (TagL.mk (idOf y1.text) y2.n y3.text y4.text y5.n y6.text).row.toArray) ∧ Rdr w' r g xs y6.pl y6.f ∧ Kept [r] w w' := by
  have hl1 : (idOf y1.text).length = 32 := by rw [h1.out]; exact idOf_len (raw32_len _ _ _)
  have hb2 : 0 ≤ y2.n ∧ y2.n < 256 := by rw [h2.out]; exact take_lt xs R.oct _ _ 1
  have C1 : Hid (∀ W, Rdr W r g xs pl f → Calls Tryz.prog 75 #[.pointer (some ⟨r, 0, none⟩)] W fun e w' => e = .returned (.agg (idC (idOf y1.text))) ∧ Rdr w' r g xs y1.pl y1.f ∧ Kept [r] W w') := fun W hW => readID_any hW y1 h1
  have C2 : Hid (∀ W, Rdr W r g xs y1.pl y1.f → Calls Tryz.prog 44 #[.pointer (some ⟨r, 0, none⟩)] W fun e w' => e = .returned (.int .u8 y2.n) ∧ Rdr w' r g xs y2.pl y2.f ∧ Kept [r] W w') := fun W hW => U8_any hW y2 h2
  have C3 : Hid (∀ W, Rdr W r g xs y2.pl y2.f → Calls Tryz.prog 74 #[.pointer (some ⟨r, 0, none⟩), .int .i64 255] W fun e w' => e = .returned (.string (strOfNums y3.text)) ∧ Rdr w' r g xs y3.pl y3.f ∧ Kept [r] W w') := fun W hW => readText_any hW 255 (by decide) (by decide) y3 h3
  have C4 : Hid (∀ W, Rdr W r g xs y3.pl y3.f → Calls Tryz.prog 74 #[.pointer (some ⟨r, 0, none⟩), .int .i64 255] W fun e w' => e = .returned (.string (strOfNums y4.text)) ∧ Rdr w' r g xs y4.pl y4.f ∧ Kept [r] W w') := fun W hW => readText_any hW 255 (by decide) (by decide) y4 h4
  have C5 : Hid (∀ W, Rdr W r g xs y4.pl y4.f → Calls Tryz.prog 76 #[.pointer (some ⟨r, 0, none⟩)] W fun e w' => e = .returned (.int .u64 y5.n) ∧ Rdr w' r g xs y5.pl y5.f ∧ Kept [r] W w') := fun W hW => U64_any hW y5 h5
  have C6 : Hid (∀ W, Rdr W r g xs y5.pl y5.f → Calls Tryz.prog 74 #[.pointer (some ⟨r, 0, none⟩), .int .i64 4096] W fun e w' => e = .returned (.string (strOfNums y6.text)) ∧ Rdr w' r g xs y6.pl y6.f ∧ Kept [r] W w') := fun W hW => readText_any hW 4096 (by decide) (by decide) y6 h6
  have hrl := lt_of_block R.blk
  have hgl := lt_of_block R.row
  have HRa : Hid (Rdr (w.alloc (.cells zeroG.row.toArray 91)) r g xs pl f) := R.alloc _
  have HZ : Hid ((w.alloc (.cells zeroG.row.toArray 91)).heap[w.heap.size]? = some (.cells zeroG.row.toArray 91 (0, 0))) := heap_alloc_new w _
  have HKa : Hid (Kept [r] w (w.alloc (.cells zeroG.row.toArray 91))) := (Kept.refl _ _).alloc _
  have hbt := built_tag (idOf y1.text) hl1
  have hone1 : (TagL.mk (idOf y1.text) 0 [] [] 0 []).row.toArray.all (·.oneCell') = true := tag_one _
  have hone6 : (TagL.mk (idOf y1.text) y2.n y3.text y4.text y5.n y6.text).row.toArray.all (·.oneCell') = true := tag_one _
  have hs1 : (Tryz.prog.info? 91).map (·.size) = some (TagL.mk (idOf y1.text) 0 [] [] 0 []).row.toArray.size := by rw [tag_len _ hl1]; kernel_rfl
  have hs6 : (Tryz.prog.info? 91).map (·.size) = some (TagL.mk (idOf y1.text) y2.n y3.text y4.text y5.n y6.text).row.toArray.size := by rw [tag_len _ hl1]; kernel_rfl
  have hz1 : (TagL.mk (idOf y1.text) 0 [] [] 0 []).row.toArray.size = 37 := tag_len _ hl1
  have hz6 : zeroG.row.toArray.size = (TagL.mk (idOf y1.text) y2.n y3.text y4.text y5.n y6.text).row.toArray.size := by rw [tag_len (TagL.mk (idOf y1.text) y2.n y3.text y4.text y5.n y6.text) hl1]; rfl
  clear R h1 h2 h3 h4 h5 h6
  go_enter Tryz.func49, Tryz.ntmps49
  go_wp2_with (first
    | (go_at_call 75; refine (C1.out _ HRa.out).mono ?_; rintro e w1 ⟨rfl, hr1, hk1⟩
       have HZ1 : Hid (w1.heap[w.heap.size]? = some (.cells zeroG.row.toArray 91 (0, 0))) := hk1.heap HZ.out (by simp; omega)
       have HR1 : Hid (Rdr w1 r g xs y1.pl y1.f) := hr1
       have HK1 : Hid (Kept [r] (w.alloc (.cells zeroG.row.toArray 91)) w1) := hk1
       clear hr1 hk1)
    | (refine wpList_build_some (by rfl) 91 _ (by rfl) (TagL.mk (idOf y1.text) 0 [] [] 0 []).row.toArray (by simp; exact hbt) ?_)
    | (refine wpList_store_new (by rfl) 91 (.tmp 3) (.tmp 6) (by rfl) w1 _ (TagL.mk (idOf y1.text) 0 [] [] 0 []).row.toArray (by rfl) (by rfl) hs1 (by rw [hz1]; rfl) hone1 ?_
       have HV1 : Hid (RV w (w1.alloc (.cells (TagL.mk (idOf y1.text) 0 [] [] 0 []).row.toArray 91)) r g xs y1.pl y1.f w.heap.size w1.heap.size zeroG.row.toArray (TagL.mk (idOf y1.text) 0 [] [] 0 []).row.toArray 91) :=
         ⟨HR1.out.alloc _, (Below.heap_alloc _ _ _ (lt_of_block HZ1.out)).trans HZ1.out, heap_alloc_new w1 _, (HKa.out.then HK1.out).alloc _, Nat.le_refl _, lt_of_block HZ1.out, hrl, hgl⟩)
    | (go_at_call 44; (with_reducible refine (C2.out _ HV1.out.rd).mono ?_); rintro e w2 ⟨rfl, hr2, hk2⟩
       have hv2 := HV1.out.step hr2 hk2
       have d2 := (tag_cells (b := w1.heap.size) (t := TagL.mk (idOf y1.text) 0 [] [] 0 []) hl1 hv2.v1).2.1
       have f2 := frozen_of_row _ _ 32 _ _ hv2.v1
       have HV2 : Hid (RV w (w2.setCell ⟨w1.heap.size, 32, none⟩ (.int .i64 y2.n)) r g xs y2.pl y2.f w.heap.size w1.heap.size zeroG.row.toArray (TagL.mk (idOf y1.text) y2.n [] [] 0 []).row.toArray 91) := by
         have h := hv2.set 32 (.int .i64 y2.n)
         rw [(tag_set (TagL.mk (idOf y1.text) 0 [] [] 0 []) hl1).1] at h
         exact h
       clear hr2 hk2 hv2)
    | (go_at_call 74; (with_reducible refine (C3.out _ HV2.out.rd).mono ?_); rintro e w3 ⟨rfl, hr3, hk3⟩
       have hv3 := HV2.out.step hr3 hk3
       have d3 := (tag_cells (b := w1.heap.size) (t := TagL.mk (idOf y1.text) y2.n [] [] 0 []) hl1 hv3.v1).2.2.1
       have f3 := frozen_of_row _ _ 33 _ _ hv3.v1
       have HV3 : Hid (RV w (w3.setCell ⟨w1.heap.size, 33, none⟩ (.string (strOfNums y3.text))) r g xs y3.pl y3.f w.heap.size w1.heap.size zeroG.row.toArray (TagL.mk (idOf y1.text) y2.n y3.text [] 0 []).row.toArray 91) := by
         have h := hv3.set 33 (.string (strOfNums y3.text))
         rw [(tag_set (TagL.mk (idOf y1.text) y2.n [] [] 0 []) hl1).2.1] at h
         exact h
       clear hr3 hk3 hv3)
    | (go_at_call 74; (with_reducible refine (C4.out _ HV3.out.rd).mono ?_); rintro e w4 ⟨rfl, hr4, hk4⟩
       have hv4 := HV3.out.step hr4 hk4
       have d4 := (tag_cells (b := w1.heap.size) (t := TagL.mk (idOf y1.text) y2.n y3.text [] 0 []) hl1 hv4.v1).2.2.2.1
       have f4 := frozen_of_row _ _ 34 _ _ hv4.v1
       have HV4 : Hid (RV w (w4.setCell ⟨w1.heap.size, 34, none⟩ (.string (strOfNums y4.text))) r g xs y4.pl y4.f w.heap.size w1.heap.size zeroG.row.toArray (TagL.mk (idOf y1.text) y2.n y3.text y4.text 0 []).row.toArray 91) := by
         have h := hv4.set 34 (.string (strOfNums y4.text))
         rw [(tag_set (TagL.mk (idOf y1.text) y2.n y3.text [] 0 []) hl1).2.2.1] at h
         exact h
       clear hr4 hk4 hv4)
    | (go_at_call 76; (with_reducible refine (C5.out _ HV4.out.rd).mono ?_); rintro e w5 ⟨rfl, hr5, hk5⟩
       have hv5 := HV4.out.step hr5 hk5
       have d5 := (tag_cells (b := w1.heap.size) (t := TagL.mk (idOf y1.text) y2.n y3.text y4.text 0 []) hl1 hv5.v1).2.2.2.2.1
       have f5 := frozen_of_row _ _ 35 _ _ hv5.v1
       have HV5 : Hid (RV w (w5.setCell ⟨w1.heap.size, 35, none⟩ (.int .u64 y5.n)) r g xs y5.pl y5.f w.heap.size w1.heap.size zeroG.row.toArray (TagL.mk (idOf y1.text) y2.n y3.text y4.text y5.n []).row.toArray 91) := by
         have h := hv5.set 35 (.int .u64 y5.n)
         rw [(tag_set (TagL.mk (idOf y1.text) y2.n y3.text y4.text 0 []) hl1).2.2.2.1] at h
         exact h
       clear hr5 hk5 hv5)
    | (go_at_call 74; (with_reducible refine (C6.out _ HV5.out.rd).mono ?_); rintro e w6 ⟨rfl, hr6, hk6⟩
       have hv6 := HV5.out.step hr6 hk6
       have d6 := (tag_cells (b := w1.heap.size) (t := TagL.mk (idOf y1.text) y2.n y3.text y4.text y5.n []) hl1 hv6.v1).2.2.2.2.2
       have f6 := frozen_of_row _ _ 36 _ _ hv6.v1
       have HV6 : Hid (RV w (w6.setCell ⟨w1.heap.size, 36, none⟩ (.string (strOfNums y6.text))) r g xs y6.pl y6.f w.heap.size w1.heap.size zeroG.row.toArray (TagL.mk (idOf y1.text) y2.n y3.text y4.text y5.n y6.text).row.toArray 91) := by
         have h := hv6.set 36 (.string (strOfNums y6.text))
         rw [(tag_set (TagL.mk (idOf y1.text) y2.n y3.text y4.text y5.n []) hl1).2.2.2.2] at h
         exact h
       clear hr6 hk6 hv6)
    | (refine wpList_load_row (by rfl) 91 (.tmp 3) (by rfl) w1.heap.size (by rfl) 91 (TagL.mk (idOf y1.text) y2.n y3.text y4.text y5.n y6.text).row.toArray (0, 0) _ HV6.out.v1 Tryz.underlying91 rfl hs6 ?_)
    | (refine wpList_store_row (by rfl) 91 (.tmp 2) (.tmp 23) (by rfl) w.heap.size (TagL.mk (idOf y1.text) y2.n y3.text y4.text y5.n y6.text).row.toArray (by rfl) (by rfl) 91 _ HV6.out.v0 hs6 hz6 hone6 ?_))
  refine bodyPost_ret (v := .agg (TagL.mk (idOf y1.text) y2.n y3.text y4.text y5.n y6.text).row.toArray) ?_ rfl ⟨rfl, ?_, ?_⟩
  · rw [results_cell1 rfl]
    have hld := run_loadVar_row (P := Tryz.prog) ((w6.setCell ⟨w1.heap.size, 36, none⟩ (.string (strOfNums y6.text))).setRow w.heap.size (TagL.mk (idOf y1.text) y2.n y3.text y4.text y5.n y6.text).row.toArray) w.heap.size 91 91 (TagL.mk (idOf y1.text) y2.n y3.text y4.text y5.n y6.text).row.toArray (0, 0) _ (setRow_heap _ _ _ _ _ _ HV6.out.v0) Tryz.underlying91 rfl hs6
    exact hld
  · exact HV6.out.rd.below (below_setRow (Below.refl w.heap.size _) (Nat.le_refl _) _) hrl hgl
  · exact kept_below HV6.out.keep (below_setRow (Below.refl w.heap.size _) (Nat.le_refl _) _) (Nat.le_refl _)
end Go.Proofs.YtfcoeinhfdbcgaaGreatDoor

namespace Go.Proofs.YtfcoeinhfdbcgaaGreatDoor
open Go.RowKit

set_option maxRecDepth 100000 in
set_option maxHeartbeats 1000000 in
theorem Contains_ids (v : Value) (ids : List (List Int)) (id : List Int) (w : World) (hv : IdsAt w v ids) (hg : ∀ o, o ∈ ids → GoodID o) (hid : GoodID id) :
    Calls Tryz.prog 133 #[v, .agg (idC id)] w fun e w' => (∃ n : Int, e = .returned (.int .i64 n) ∧ -1 ≤ n ∧ decide (0 ≤ n) = decide (id ∈ ids)) ∧ Kept [] w w' := by
  have hsl : (Tryz.prog.info? 29).map (·.size) = some (id.map (Value.int .u8)).length := by rw [List.length_map, hid.1]; exact Tryz.infoID
  have HR : Hid (∀ W, Kept [] (w.alloc (.cells (idC id) 29)) W → W.rangeAt w.heap.size 0 (id.map (Value.int .u8))) := fun W k => range_kept (range_box w id 29) k (by simp)
  have HV : Hid (∀ W, Kept [] w W → IdsAt W v ids) := fun W k => hv.keep k (fun _ _ _ => by simp)
  have HG : Hid (∀ o, o ∈ ids → GoodID o) := hg
  have HD : Hid (GoodID id) := hid
  have hun := Tryz.underlying29
  obtain ⟨ao, cap, rfl, hcap, _, hlen, _⟩ := hv
  clear hg hid
  go_enter Tryz.func133, Tryz.ntmps133
  go_wp2
  go_loopw [5, 8] (fun _ s8 wr => ∃ k : Nat, k ≤ ids.length ∧ s8 = .int .i64 k ∧ Hid (∀ (i : Nat) (o : List Int), ids[i]? = some o → i < k → o ≠ id) ∧ Hid (Kept [] (w.alloc (.cells (idC id) 29)) wr)) (fun _ s8 _ => ids.length - (intOf s8).toNat)
  case atStart => exact ⟨0, Nat.zero_le _, rfl, fun i o _ h => absurd h (by omega), Kept.refl _ _⟩
  case round =>
    obtain ⟨k, hk, rfl, HN, HK⟩ := hrel
    by_cases hlt : k < ids.length
    · obtain ⟨o, ho⟩ : ∃ o, ids[k]? = some o := ⟨_, List.getElem?_eq_getElem hlt⟩
      have hgo := HG.out o (List.mem_of_getElem? ho)
      obtain ⟨ao', cap', he, _, _, _, hc⟩ := HV.out w (Kept.refl _ _)
      injection he with e1 e2 e3
      subst e1 e3
      obtain ⟨b, off, rfl, hh⟩ := hc (by rintro rfl; simp at hlt)
      have hr := hh k o ho
      have hso : (Tryz.prog.info? 29).map (·.size) = some (o.map (Value.int .u8)).length := by rw [List.length_map, hgo.1]; exact Tryz.infoID
      have heqf : ∀ W, (Op.equalIn 10000 29 (.agg (id.map (Value.int .u8)).toArray) (.agg (o.map (Value.int .u8)).toArray)).run Tryz.prog W = .ok (decide (id = o)) W := fun W => idEq id o W HD.out.1 hgo.1
      have HR1 : Hid (∀ W, Kept [] (w.alloc (.cells (idC id) 29)) W → W.rangeAt b (off + k * 32) (o.map (Value.int .u8))) := fun W hW => range_kept hr (((Kept.refl [] w).alloc _).then hW) (by simp)
      have HKW : Hid (∀ W, Kept [] (w.alloc (.cells (idC id) 29)) W → Kept [] w W) := fun W hW => ((Kept.refl [] w).alloc _).then hW
      clear hh hc hgo hr
      go_wp2_with fail
      refine region_quiet (Kept [] (w.alloc (.cells (idC id) 29))) (by kernel_rfl) (by kernel_rfl) HK.out.drew ?_
      refine quiet_row (by rfl) _ _ rfl w.heap.size 0 rfl (id.map (Value.int .u8)) _ HR.out hun rfl hsl ?_
      simp only [Act.put, List.setIfInBounds_toArray, List.set_cons_zero, List.set_cons_succ]
      refine quiet_move (by rfl) (.tmp 0) rfl (.slice (some ⟨b, off, none⟩) ids.length cap) rfl ?_
      simp only [Act.put, List.setIfInBounds_toArray, List.set_cons_zero, List.set_cons_succ]
      refine quiet_move (by rfl) (.tmp 5) rfl (.int .i64 k) rfl ?_
      simp only [Act.put, List.setIfInBounds_toArray, List.set_cons_zero, List.set_cons_succ]
      refine quiet_val (by rfl) (.pointer (some ⟨b, off + k * 32, none⟩)) (fun W => by go_simp) ?_
      simp only [Act.put, List.setIfInBounds_toArray, List.set_cons_zero, List.set_cons_succ]
      refine quiet_row (by rfl) _ _ rfl b (off + k * 32) rfl (o.map (Value.int .u8)) _ HR1.out hun rfl hso ?_
      simp only [Act.put, List.setIfInBounds_toArray, List.set_cons_zero, List.set_cons_succ]
      refine quiet_eql (by rfl) (.tmp 11) (.tmp 15) _ rfl _ _ rfl rfl (decide (id = o)) heqf ?_
      simp only [Act.put, List.setIfInBounds_toArray, List.set_cons_zero, List.set_cons_succ]
      refine wpQuiet_nil fun w3 hk3 => ?_
      have HK3 : Hid (Kept [] (w.alloc (.cells (idC id) 29)) w3) := hk3
      have HF3 : Hid (Kept [] w w3) := HKW.out w3 hk3
      clear hk3 heqf HR1
      by_cases hio : id = o
      · have hd : decide (id = o) = true := decide_eq_true hio
        rw [hd]
        have HM : Hid (decide (id ∈ ids) = true) := decide_eq_true (by rw [hio]; exact List.mem_of_getElem? ho)
        clear hio hd ho
        go_wp2
        go_ret
        exact ⟨⟨(k : Int), rfl, by omega, by rw [HM.out]; exact decide_eq_true (by omega)⟩, HF3.out⟩
      · have hd : decide (id = o) = false := decide_eq_false hio
        rw [hd]
        have HN' : Hid (∀ (i : Nat) (o : List Int), ids[i]? = some o → i < k + 1 → o ≠ id) := fun i x hx hi => by
          by_cases hik : i = k
          · subst hik
            rw [ho] at hx
            cases hx
            exact Ne.symm hio
          · exact HN.out i x hx (by omega)
        clear hio hd ho
        go_wp2
        go_roundw
        case rel => exact ⟨k + 1, by omega, by go_num, HN', HK3⟩
        case measure => simp [intOf]; omega
    · have HM : Hid (decide (id ∈ ids) = false) := decide_eq_false fun hm => by
        obtain ⟨i, hi, he⟩ := List.getElem_of_mem hm
        exact HN.out i id (by rw [List.getElem?_eq_getElem hi, he]) (by omega) rfl
      have HF3 : Hid (Kept [] w wr) := ((Kept.refl [] w).alloc _).then HK.out
      go_wp2
      go_ret
      exact ⟨⟨-1, rfl, by omega, by rw [HM.out]; rfl⟩, HF3.out⟩

set_option maxRecDepth 100000 in
set_option maxHeartbeats 1000000 in
theorem ContainsIDs_any (v : Value) (ids : List (List Int)) (id : List Int) (w : World) (hv : IdsAt w v ids) (hg : ∀ o, o ∈ ids → GoodID o) (hid : GoodID id) :
    Calls Tryz.prog 130 #[v, .agg (idC id)] w fun e w' => e = .returned (.bool (decide (id ∈ ids))) ∧ Kept [] w w' := by
  have hk0 : Kept [] w (w.alloc (.cells (idC id) 29)) := (Kept.refl _ _).alloc _
  have hcall := Contains_ids v ids id (w.alloc (.cells (idC id) 29)) (hv.keep hk0 (fun _ _ _ => by simp)) hg hid
  have hsz : (Tryz.prog.info? 29).map (·.size) = some (idC id).size := by rw [idC_size hid.1]; exact Tryz.infoID
  have HB : Hid ((w.alloc (.cells (idC id) 29)).heap[w.heap.size]? = some (.cells (idC id) 29 (0, 0))) := heap_alloc_new w _
  obtain ⟨ao, cap, rfl, _⟩ := hv
  clear hg hid
  generalize idC id = ic at *
  go_enter Tryz.func130, Tryz.ntmps130
  go_wp2_with (first
    | (refine wpList_load_row (by rfl) 29 (.tmp 3) (by rfl) w.heap.size (by rfl) 29 ic (0, 0) _ HB.out Tryz.underlying29 rfl hsz ?_)
    | (go_at_call 133; refine hcall.mono ?_; rintro e w2 ⟨⟨n, rfl, hn, hd⟩, hk2⟩
       have HK2 : Hid (Kept [] w w2) := hk0.then hk2
       have HD : Hid _ := hd
       clear hk2 hd))
  go_ret
  exact ⟨by rw [← HD.out]; rfl, HK2.out⟩
end Go.Proofs.YtfcoeinhfdbcgaaGreatDoor
