/-
  A Writer beside a variable; tags; WALKS: object.signFault, (object.tag).fault, (object.tag).write.
  WALKS: (object.tag).fault, write, children.
  WALKS: (object.tag).children, object.readTag.
-/
import Derived.Test.YtbphibolgckmnaaGreatDoorEnt4
import Derived.Great.BuildSlice
namespace Go.Proofs.YtbphibolgckmnaaGreatDoor
open Go.RowKit

/-- A Writer on its way, and a variable that it does not touch. -/
def WB (w0 W : World) (wb B : Nat) (zs : List Int) (S : List Nat) (b : Nat) (cs : Array Value) (ty : TypeId) : Prop := ∃ S', WSt w0 W wb B zs S S' ∧ b ∉ S' ∧ W.heap[b]? = some (.cells cs ty (0, 0))
section
variable {w0 W : World} {wb B : Nat} {zs : List Int} {S : List Nat} {b : Nat} {cs : Array Value} {ty : TypeId}
theorem WB.next {us : List Int} {S' : List Nat} (h : WSt w0 W wb B zs S S') (hb : b ∉ S') (hc : W.heap[b]? = some (.cells cs ty (0, 0))) {W' : World} (k : Wrote W W' wb B us S') : WB w0 W' wb B us S b cs ty := by
  obtain ⟨S'', h1, h2, h3⟩ := h.next k
  refine ⟨S'', h1, fun hx => ?_, h2.heap hc hb⟩
  rcases h3 b hx with h | h
  · exact hb h
  · exact absurd (lt_of_block hc) (by omega)
theorem WB.block (h : WB w0 W wb B zs S b cs ty) : W.heap[b]? = some (.cells cs ty (0, 0)) := h.elim fun _ q => q.2.2
end
theorem WB.start {w : World} {wb B : Nat} {zs : List Int} {S : List Nat} (h : WAt w wb B zs S) (cs : Array Value) (ty : TypeId) : WB w (w.alloc (.cells cs ty)) wb B zs S w.heap.size cs ty :=
  ⟨S, (WSt.start h).kept ((Kept.refl _ _).alloc _), fun hx => Nat.lt_irrefl _ (h.lt _ hx).2, heap_alloc_new w _⟩

structure TagL where
  target : List Int
  kind : Int
  name : List Int
  who : List Int
  time : Int
  text : List Int
def TagL.row (t : TagL) : List Value := t.target.map (Value.int .u8) ++ [.int .i64 t.kind, .string (strOfNums t.name), .string (strOfNums t.who), .int .u64 t.time, .string (strOfNums t.text)]
structure TagL.Good (t : TagL) : Prop where
  target : GoodID t.target
  lo : -9223372036854775808 ≤ t.kind
  hi : t.kind ≤ 9223372036854775807
  name : GoodText t.name
  who : GoodText t.who
  t0 : 0 ≤ t.time
  t1 : t.time ≤ 18446744073709551615
  text : GoodText t.text
theorem tag_cells {w : World} {b : Nat} {t : TagL} {ty : TypeId} {fr : Nat × Nat} (hl : t.target.length = 32) (h : w.heap[b]? = some (.cells t.row.toArray ty fr)) :
    w.rangeAt b 0 (t.target.map (Value.int .u8)) ∧ w.cell? ⟨b, 32, none⟩ = some (.int .i64 t.kind) ∧ w.cell? ⟨b, 33, none⟩ = some (.string (strOfNums t.name)) ∧ w.cell? ⟨b, 34, none⟩ = some (.string (strOfNums t.who)) ∧
      w.cell? ⟨b, 35, none⟩ = some (.int .u64 t.time) ∧ w.cell? ⟨b, 36, none⟩ = some (.string (strOfNums t.text)) := by
  have hr := row_range h
  have hlm : (t.target.map (Value.int .u8)).length = 32 := by rw [List.length_map, hl]
  have key : ∀ j v, [Value.int .i64 t.kind, .string (strOfNums t.name), .string (strOfNums t.who), .int .u64 t.time, .string (strOfNums t.text)][j]? = some v → w.cell? ⟨b, 32 + j, none⟩ = some v := fun j v hj => by
    have := hr (32 + j) v (by unfold TagL.row; rw [List.getElem?_append_right (by omega), hlm, Nat.add_sub_cancel_left]; exact hj)
    rwa [Nat.zero_add] at this
  refine ⟨fun j v hj => hr j v ?_, key 0 _ rfl, key 1 _ rfl, key 2 _ rfl, key 3 _ rfl, key 4 _ rfl⟩
  unfold TagL.row
  rw [List.getElem?_append_left (List.getElem?_eq_some_iff.1 hj).1]
  exact hj

def signB [TabC] (who : List Int) (time : Int) (text : List Int) : Bool := lineB who 255 && decide (time ≤ 1099511627776) && decide (text.length ≤ 4096)
def faultG [TabC] (t : TagL) : Int := if modeB t.kind = false then 30 else if nameB t.name = false then 32 else if signB t.who t.time t.text = false then 36 else 0

set_option maxRecDepth 100000 in
set_option maxHeartbeats 1000000 in
theorem signFault_any [TabC] (who : List Int) (time : Int) (text : List Int) (w : World) (hT : Tabs w) (hw : GoodText who) (h0 : 0 ≤ time) (h1 : time ≤ 18446744073709551615) :
    Calls Tryz.prog 157 #[.string (strOfNums who), .int .u64 time, .string (strOfNums text)] w fun e w' => e = .returned (.int .i64 (if signB who time text = false then 36 else 0)) ∧ Kept [] w w' := by
  have hline := goodLine_any who hw.1 255 w (Nat.le_trans hw.2 (by decide)) hT
  have hsz := strOfNums_size text
  obtain ⟨rv, hrv⟩ : ∃ rv : Int, rv = if signB who time text = false then 36 else 0 := ⟨_, rfl⟩
  rw [← hrv]
  have HS : Hid (rv = if (lineB who 255 && decide (time ≤ 1099511627776) && decide (text.length ≤ 4096)) = false then 36 else 0) := hrv
  clear hrv
  have hd1 : decide (1099511627776 < time) = !decide (time ≤ 1099511627776) := by rw [← decide_not]; exact decide_eq_decide.2 (by omega)
  have hd2 : decide ((4096 : Int) < (text.length : Int)) = !decide (text.length ≤ 4096) := by rw [← decide_not]; exact decide_eq_decide.2 (by omega)
  generalize strOfNums who = sw at *
  generalize strOfNums text = st at *
  generalize lineB who 255 = b1 at *
  generalize decide (time ≤ 1099511627776) = b2 at *
  generalize decide (text.length ≤ 4096) = b3 at *
  clear hw hT
  cases b1 <;> cases b2 <;> cases b3
  all_goals go_enter Tryz.func157, Tryz.ntmps157
  all_goals go_wp2_with (go_at_call 141; refine hline.mono ?_; rintro e w1 ⟨rfl, hk1⟩; have HK1 : Hid _ := hk1; clear hk1)
  all_goals go_ret
  all_goals exact ⟨by rw [HS.out]; rfl, HK1.out⟩
end Go.Proofs.YtbphibolgckmnaaGreatDoor

namespace Go.Proofs.YtbphibolgckmnaaGreatDoor
open Go.RowKit

set_option maxRecDepth 100000 in
set_option maxHeartbeats 1000000 in
theorem tagFault_any [TabC] (t : TagL) (w : World) (hT : Tabs w) (hg : t.Good) :
    Calls Tryz.prog 160 #[.agg t.row.toArray] w fun e w' => e = .returned (.int .i64 (faultG t)) ∧ Kept [] w w' := by
  obtain ⟨c0, c1, c2, c3, c4, c5⟩ := tag_cells hg.target.1 (heap_alloc_new w (.cells t.row.toArray 116))
  have HK0 : Hid (Kept [] w (w.alloc (.cells t.row.toArray 116))) := (Kept.refl _ _).alloc _
  have hname := Name_any t.name hg.name.1 (w.alloc (.cells t.row.toArray 116)) (Nat.le_trans hg.name.2 (by decide)) (hT.kept HK0.out)
  have HSG : Hid (∀ W, Kept [] w W → Calls Tryz.prog 157 #[.string (strOfNums t.who), .int .u64 t.time, .string (strOfNums t.text)] W fun e w' => e = .returned (.int .i64 (if signB t.who t.time t.text = false then 36 else 0)) ∧ Kept [] W w') := fun W hW => signFault_any t.who t.time t.text W (hT.kept hW) hg.who hg.t0 hg.t1
  have HB : Hid ((w.alloc (.cells t.row.toArray 116)).heap[w.heap.size]? = some (.cells t.row.toArray 116 (0, 0))) := heap_alloc_new w _
  have HTC : Hid (∀ W : World, W.heap[w.heap.size]? = some (.cells t.row.toArray 116 (0, 0)) → W.cell? ⟨w.heap.size, 34, none⟩ = some (.string (strOfNums t.who)) ∧ W.cell? ⟨w.heap.size, 35, none⟩ = some (.int .u64 t.time) ∧ W.cell? ⟨w.heap.size, 36, none⟩ = some (.string (strOfNums t.text))) := fun W hW => (tag_cells hg.target.1 hW).2.2.2
  obtain ⟨rv, hrv⟩ : ∃ rv : Int, rv = faultG t := ⟨_, rfl⟩
  rw [← hrv]
  have HRV : Hid (rv = if modeB t.kind = false then 30 else if nameB t.name = false then 32 else if signB t.who t.time t.text = false then 36 else 0) := hrv
  have hlo := hg.lo
  have hhi := hg.hi
  obtain ⟨sv, hsv⟩ : ∃ sv : Int, sv = if signB t.who t.time t.text = false then 36 else 0 := ⟨_, rfl⟩
  rw [← hsv] at HSG HRV
  have hd : decide (t.kind < 1) = true ∧ modeB t.kind = false ∨ decide (t.kind < 1) = false ∧ decide (4 < t.kind) = true ∧ modeB t.kind = false ∨ decide (t.kind < 1) = false ∧ decide (4 < t.kind) = false ∧ modeB t.kind = true := by
    unfold modeB
    by_cases h1 : t.kind < 1
    · exact Or.inl ⟨decide_eq_true h1, by rw [decide_eq_false (by omega)]; rfl⟩
    · by_cases h2 : 4 < t.kind
      · exact Or.inr (Or.inl ⟨decide_eq_false h1, decide_eq_true h2, by rw [decide_eq_false (by omega : ¬ t.kind ≤ 4)]; simp⟩)
      · exact Or.inr (Or.inr ⟨decide_eq_false h1, decide_eq_false h2, by rw [decide_eq_true (by omega : 1 ≤ t.kind), decide_eq_true (by omega : t.kind ≤ 4)]; rfl⟩)
  clear hrv hsv hg hT
  generalize t.row.toArray = tr at *
  generalize t.kind = kd at *
  generalize strOfNums t.name = sn at *
  generalize strOfNums t.who = sw at *
  generalize strOfNums t.text = st at *
  generalize nameB t.name = nb at *
  rcases hd with ⟨h1, h2⟩ | ⟨h1, h2, h3⟩ | ⟨h1, h2, h3⟩
  · rw [h2] at HRV
    go_enter Tryz.func160, Tryz.ntmps160
    go_wp2
    go_ret
    exact ⟨by rw [HRV.out]; rfl, HK0.out⟩
  · rw [h3] at HRV
    go_enter Tryz.func160, Tryz.ntmps160
    go_wp2
    go_ret
    exact ⟨by rw [HRV.out]; rfl, HK0.out⟩
  · rw [h3] at HRV
    cases nb
    · go_enter Tryz.func160, Tryz.ntmps160
      go_wp2_with (go_at_call 140; refine hname.mono ?_; rintro e w1 ⟨rfl, hk1⟩; have HK1 : Hid (Kept [] w w1) := HK0.out.then hk1; clear hk1)
      go_ret
      exact ⟨by rw [HRV.out]; rfl, HK1.out⟩
    · go_enter Tryz.func160, Tryz.ntmps160
      go_wp2_with (first
        | (go_at_call 140; refine hname.mono ?_; rintro e w1 ⟨rfl, hk1⟩
           have HK1 : Hid (Kept [] w w1) := HK0.out.then hk1
           obtain ⟨d3, d4, d5⟩ := HTC.out w1 (hk1.heap HB.out (by simp))
           clear hk1)
        | (go_at_call 157; refine (HSG.out _ HK1.out).mono ?_; rintro e w2 ⟨rfl, hk2⟩
           have HK2 : Hid (Kept [] w w2) := HK1.out.then hk2
           clear hk2))
      go_ret
      exact ⟨by rw [HRV.out]; rfl, HK2.out⟩

/-- A tag's encoding. -/
def encG (t : TagL) : List Int := fixedB 4 1 ++ t.target ++ fixedB t.kind 1 ++ varB t.name.length ++ t.name ++ varB t.who.length ++ t.who ++ fixedB t.time 8 ++ varB t.text.length ++ t.text

end Go.Proofs.YtbphibolgckmnaaGreatDoor

namespace Go.Proofs.YtbphibolgckmnaaGreatDoor
open Go.RowKit

theorem fill_nil (place : Nat → Option (Nat × Nat)) (cells : Array Value) : Instr.fill place cells [] = some cells := rfl
set_option maxRecDepth 100000 in
theorem wpList_build_link1 {ops : Array Oper} {rest : List Oper} {o : Oper} {a : Act} {w : World} {Q : Exit → Act → World → Prop} (hgd : o.guard = none) (x : Operand) (ho : o.op = .buildSlice 57 1 #[(0, x)])
    (k : LinkL) (hg : k.id.length = 32) (hx : a.eval x = .agg k.row.toArray)
    (h : wpList Tryz.prog ops Q rest (a.put o.dst (.slice (some ⟨w.heap.size, 0, none⟩) 1 1)) (w.alloc (.cells k.row.toArray 100))) : wpList Tryz.prog ops Q (o :: rest) a w := by
  obtain ⟨i0, hi, he⟩ := Option.map_eq_some_iff.1 Tryz.zeroLink
  simp only [Prod.mk.injEq] at he
  obtain ⟨hz0, hz1, hz2⟩ := he
  have hkl : k.row.length = 33 := by simp [LinkL.row, hg]
  refine wpList_buildSlice hgd 57 100 1 _ ho k.row.toArray i0 (.agg zeroK.row.toArray) Tryz.underlying57 hi hz0 (by rw [hz1]; decide) (by rw [hz1]; decide) ?_ h
  rw [hz1]
  have e1 : ((#[(0, x)] : Array (Nat × Operand)).map fun (i, x) => (i, a.eval x)).toList = [(0, .agg k.row.toArray)] := by simp [hx]
  rw [e1, fill_step (fun i => some (i * 33, 33)) _ 0 (.agg k.row.toArray) _ 0 33 rfl (by show k.row.toArray.size = 33; rw [List.size_toArray, hkl]) (by simp)]
  rw [fill_nil]
  refine congrArg some ?_
  have e2 : (Value.agg k.row.toArray).cells.toList = k.row := rfl
  rw [e2]
  obtain ⟨s1, s2⟩ := setL_spec k.row 0 ((Array.range (1 * 33)).map ((Value.agg zeroK.row.toArray).cells[· % (Value.agg zeroK.row.toArray).cells.size]!))
  apply Array.ext_getElem?
  intro j
  have e3 : k.row.toArray[j]? = k.row[j]? := by simp
  rw [s2 j, e3, hkl, Array.size_map, Array.size_range]
  by_cases hj : j < 33
  · rw [if_pos ⟨Nat.zero_le _, by omega, by omega⟩, Nat.sub_zero]
  · rw [if_neg (by omega), List.getElem?_eq_none (by omega), Array.getElem?_eq_none (by rw [Array.size_map, Array.size_range]; omega)]

set_option maxRecDepth 100000 in
set_option maxHeartbeats 1000000 in
theorem tagChildren_any (t : TagL) (w : World) (hg : t.Good) :
    Calls Tryz.prog 159 #[.agg t.row.toArray] w fun e w' => ∃ b, e = .returned (.slice (some ⟨b, 0, none⟩) 1 1) ∧ RowsIn w' b 100 [(LinkL.mk t.target t.kind).row] ∧ w.heap.size ≤ b ∧ Kept [] w w' := by
  obtain ⟨c0, c1, c2, c3, c4, c5⟩ := tag_cells hg.target.1 (heap_alloc_new w (.cells t.row.toArray 116))
  have hbl := built_link t.target hg.target.1 t.kind
  have hsi : (Tryz.prog.info? 29).map (·.size) = some (t.target.map (Value.int .u8)).length := by rw [List.length_map, hg.target.1]; exact Tryz.infoID
  have hmid : (t.target.map (Value.int .u8)).toArray = idC t.target := rfl
  have hl := hg.target.1
  clear hg
  generalize t.row.toArray = tr at *
  have HF : Hid (RowsIn ((w.alloc (.cells tr 116)).alloc (.cells (LinkL.mk t.target t.kind).row.toArray 100)) (w.heap.size + 1) 100 [(LinkL.mk t.target t.kind).row]) := by
    have h := heap_alloc_new (w.alloc (.cells tr 116)) (.cells (LinkL.mk t.target t.kind).row.toArray 100)
    rw [World.size_alloc] at h
    unfold RowsIn
    rw [List.flatten_singleton]
    exact h
  go_enter Tryz.func159, Tryz.ntmps159
  go_wp2_with (first
    | (refine wpList_load_mid (by rfl) 29 (.tmp 3) (by rfl) w.heap.size 0 (by rfl) (t.target.map (Value.int .u8)) _ c0 Tryz.underlying29 rfl hsi ?_; rw [hmid])
    | (refine wpList_build_some (by rfl) 100 _ (by rfl) (LinkL.mk t.target t.kind).row.toArray (by simp; exact hbl) ?_)
    | (refine wpList_build_link1 (by rfl) (.tmp 7) (by rfl) (LinkL.mk t.target t.kind) hl (by rfl) ?_))
  go_ret
  exact ⟨w.heap.size + 1, by simp, HF.out, by omega, ((Kept.refl _ _).alloc _).alloc _⟩

/-- A Reader, and two variables beside it, since w0. -/
structure RV (w0 W : World) (r g : Nat) (xs : List Int) (p q b0 b1 : Nat) (c0 c1 : Array Value) (ty : TypeId) : Prop where
  rd : Rdr W r g xs p q
  v0 : W.heap[b0]? = some (.cells c0 ty (0, 0))
  v1 : W.heap[b1]? = some (.cells c1 ty (0, 0))
  keep : Kept [r] w0 W
  a0 : w0.heap.size ≤ b0
  a1 : b0 < b1
  rl : r < w0.heap.size
  gl : g < w0.heap.size
section
variable {w0 W W' : World} {r g : Nat} {xs : List Int} {p q p' q' b0 b1 : Nat} {c0 c1 : Array Value} {ty : TypeId}
theorem RV.step (h : RV w0 W r g xs p q b0 b1 c0 c1 ty) (hr : Rdr W' r g xs p' q') (k : Kept [r] W W') : RV w0 W' r g xs p' q' b0 b1 c0 c1 ty :=
  ⟨hr, k.heap h.v0 (by have := h.a0; have := h.rl; simp; omega), k.heap h.v1 (by have := h.a0; have := h.a1; have := h.rl; simp; omega), h.keep.then k, h.a0, h.a1, h.rl, h.gl⟩
theorem RV.set (h : RV w0 W r g xs p q b0 b1 c0 c1 ty) (o : Nat) (v : Value) : RV w0 (W.setCell ⟨b1, o, none⟩ v) r g xs p q b0 b1 c0 (c1.setIfInBounds o v) ty := by
  have h1 := h.a0
  have h2 := h.a1
  have h3 := h.rl
  have h4 := h.gl
  have k : Kept [b1] W (W.setCell ⟨b1, o, none⟩ v) := (Kept.refl _ _).setCell (Or.inl (by simp)) _
  exact ⟨h.rd.kept k (by simp; omega) (by simp; omega), k.heap h.v0 (by simp; omega), heap_setCell_same _ _ _ _ _ _ h.v1, h.keep.setCell (Or.inr (by show w0.heap.size ≤ b1; omega)) _, h1, h2, h3, h4⟩
end

def zeroG : TagL := ⟨zero32, 0, [], [], 0, []⟩
theorem Tryz.builtTag (parts : List (Nat × Value)) : Tryz.prog.built 116 parts = Instr.fill (fun i => (#[(0, 32), (32, 1), (33, 1), (34, 1), (35, 1), (36, 1)] : Array (Nat × Nat))[i]?) zeroG.row.toArray parts := by kernel_rfl
theorem built_tag (id : List Int) (hi : id.length = 32) : Tryz.prog.built 116 [(0, .agg (idC id))] = some (TagL.mk id 0 [] [] 0 []).row.toArray := by
  rw [Tryz.builtTag, fill_step (fun i => (#[(0, 32), (32, 1), (33, 1), (34, 1), (35, 1), (36, 1)] : Array (Nat × Nat))[i]?) zeroG.row.toArray 0 (.agg (idC id)) _ 0 32 rfl (idC_size hi) (by decide), fill_nil]
  have e : (Value.agg (idC id)).cells.toList = id.map (Value.int .u8) := rfl
  rw [e, setL_put _ _ _ (by rw [List.length_map, hi]; decide)]
  congr 2
  unfold putL TagL.row zeroG
  simp [zero32, hi]
theorem tag_set (t : TagL) (hl : t.target.length = 32) : (∀ k, t.row.toArray.setIfInBounds 32 (.int .i64 k) = ({ t with kind := k } : TagL).row.toArray) ∧ (∀ s, t.row.toArray.setIfInBounds 33 (.string (strOfNums s)) = ({ t with name := s } : TagL).row.toArray) ∧
    (∀ s, t.row.toArray.setIfInBounds 34 (.string (strOfNums s)) = ({ t with who := s } : TagL).row.toArray) ∧ (∀ k, t.row.toArray.setIfInBounds 35 (.int .u64 k) = ({ t with time := k } : TagL).row.toArray) ∧
    (∀ s, t.row.toArray.setIfInBounds 36 (.string (strOfNums s)) = ({ t with text := s } : TagL).row.toArray) := by
  have hm : (t.target.map (Value.int .u8)).length = 32 := by rw [List.length_map, hl]
  refine ⟨fun k => ?_, fun k => ?_, fun k => ?_, fun k => ?_, fun k => ?_⟩
  all_goals
    unfold TagL.row
    rw [List.setIfInBounds_toArray, List.set_append_right _ _ (by omega), hm]
    rfl
theorem tag_len (t : TagL) (hl : t.target.length = 32) : t.row.toArray.size = 37 := by simp [TagL.row, hl]
theorem tag_one (t : TagL) : t.row.toArray.all (·.oneCell') = true := all_oneCell_toArray fun v hv => by
  unfold TagL.row at hv
  rcases List.mem_append.1 hv with h | h
  · exact map_oneCell _ v h
  · simp at h
    rcases h with rfl | rfl | rfl | rfl | rfl <;> rfl
end Go.Proofs.YtbphibolgckmnaaGreatDoor
