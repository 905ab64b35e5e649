/-
  What is built of parts; links; WALK: (object.tree).children.
  A Writer beside a variable; tags; WALKS: object.signFault, (object.tag).fault, (object.tag).write.
  WALKS: (object.tag).fault, write, children.
  WALKS: (object.tag).children, object.readTag.
  APPEND of one struct of k cells to a list of one's own; a list of one struct made anew.
-/
import Derived.Test.YtddhhjgegkkjbaaGreatDoorEnt3
import Derived.Great.BuildSlice
import Derived.Maps.AppendAt
import Derived.Deep.RegionLaw
namespace Go.Proofs.YtddhhjgegkkjbaaGreatDoor
open Go.RowKit

theorem foldl_setL (off : Nat) : ∀ (l : List Value) (s : Nat) (cs : Array Value), (l.zipIdx s).foldl (fun cs (x : Value × Nat) => cs.setIfInBounds (off + x.2) x.1) cs = setL cs (off + s) l
  | [], _, _ => rfl
  | v :: r, s, cs => by
    rw [List.zipIdx_cons, List.foldl_cons, foldl_setL off r (s + 1)]
    rfl
theorem fill_step (place : Nat → Option (Nat × Nat)) (cells : Array Value) (i : Nat) (v : Value) (rest : List (Nat × Value)) (off size : Nat) (hp : place i = some (off, size)) (hs : v.cells.size = size) (hc : off + size ≤ cells.size) :
    Instr.fill place cells ((i, v) :: rest) = Instr.fill place (setL cells off v.cells.toList) rest := by
  rw [Instr.fill, hp]
  simp only [hs]
  rw [if_neg (by simp; omega)]
  congr 1
  have h := foldl_setL off v.cells.toList 0 cells
  rw [Nat.add_zero] at h
  rw [← h, ← Array.foldl_toList, Array.toList_zipIdx]
theorem setL_put (cs : List Value) (o : Nat) (vs : List Value) (h : o + vs.length ≤ cs.length) : setL cs.toArray o vs = (putL cs o vs).toArray := by
  obtain ⟨s1, s2⟩ := setL_spec vs o cs.toArray
  apply Array.ext_getElem?
  intro j
  have e1 : (putL cs o vs).toArray[j]? = (putL cs o vs)[j]? := by simp
  have e2 : cs.toArray[j]? = cs[j]? := by simp
  rw [s2 j, e1, e2, putL_get h, List.size_toArray]
  by_cases hc : o ≤ j ∧ j < o + vs.length
  · rw [if_pos hc, if_pos ⟨hc.1, hc.2, by omega⟩]
  · rw [if_neg hc, if_neg (by omega)]

structure LinkL where
  id : List Int
  kind : Int
def LinkL.row (l : LinkL) : List Value := l.id.map (Value.int .u8) ++ [.int .i64 l.kind]
theorem wpList_build_some {ops : Array Oper} {rest : List Oper} {o : Oper} {a : Act} {w : World} {Q : Exit → Act → World → Prop} (hgd : o.guard = none) (t : TypeId) (parts : Array (Nat × Operand)) (ho : o.op = .build t parts) (cells : Array Value)
    (hb : Tryz.prog.built t (parts.map fun (i, x) => (i, a.eval x)).toList = some cells) (h : wpList Tryz.prog ops Q rest (a.put o.dst (.agg cells)) w) : wpList Tryz.prog ops Q (o :: rest) a w := by
  refine wpList_build hgd t parts ho (by rw [hb]; rfl) ?_
  rw [hb]
  exact h

end Go.Proofs.YtddhhjgegkkjbaaGreatDoor

namespace Go.Proofs.YtddhhjgegkkjbaaGreatDoor
open Go.RowKit

/-- A Writer on its way, and a variable that it does not touch. -/
def WB (w0 W : World) (wb B : Nat) (zs : List Int) (S : List Nat) (b : Nat) (cs : Array Value) (ty : TypeId) : Prop := ∃ S', WSt w0 W wb B zs S S' ∧ b ∉ S' ∧ W.heap[b]? = some (.cells cs ty (0, 0))
section
variable {w0 W : World} {wb B : Nat} {zs : List Int} {S : List Nat} {b : Nat} {cs : Array Value} {ty : TypeId}
theorem WB.next {us : List Int} {S' : List Nat} (h : WSt w0 W wb B zs S S') (hb : b ∉ S') (hc : W.heap[b]? = some (.cells cs ty (0, 0))) {W' : World} (k : Wrote W W' wb B us S') : WB w0 W' wb B us S b cs ty := by
  obtain ⟨S'', h1, h2, h3⟩ := h.next k
  refine ⟨S'', h1, fun hx => ?_, h2.heap hc hb⟩
  rcases h3 b hx with h | h
  · exact hb h
  · exact absurd (lt_of_block hc) (by omega)
theorem WB.block (h : WB w0 W wb B zs S b cs ty) : W.heap[b]? = some (.cells cs ty (0, 0)) := h.elim fun _ q => q.2.2
end
theorem WB.start {w : World} {wb B : Nat} {zs : List Int} {S : List Nat} (h : WAt w wb B zs S) (cs : Array Value) (ty : TypeId) : WB w (w.alloc (.cells cs ty)) wb B zs S w.heap.size cs ty :=
  ⟨S, (WSt.start h).kept ((Kept.refl _ _).alloc _), fun hx => Nat.lt_irrefl _ (h.lt _ hx).2, heap_alloc_new w _⟩

structure TagL where
  target : List Int
  kind : Int
  name : List Int
  who : List Int
  time : Int
  text : List Int
def TagL.row (t : TagL) : List Value := t.target.map (Value.int .u8) ++ [.int .i64 t.kind, .string (strOfNums t.name), .string (strOfNums t.who), .int .u64 t.time, .string (strOfNums t.text)]
structure TagL.Good (t : TagL) : Prop where
  target : GoodID t.target
  lo : -9223372036854775808 ≤ t.kind
  hi : t.kind ≤ 9223372036854775807
  name : GoodText t.name
  who : GoodText t.who
  t0 : 0 ≤ t.time
  t1 : t.time ≤ 18446744073709551615
  text : GoodText t.text
theorem tag_cells {w : World} {b : Nat} {t : TagL} {ty : TypeId} {fr : Nat × Nat} (hl : t.target.length = 32) (h : w.heap[b]? = some (.cells t.row.toArray ty fr)) :
    w.rangeAt b 0 (t.target.map (Value.int .u8)) ∧ w.cell? ⟨b, 32, none⟩ = some (.int .i64 t.kind) ∧ w.cell? ⟨b, 33, none⟩ = some (.string (strOfNums t.name)) ∧ w.cell? ⟨b, 34, none⟩ = some (.string (strOfNums t.who)) ∧
      w.cell? ⟨b, 35, none⟩ = some (.int .u64 t.time) ∧ w.cell? ⟨b, 36, none⟩ = some (.string (strOfNums t.text)) := by
  have hr := row_range h
  have hlm : (t.target.map (Value.int .u8)).length = 32 := by rw [List.length_map, hl]
  have key : ∀ j v, [Value.int .i64 t.kind, .string (strOfNums t.name), .string (strOfNums t.who), .int .u64 t.time, .string (strOfNums t.text)][j]? = some v → w.cell? ⟨b, 32 + j, none⟩ = some v := fun j v hj => by
    have := hr (32 + j) v (by unfold TagL.row; rw [List.getElem?_append_right (by omega), hlm, Nat.add_sub_cancel_left]; exact hj)
    rwa [Nat.zero_add] at this
  refine ⟨fun j v hj => hr j v ?_, key 0 _ rfl, key 1 _ rfl, key 2 _ rfl, key 3 _ rfl, key 4 _ rfl⟩
  unfold TagL.row
  rw [List.getElem?_append_left (List.getElem?_eq_some_iff.1 hj).1]
  exact hj

def signB [TabC] (who : List Int) (time : Int) (text : List Int) : Bool := lineB who 255 && decide (time ≤ 1099511627776) && decide (text.length ≤ 4096)
def faultG [TabC] (t : TagL) : Int := if modeB t.kind = false then 30 else if nameB t.name = false then 32 else if signB t.who t.time t.text = false then 36 else 0

set_option maxRecDepth 100000 in
set_option maxHeartbeats 1000000 in
theorem signFault_any [TabC] (who : List Int) (time : Int) (text : List Int) (w : World) (hT : Tabs w) (hw : GoodText who) (h0 : 0 ≤ time) (h1 : time ≤ 18446744073709551615) :
    Calls Tryz.prog 146 #[.string (strOfNums who), .int .u64 time, .string (strOfNums text)] w fun e w' => e = .returned (.int .i64 (if signB who time text = false then 36 else 0)) ∧ Kept [] w w' := by
  have hline := goodLine_any who hw.1 255 w (Nat.le_trans hw.2 (by decide)) hT
  have hsz := strOfNums_size text
  obtain ⟨rv, hrv⟩ : ∃ rv : Int, rv = if signB who time text = false then 36 else 0 := ⟨_, rfl⟩
  rw [← hrv]
  have HS : Hid (rv = if (lineB who 255 && decide (time ≤ 1099511627776) && decide (text.length ≤ 4096)) = false then 36 else 0) := hrv
  clear hrv
  have hd1 : decide (1099511627776 < time) = !decide (time ≤ 1099511627776) := by rw [← decide_not]; exact decide_eq_decide.2 (by omega)
  have hd2 : decide ((4096 : Int) < (text.length : Int)) = !decide (text.length ≤ 4096) := by rw [← decide_not]; exact decide_eq_decide.2 (by omega)
  generalize strOfNums who = sw at *
  generalize strOfNums text = st at *
  generalize lineB who 255 = b1 at *
  generalize decide (time ≤ 1099511627776) = b2 at *
  generalize decide (text.length ≤ 4096) = b3 at *
  clear hw hT
  cases b1 <;> cases b2 <;> cases b3
  all_goals go_enter Tryz.func146, Tryz.ntmps146
  all_goals go_wp2_with (go_at_call 130; refine hline.mono ?_; rintro e w1 ⟨rfl, hk1⟩; have HK1 : Hid _ := hk1; clear hk1)
  all_goals go_ret
  all_goals exact ⟨by rw [HS.out]; rfl, HK1.out⟩
end Go.Proofs.YtddhhjgegkkjbaaGreatDoor

namespace Go.Proofs.YtddhhjgegkkjbaaGreatDoor
open Go.RowKit

set_option maxRecDepth 100000 in
set_option maxHeartbeats 1000000 in
theorem tagFault_any [TabC] (t : TagL) (w : World) (hT : Tabs w) (hg : t.Good) :
    Calls Tryz.prog 149 #[.agg t.row.toArray] w fun e w' => e = .returned (.int .i64 (faultG t)) ∧ Kept [] w w' := by
  obtain ⟨c0, c1, c2, c3, c4, c5⟩ := tag_cells hg.target.1 (heap_alloc_new w (.cells t.row.toArray 104))
  have HK0 : Hid (Kept [] w (w.alloc (.cells t.row.toArray 104))) := (Kept.refl _ _).alloc _
  have hname := Name_any t.name hg.name.1 (w.alloc (.cells t.row.toArray 104)) (Nat.le_trans hg.name.2 (by decide)) (hT.kept HK0.out)
  have HSG : Hid (∀ W, Kept [] w W → Calls Tryz.prog 146 #[.string (strOfNums t.who), .int .u64 t.time, .string (strOfNums t.text)] W fun e w' => e = .returned (.int .i64 (if signB t.who t.time t.text = false then 36 else 0)) ∧ Kept [] W w') := fun W hW => signFault_any t.who t.time t.text W (hT.kept hW) hg.who hg.t0 hg.t1
  have HB : Hid ((w.alloc (.cells t.row.toArray 104)).heap[w.heap.size]? = some (.cells t.row.toArray 104 (0, 0))) := heap_alloc_new w _
  have HTC : Hid (∀ W : World, W.heap[w.heap.size]? = some (.cells t.row.toArray 104 (0, 0)) → W.cell? ⟨w.heap.size, 34, none⟩ = some (.string (strOfNums t.who)) ∧ W.cell? ⟨w.heap.size, 35, none⟩ = some (.int .u64 t.time) ∧ W.cell? ⟨w.heap.size, 36, none⟩ = some (.string (strOfNums t.text))) := fun W hW => (tag_cells hg.target.1 hW).2.2.2
  obtain ⟨rv, hrv⟩ : ∃ rv : Int, rv = faultG t := ⟨_, rfl⟩
  rw [← hrv]
  have HRV : Hid (rv = if modeB t.kind = false then 30 else if nameB t.name = false then 32 else if signB t.who t.time t.text = false then 36 else 0) := hrv
  have hlo := hg.lo
  have hhi := hg.hi
  obtain ⟨sv, hsv⟩ : ∃ sv : Int, sv = if signB t.who t.time t.text = false then 36 else 0 := ⟨_, rfl⟩
  rw [← hsv] at HSG HRV
  have hd : decide (t.kind < 1) = true ∧ modeB t.kind = false ∨ decide (t.kind < 1) = false ∧ decide (4 < t.kind) = true ∧ modeB t.kind = false ∨ decide (t.kind < 1) = false ∧ decide (4 < t.kind) = false ∧ modeB t.kind = true := by
    unfold modeB
    by_cases h1 : t.kind < 1
    · exact Or.inl ⟨decide_eq_true h1, by rw [decide_eq_false (by omega)]; rfl⟩
    · by_cases h2 : 4 < t.kind
      · exact Or.inr (Or.inl ⟨decide_eq_false h1, decide_eq_true h2, by rw [decide_eq_false (by omega : ¬ t.kind ≤ 4)]; simp⟩)
      · exact Or.inr (Or.inr ⟨decide_eq_false h1, decide_eq_false h2, by rw [decide_eq_true (by omega : 1 ≤ t.kind), decide_eq_true (by omega : t.kind ≤ 4)]; rfl⟩)
  clear hrv hsv hg hT
  generalize t.row.toArray = tr at *
  generalize t.kind = kd at *
  generalize strOfNums t.name = sn at *
  generalize strOfNums t.who = sw at *
  generalize strOfNums t.text = st at *
  generalize nameB t.name = nb at *
  rcases hd with ⟨h1, h2⟩ | ⟨h1, h2, h3⟩ | ⟨h1, h2, h3⟩
  · rw [h2] at HRV
    go_enter Tryz.func149, Tryz.ntmps149
    go_wp2
    go_ret
    exact ⟨by rw [HRV.out]; rfl, HK0.out⟩
  · rw [h3] at HRV
    go_enter Tryz.func149, Tryz.ntmps149
    go_wp2
    go_ret
    exact ⟨by rw [HRV.out]; rfl, HK0.out⟩
  · rw [h3] at HRV
    cases nb
    · go_enter Tryz.func149, Tryz.ntmps149
      go_wp2_with (go_at_call 129; refine hname.mono ?_; rintro e w1 ⟨rfl, hk1⟩; have HK1 : Hid (Kept [] w w1) := HK0.out.then hk1; clear hk1)
      go_ret
      exact ⟨by rw [HRV.out]; rfl, HK1.out⟩
    · go_enter Tryz.func149, Tryz.ntmps149
      go_wp2_with (first
        | (go_at_call 129; refine hname.mono ?_; rintro e w1 ⟨rfl, hk1⟩
           have HK1 : Hid (Kept [] w w1) := HK0.out.then hk1
           obtain ⟨d3, d4, d5⟩ := HTC.out w1 (hk1.heap HB.out (by simp))
           clear hk1)
        | (go_at_call 146; refine (HSG.out _ HK1.out).mono ?_; rintro e w2 ⟨rfl, hk2⟩
           have HK2 : Hid (Kept [] w w2) := HK1.out.then hk2
           clear hk2))
      go_ret
      exact ⟨by rw [HRV.out]; rfl, HK2.out⟩

/-- A tag's encoding. -/
def encG (t : TagL) : List Int := fixedB 4 1 ++ t.target ++ fixedB t.kind 1 ++ varB t.name.length ++ t.name ++ varB t.who.length ++ t.who ++ fixedB t.time 8 ++ varB t.text.length ++ t.text

end Go.Proofs.YtddhhjgegkkjbaaGreatDoor

namespace Go.Proofs.YtddhhjgegkkjbaaGreatDoor
open Go.RowKit

theorem fill_nil (place : Nat → Option (Nat × Nat)) (cells : Array Value) : Instr.fill place cells [] = some cells := rfl
/-- A Reader, and two variables beside it, since w0. -/
structure RV (w0 W : World) (r g : Nat) (xs : List Int) (p q b0 b1 : Nat) (c0 c1 : Array Value) (ty : TypeId) : Prop where
  rd : Rdr W r g xs p q
  v0 : W.heap[b0]? = some (.cells c0 ty (0, 0))
  v1 : W.heap[b1]? = some (.cells c1 ty (0, 0))
  keep : Kept [r] w0 W
  a0 : w0.heap.size ≤ b0
  a1 : b0 < b1
  rl : r < w0.heap.size
  gl : g < w0.heap.size
section
variable {w0 W W' : World} {r g : Nat} {xs : List Int} {p q p' q' b0 b1 : Nat} {c0 c1 : Array Value} {ty : TypeId}
theorem RV.step (h : RV w0 W r g xs p q b0 b1 c0 c1 ty) (hr : Rdr W' r g xs p' q') (k : Kept [r] W W') : RV w0 W' r g xs p' q' b0 b1 c0 c1 ty :=
  ⟨hr, k.heap h.v0 (by have := h.a0; have := h.rl; simp; omega), k.heap h.v1 (by have := h.a0; have := h.a1; have := h.rl; simp; omega), h.keep.then k, h.a0, h.a1, h.rl, h.gl⟩
theorem RV.set (h : RV w0 W r g xs p q b0 b1 c0 c1 ty) (o : Nat) (v : Value) : RV w0 (W.setCell ⟨b1, o, none⟩ v) r g xs p q b0 b1 c0 (c1.setIfInBounds o v) ty := by
  have h1 := h.a0
  have h2 := h.a1
  have h3 := h.rl
  have h4 := h.gl
  have k : Kept [b1] W (W.setCell ⟨b1, o, none⟩ v) := (Kept.refl _ _).setCell (Or.inl (by simp)) _
  exact ⟨h.rd.kept k (by simp; omega) (by simp; omega), k.heap h.v0 (by simp; omega), heap_setCell_same _ _ _ _ _ _ h.v1, h.keep.setCell (Or.inr (by show w0.heap.size ≤ b1; omega)) _, h1, h2, h3, h4⟩
end

def zeroG : TagL := ⟨zero32, 0, [], [], 0, []⟩
theorem Tryz.builtTag (parts : List (Nat × Value)) : Tryz.prog.built 104 parts = Instr.fill (fun i => (#[(0, 32), (32, 1), (33, 1), (34, 1), (35, 1), (36, 1)] : Array (Nat × Nat))[i]?) zeroG.row.toArray parts := by kernel_rfl
theorem built_tag (id : List Int) (hi : id.length = 32) : Tryz.prog.built 104 [(0, .agg (idC id))] = some (TagL.mk id 0 [] [] 0 []).row.toArray := by
  rw [Tryz.builtTag, fill_step (fun i => (#[(0, 32), (32, 1), (33, 1), (34, 1), (35, 1), (36, 1)] : Array (Nat × Nat))[i]?) zeroG.row.toArray 0 (.agg (idC id)) _ 0 32 rfl (idC_size hi) (by decide), fill_nil]
  have e : (Value.agg (idC id)).cells.toList = id.map (Value.int .u8) := rfl
  rw [e, setL_put _ _ _ (by rw [List.length_map, hi]; decide)]
  congr 2
  unfold putL TagL.row zeroG
  simp [zero32, hi]
theorem tag_set (t : TagL) (hl : t.target.length = 32) : (∀ k, t.row.toArray.setIfInBounds 32 (.int .i64 k) = ({ t with kind := k } : TagL).row.toArray) ∧ (∀ s, t.row.toArray.setIfInBounds 33 (.string (strOfNums s)) = ({ t with name := s } : TagL).row.toArray) ∧
    (∀ s, t.row.toArray.setIfInBounds 34 (.string (strOfNums s)) = ({ t with who := s } : TagL).row.toArray) ∧ (∀ k, t.row.toArray.setIfInBounds 35 (.int .u64 k) = ({ t with time := k } : TagL).row.toArray) ∧
    (∀ s, t.row.toArray.setIfInBounds 36 (.string (strOfNums s)) = ({ t with text := s } : TagL).row.toArray) := by
  have hm : (t.target.map (Value.int .u8)).length = 32 := by rw [List.length_map, hl]
  refine ⟨fun k => ?_, fun k => ?_, fun k => ?_, fun k => ?_, fun k => ?_⟩
  all_goals
    unfold TagL.row
    rw [List.setIfInBounds_toArray, List.set_append_right _ _ (by omega), hm]
    rfl
theorem tag_len (t : TagL) (hl : t.target.length = 32) : t.row.toArray.size = 37 := by simp [TagL.row, hl]
theorem tag_one (t : TagL) : t.row.toArray.all (·.oneCell') = true := all_oneCell_toArray fun v hv => by
  unfold TagL.row at hv
  rcases List.mem_append.1 hv with h | h
  · exact map_oneCell _ v h
  · simp at h
    rcases h with rfl | rfl | rfl | rfl | rfl <;> rfl
end Go.Proofs.YtddhhjgegkkjbaaGreatDoor

namespace Go.Proofs.YtddhhjgegkkjbaaGreatDoor
open Go.RowKit

theorem step_append_k {ops : Array Oper} {o : Oper} {a : Act} {w : World} {K : Act → World → Prop} {Q : Exit → Act → World → Prop} {E : Prop} (hgd : o.guard = none) (s x : Operand) (T e : TypeId) (z : Value) (k bytes : Nat)
    (hT : Tryz.prog.underlying T = some (.slice e)) (hinfo : (Tryz.prog.info? e).map (fun i => (i.zero, i.size, i.bytes)) = some (some z, k, bytes)) (hzk : z.cells.size = k) (hk : 0 < k)
    (ho : o.op = .call { callee := .builtin .append, args := #[s, x], argTypes := #[T, T] }) {B : Nat} {v : Value} {n : Nat} {xs : List Value} (hs : a.eval s = v) (hown : w.ownsRow B e k v n xs)
    {q : Nat} {us : List Value} (hx : a.eval x = .slice (some ⟨q, 0, none⟩) 1 1) (hul : us.length = k) (hc : w.rangeAt q 0 us) (hu : ∀ u, u ∈ us → u.oneCell' = true) (hl : n ≤ 1000000) (hb : bytes ≤ 1000) (hB : B ≤ w.heap.size)
    (h : ∀ v' w', w'.ownsRow B e k v' (n + 1) (xs ++ us) → Kept v.ownBlock.toList w w' → (v'.ownBlock = v.ownBlock ∨ v'.ownBlock = some w.heap.size) → K (a.put o.dst v') w') : if Region.wanted o (yielded ops a.tmps) = true then Oper.wp Tryz.prog o a w K Q else E := by
  have hw : Region.wanted o (yielded ops a.tmps) = true := by simp [Region.wanted, hgd]
  rw [if_pos hw]
  obtain ⟨i0, hi, hez⟩ := Option.map_eq_some_iff.1 hinfo
  simp only [Prod.mk.injEq] at hez
  obtain ⟨q0, q1, q2⟩ := hez
  have hnews : ∀ j t, us[j]? = some t → w.cell? ((⟨q, 0, none⟩ : Addr).add j) = some t := fun j t ht => by
    rw [Addr.add_mid]
    exact hc j t ht
  have hmul : (n + 1) * bytes ≤ (1000000 + 1) * 1000 := Nat.mul_le_mul (by omega) hb
  obtain ⟨v', w', hr, h2, h3, _, h5⟩ := run_append_own_at (P := Tryz.prog) w B T o.type e i0 z k bytes hT hi q0 q1 q2 hzk hk v n xs hown ⟨q, 0, none⟩ 1 1 us (by rw [hul, Nat.one_mul]) hnews hu (by unfold maxLen; omega) (by omega) hB
  unfold Oper.wp execOp
  simp only [ho, resolve, invoke, builtin, Sem.run_bind, Sem.run_pure, Result.andThen_ok, List.map_toArray, List.map_cons, List.map_nil, hs, hx, hr]
  exact h v' w' h2 ((Kept.refl _ _).grown h3 fun k hk => Or.inl (by simp [hk])) h5
theorem run_build_k {t e : TypeId} {z : List Value} {k bytes : Nat} (hT : Tryz.prog.underlying t = some (.slice e)) (hinfo : (Tryz.prog.info? e).map (fun i => (i.zero, i.size, i.bytes)) = some (some (.agg z.toArray), k, bytes)) (hk : 0 < k) (hk2 : k ≤ 1000) (us : List Value) (hul : us.length = k) (W : World) :
    (Instr.buildSlice t 1 #[(0, .agg us.toArray)]).run Tryz.prog W = .ok (.slice (some ⟨W.heap.size, 0, none⟩) 1 1) (W.alloc (.cells us.toArray e)) := by
  obtain ⟨i0, hi, hez⟩ := Option.map_eq_some_iff.1 hinfo
  simp only [Prod.mk.injEq] at hez
  obtain ⟨q0, q1, q2⟩ := hez
  refine run_buildSlice W t e 1 _ us.toArray i0 (.agg z.toArray) hT hi q0 (by rw [q1]; omega) (by rw [q1]; omega) ?_
  have hsz : ((Array.range (1 * i0.size)).map ((Value.agg z.toArray).cells[· % (Value.agg z.toArray).cells.size]!)).size = k := by simp [q1]
  generalize (Array.range (1 * i0.size)).map ((Value.agg z.toArray).cells[· % (Value.agg z.toArray).cells.size]!) = C at *
  obtain ⟨C⟩ := C
  show Instr.fill (fun i => some (i * i0.size, i0.size)) C.toArray [(0, .agg us.toArray)] = some us.toArray
  have hC : C.length = k := by simpa using hsz
  rw [fill_step (fun i => some (i * i0.size, i0.size)) C.toArray 0 (.agg us.toArray) [] 0 k (by simp [q1]) (by show us.toArray.size = k; simpa using hul) (by simp [hC])]
  have e1 : (Value.agg us.toArray).cells.toList = us := rfl
  rw [e1, setL_put _ _ _ (by omega), fill_nil]
  unfold putL
  rw [List.take_zero, List.nil_append, Nat.zero_add, hul, List.drop_eq_nil_of_le (by omega), List.append_nil]
theorem ownsK_on {w w' : World} {B : Nat} {e : TypeId} {k : Nat} {v : Value} {n : Nat} {xs : List Value} {T : List Nat} (h : w.ownsRow B e k v n xs) (q : Kept T w w') (hn : ∀ g, v.ownBlock = some g → g ∉ T) : w'.ownsRow B e k v n xs := by
  obtain ⟨hl, h | ⟨g, cap, cur, hv, hB, hg, h1, h2, h3, h4⟩⟩ := h
  · exact ⟨hl, Or.inl h⟩
  · refine ⟨hl, Or.inr ⟨g, cap, cur, hv, hB, q.heap hg (hn g (by rw [hv]; rfl)), h1, h2, h3, h4⟩⟩
/-- Such a list, row by row. -/
theorem ownsK_rows {w : World} {B : Nat} {e : TypeId} {k : Nat} (hk : 0 < k) {v : Value} {rows : List (List Value)} (hr : ∀ r, r ∈ rows → r.length = k) (h : w.ownsRow B e k v rows.length rows.flatten) (hn : rows.length ≤ 140737488351232) : RowsAt w v k rows := by
  obtain ⟨hl, ⟨rfl, h0⟩ | ⟨g, cap, cur, rfl, hB, hg, h1, h2, h3, h4⟩⟩ := h
  · have e0 : rows = [] := by
      cases rows with
      | nil => rfl
      | cons r rs => simp at h0
    subst e0
    exact ⟨none, 0, rfl, Nat.le_refl _, fun _ => rfl, by simp, fun e => absurd rfl e⟩
  · refine ⟨_, cap, rfl, h1, fun e => by simp at e, hn, fun _ => ⟨g, 0, rfl, fun i cs hi j u hj => ?_⟩⟩
    rw [cell_of_row _ _ _ _ _ _ hg, Nat.zero_add]
    have hjk : j < k := by
      have := (List.getElem?_eq_some_iff.1 hj).1
      have := hr cs (List.mem_of_getElem? hi)
      omega
    have hi2 : i < rows.length := (List.getElem?_eq_some_iff.1 hi).1
    have e1 : rows.flatten[i * k + j]? = some u := by
      rw [flat_bind k hk rows hr, Nat.mul_comm i k, Nat.mul_add_div hk, Nat.div_eq_of_lt hjk, Nat.add_zero, hi, Nat.mul_add_mod, Nat.mod_eq_of_lt hjk]
      exact hj
    rw [← h4, List.getElem?_take_of_lt ?_] at e1
    · rw [← e1, Array.getElem?_toList]
    · have : i * k + k ≤ rows.length * k := by rw [← Nat.succ_mul]; exact Nat.mul_le_mul_right k hi2
      omega
end Go.Proofs.YtddhhjgegkkjbaaGreatDoor
