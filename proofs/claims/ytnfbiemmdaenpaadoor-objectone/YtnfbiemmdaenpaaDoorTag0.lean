/-
  What is built of parts; links; WALK: (object.tree).children.
  A Writer beside a variable; tags; WALKS: object.signFault, (object.tag).fault, (object.tag).write.
-/
import Derived.Test.YtnfbiemmdaenpaaDoorEnt3
namespace Go.Proofs.YtnfbiemmdaenpaaDoor
open Go.RowKit

theorem foldl_setL (off : Nat) : ∀ (l : List Value) (s : Nat) (cs : Array Value), (l.zipIdx s).foldl (fun cs (x : Value × Nat) => cs.setIfInBounds (off + x.2) x.1) cs = setL cs (off + s) l
  | [], _, _ => rfl
  | v :: r, s, cs => by
    rw [List.zipIdx_cons, List.foldl_cons, foldl_setL off r (s + 1)]
    rfl
theorem fill_step (place : Nat → Option (Nat × Nat)) (cells : Array Value) (i : Nat) (v : Value) (rest : List (Nat × Value)) (off size : Nat) (hp : place i = some (off, size)) (hs : v.cells.size = size) (hc : off + size ≤ cells.size) :
    Instr.fill place cells ((i, v) :: rest) = Instr.fill place (setL cells off v.cells.toList) rest := by
  rw [Instr.fill, hp]
  simp only [hs]
  rw [if_neg (by simp; omega)]
  congr 1
  have h := foldl_setL off v.cells.toList 0 cells
  rw [Nat.add_zero] at h
  rw [← h, ← Array.foldl_toList, Array.toList_zipIdx]
theorem setL_put (cs : List Value) (o : Nat) (vs : List Value) (h : o + vs.length ≤ cs.length) : setL cs.toArray o vs = (putL cs o vs).toArray := by
  obtain ⟨s1, s2⟩ := setL_spec vs o cs.toArray
  apply Array.ext_getElem?
  intro j
  have e1 : (putL cs o vs).toArray[j]? = (putL cs o vs)[j]? := by simp
  have e2 : cs.toArray[j]? = cs[j]? := by simp
  rw [s2 j, e1, e2, putL_get h, List.size_toArray]
  by_cases hc : o ≤ j ∧ j < o + vs.length
  · rw [if_pos hc, if_pos ⟨hc.1, hc.2, by omega⟩]
  · rw [if_neg hc, if_neg (by omega)]

structure LinkL where
  id : List Int
  kind : Int
def LinkL.row (l : LinkL) : List Value := l.id.map (Value.int .u8) ++ [.int .i64 l.kind]
def zeroK : LinkL := ⟨zero32, 0⟩
theorem Tryd.zeroLink : (Tryd.prog.info? 56).map (fun i => (i.zero, i.size, i.bytes)) = some (some (.agg zeroK.row.toArray), 33, 40) := by kernel_rfl
theorem Tryd.builtLink (parts : List (Nat × Value)) : Tryd.prog.built 56 parts = Instr.fill (fun i => (#[(0, 32), (32, 1)] : Array (Nat × Nat))[i]?) zeroK.row.toArray parts := by kernel_rfl
theorem built_link (id : List Int) (hi : id.length = 32) (k : Int) : Tryd.prog.built 56 [(0, .agg (idC id)), (1, .int .i64 k)] = some (LinkL.mk id k).row.toArray := by
  rw [Tryd.builtLink, fill_step (fun i => (#[(0, 32), (32, 1)] : Array (Nat × Nat))[i]?) zeroK.row.toArray 0 (.agg (idC id)) _ 0 32 rfl (idC_size hi) (by decide)]
  have e : (Value.agg (idC id)).cells.toList = id.map (Value.int .u8) := rfl
  rw [e, setL_put _ _ _ (by rw [List.length_map, hi]; decide), fill_step (fun i => (#[(0, 32), (32, 1)] : Array (Nat × Nat))[i]?) _ 1 (.int .i64 k) _ 32 1 rfl rfl (by rw [List.size_toArray, putL_len (by rw [List.length_map, hi]; decide)]; decide)]
  have e2 : (Value.int .i64 k).cells.toList = [.int .i64 k] := rfl
  rw [e2, setL_put _ _ _ (by rw [putL_len (by rw [List.length_map, hi]; decide)]; exact Nat.le_refl _)]
  show some _ = some _
  congr 2
  unfold putL LinkL.row zeroK
  simp [zero32, hi]
theorem wpList_build_some {ops : Array Oper} {rest : List Oper} {o : Oper} {a : Act} {w : World} {Q : Exit → Act → World → Prop} (hgd : o.guard = none) (t : TypeId) (parts : Array (Nat × Operand)) (ho : o.op = .build t parts) (cells : Array Value)
    (hb : Tryd.prog.built t (parts.map fun (i, x) => (i, a.eval x)).toList = some cells) (h : wpList Tryd.prog ops Q rest (a.put o.dst (.agg cells)) w) : wpList Tryd.prog ops Q (o :: rest) a w := by
  refine wpList_build hgd t parts ho (by rw [hb]; rfl) ?_
  rw [hb]
  exact h

/-- What an entry names. -/
def linkOf (e : EntL) : LinkL := ⟨e.id, if e.mode = 4 then 2 else 1⟩
def halfK (l : List LinkL) (n : Nat) : List (List Value) := (l ++ List.replicate (n - l.length) zeroK).map LinkL.row
theorem halfK_row (l : List LinkL) (n : Nat) (hl : ∀ e, e ∈ l → e.id.length = 32) : ∀ r, r ∈ halfK l n → r.length = 33 := fun r hr => by
  unfold halfK at hr
  obtain ⟨e, he, rfl⟩ := List.mem_map.1 hr
  have : e.id.length = 32 := by
    rcases List.mem_append.1 he with h | h
    · exact hl e h
    · rw [(List.mem_replicate.1 h).2]; rfl
  simp [LinkL.row, this]
theorem halfK_at (l : List LinkL) (n : Nat) (h : l.length < n) : (halfK l n)[l.length]? = some zeroK.row := by
  unfold halfK
  rw [List.getElem?_map, List.getElem?_append_right (Nat.le_refl _), Nat.sub_self, List.getElem?_replicate, if_pos (by omega)]
  rfl
theorem halfK_put (l : List LinkL) (n : Nat) (h : l.length < n) (e : LinkL) : (halfK l n).set l.length e.row = halfK (l ++ [e]) n := by
  unfold halfK
  rw [List.length_append, List.length_singleton]
  obtain ⟨m, hm⟩ : ∃ m, n - l.length = m + 1 := ⟨n - l.length - 1, by omega⟩
  rw [show n - (l.length + 1) = m by omega, hm, List.replicate_succ, ← List.map_set, List.set_append_right _ _ (Nat.le_refl _), Nat.sub_self, List.set_cons_zero]
  simp
theorem link_put (l : LinkL) (h : l.id.length = 32) (k : Int) : putL l.row 32 [.int .i64 k] = (LinkL.mk l.id k).row := by
  unfold putL LinkL.row
  simp [h]

set_option maxRecDepth 100000 in
set_option maxHeartbeats 2000000 in
theorem treeChildren_any (v : Value) (es : List EntL) (w : World) (hv : EntsAt w v es) (hg : ∀ e, e ∈ es → e.Good) (hn : es.length ≤ 1024) :
    Calls Tryd.prog 101 #[v] w fun e w' => ∃ b, e = .returned (.slice (some ⟨b, 0, none⟩) es.length es.length) ∧ RowsIn w' b 56 ((es.map linkOf).map LinkL.row) ∧ w.heap.size ≤ b ∧ Kept [] w w' := by
  have HV : Hid (∀ W, Kept [] w W → EntsAt W v es) := fun W k => hv.keep k (fun _ _ _ => by simp)
  have HG : Hid (∀ e, e ∈ es → e.Good) := hg
  have hun := Tryd.underlying74
  have hui := Tryd.underlying25
  obtain ⟨ao, cap, rfl, hcap, hlen, _⟩ := hv.form
  obtain ⟨i0, hi, hez⟩ := Option.map_eq_some_iff.1 Tryd.zeroLink
  simp only [Prod.mk.injEq] at hez
  obtain ⟨hz0, hz1, hz2⟩ := hez
  have hmk : ∀ W : World, (Instr.makeSlice 52 (.int .i64 (es.length : Int)) (.int .i64 (es.length : Int))).run Tryd.prog W = .ok (.slice (some ⟨W.heap.size, 0, none⟩) es.length es.length) (W.alloc (.cells (halfK [] es.length).flatten.toArray 56)) := fun W => by
    have h := run_make (P := Tryd.prog) W 52 56 i0 (.agg zeroK.row.toArray) Tryd.underlying52 hi hz0 .i64 .i64 (es.length : Int) (es.length : Int) (by omega) (Int.le_refl _) (by rw [hz2]; omega) (by omega)
    rw [Int.toNat_natCast, hz1] at h
    have e : madeCells (Value.agg zeroK.row.toArray).cells (es.length * 33) = (halfK [] es.length).flatten.toArray := by
      show madeCells zeroK.row.toArray (es.length * 33) = _
      rw [made_rows zeroK.row 33 es.length (by decide) rfl]
      unfold halfK
      simp
    rw [e] at h
    exact h
  clear hv hg hi hz0 hz1 hz2
  have HIA : Hid (RowsIn (w.alloc (.cells (halfK [] es.length).flatten.toArray 56)) w.heap.size 56 (halfK [] es.length)) := heap_alloc_new w _
  go_enter Tryd.func101, Tryd.ntmps101
  go_wp2
  go_loopw [4, 5, 11] (fun _ _ s11 wr => ∃ k : Nat, k ≤ es.length ∧ s11 = .int .i64 k ∧ Hid (RowsIn wr w.heap.size 56 (halfK ((es.take k).map linkOf) es.length)) ∧ Hid (Kept [] w wr)) (fun _ _ s11 _ => es.length - (intOf s11).toNat)
  case atStart => exact ⟨0, Nat.zero_le _, rfl, HIA, (Kept.refl _ _).alloc _⟩
  case round =>
    clear HIA hmk
    obtain ⟨k, hk, rfl, HI, HK⟩ := hrel
    by_cases hlt : k < es.length
    · obtain ⟨e, he⟩ : ∃ e, es[k]? = some e := ⟨_, List.getElem?_eq_getElem hlt⟩
      have hge := HG.out e (List.mem_of_getElem? he)
      obtain ⟨ao', cap', hvv, _, _, hc⟩ := (HV.out wr HK.out).form
      injection hvv with e1 e2 e3
      subst e1 e3
      obtain ⟨b, off, rfl, hh⟩ := hc (by rintro rfl; simp at hlt)
      have hr := hh k e he
      have hse : (Tryd.prog.info? 74).map (·.size) = some e.row.length := by rw [EntL.row_len hge.id]; exact Tryd.infoEnt
      have hsa : (Tryd.prog.info? 74).map (·.size) = some e.row.toArray.size := by rw [List.size_toArray]; exact hse
      have h34 : e.row.toArray.size = 34 := by rw [List.size_toArray, EntL.row_len hge.id]
      have h1 := ent_one e
      obtain ⟨x0, x1, x2⟩ := ent_cells wr e
      have hwl := HK.out.size
      have hsi : (Tryd.prog.info? 25).map (·.size) = some (e.id.map (Value.int .u8)).length := by rw [List.length_map, hge.id.1]; exact Tryd.infoID
      have hbl := built_link e.id hge.id.1 1
      have hbw := lt_of_block HI.out
      have HI1 : Hid (RowsIn (wr.alloc (.cells e.row.toArray 74)) w.heap.size 56 (halfK ((es.take k).map linkOf) es.length)) := HI.out.kept (T := []) ((Kept.refl _ _).alloc _) (by simp)
      have HK1 : Hid (Kept [] w (wr.alloc (.cells e.row.toArray 74))) := HK.out.alloc _
      have hkl : ((es.take k).map linkOf).length = k := by rw [List.length_map, List.length_take]; omega
      have hrow := halfK_row ((es.take k).map linkOf) es.length (fun x hx => by
        obtain ⟨y, hy, rfl⟩ := List.mem_map.1 hx
        exact (HG.out y (List.mem_of_mem_take hy)).id.1)
      have hat : (halfK ((es.take k).map linkOf) es.length)[k]? = some zeroK.row := by
        have h := halfK_at ((es.take k).map linkOf) es.length (by omega)
        rw [hkl] at h
        exact h
      have HPUT : Hid ((halfK ((es.take k).map linkOf) es.length).set k (linkOf e).row = halfK ((es.take (k + 1)).map linkOf) es.length) := by
        have h := halfK_put ((es.take k).map linkOf) es.length (by omega) (linkOf e)
        have hlt' : k < es.length := hlt
        have ho : es[k] = e := (List.getElem?_eq_some_iff.1 he).2
        rw [hkl] at h
        rw [h, List.take_succ_eq_append_getElem hlt', List.map_append, ho]
        exact rfl
      have hll : (LinkL.mk e.id 1).row.length = 33 := by simp [LinkL.row, hge.id.1]
      have hsl : (Tryd.prog.info? 56).map (·.size) = some (LinkL.mk e.id 1).row.toArray.size := by rw [List.size_toArray, hll]; kernel_rfl
      have hal : (LinkL.mk e.id 1).row.toArray.all (·.oneCell') = true := all_oneCell_toArray fun v hv => by
        unfold LinkL.row at hv
        rcases List.mem_append.1 hv with h | h
        · exact map_oneCell _ v h
        · rw [List.mem_singleton.1 h]; rfl
      have HTH : Hid ((wr.alloc (.cells e.row.toArray 74)).there w.heap.size (k * 33) 33) := HI1.out.there 33 (by decide) hrow k _ hat 0 33 (by decide)
      have hsz33 : (LinkL.mk e.id 1).row.toArray.size = 33 := by rw [List.size_toArray, hll]
      have HI2 : Hid (RowsIn ((wr.alloc (.cells e.row.toArray 74)).setCells w.heap.size (k * 33) (LinkL.mk e.id 1).row) w.heap.size 56 ((halfK ((es.take k).map linkOf) es.length).set k (LinkL.mk e.id 1).row)) := by
        have h := HI1.out.put 33 (by decide) hrow k _ hat 0 (LinkL.mk e.id 1).row (by rw [hll]; decide)
        have e1 : putL zeroK.row 0 (LinkL.mk e.id 1).row = (LinkL.mk e.id 1).row := by
          unfold putL
          rw [hll, List.take_zero, List.nil_append, List.drop_eq_nil_of_le (by decide), List.append_nil]
        rw [e1] at h
        exact h
      have kk2 : Kept [w.heap.size] (wr.alloc (.cells e.row.toArray 74)) ((wr.alloc (.cells e.row.toArray 74)).setCells w.heap.size (k * 33) (LinkL.mk e.id 1).row) := Kept.setCells _ (Or.inl (by simp)) _ _ _ (Kept.refl _ _)
      have y0 := kk2.cell x0 (by simp; omega)
      have HK2 : Hid (Kept [] w ((wr.alloc (.cells e.row.toArray 74)).setCells w.heap.size (k * 33) (LinkL.mk e.id 1).row)) := Kept.setCells _ (Or.inr (Nat.le_refl _)) _ _ _ HK1.out
      have hrow2 : ∀ x, x ∈ (halfK ((es.take k).map linkOf) es.length).set k (LinkL.mk e.id 1).row → x.length = 33 := fun x hx => by
        rcases List.mem_or_eq_of_mem_set hx with h | rfl
        · exact hrow x h
        · exact hll
      have hat2 : ((halfK ((es.take k).map linkOf) es.length).set k (LinkL.mk e.id 1).row)[k]? = some (LinkL.mk e.id 1).row := List.getElem?_set_self (List.getElem?_eq_some_iff.1 hat).1
      have d2 : ((wr.alloc (.cells e.row.toArray 74)).setCells w.heap.size (k * 33) (LinkL.mk e.id 1).row).cell? ⟨w.heap.size, k * 33 + 32, none⟩ = some (.int .i64 1) := HI2.out.range 33 (by decide) hrow2 k _ hat2 32 _ (by
        unfold LinkL.row
        rw [List.getElem?_append_right (by rw [List.length_map, hge.id.1]; exact Nat.le_refl _), List.length_map, hge.id.1]
        rfl)
      have f2 : ((wr.alloc (.cells e.row.toArray 74)).setCells w.heap.size (k * 33) (LinkL.mk e.id 1).row).frozen? ⟨w.heap.size, k * 33 + 32, none⟩ = false := HI2.out.frozen _
      have HI3 : Hid (RowsIn (((wr.alloc (.cells e.row.toArray 74)).setCells w.heap.size (k * 33) (LinkL.mk e.id 1).row).setCell ⟨w.heap.size, k * 33 + 32, none⟩ (.int .i64 2)) w.heap.size 56 ((halfK ((es.take k).map linkOf) es.length).set k (LinkL.mk e.id 2).row)) := by
        have h := HI2.out.put1 33 (by decide) hrow2 k _ hat2 32 (.int .i64 2) (by decide)
        rw [link_put (LinkL.mk e.id 1) hge.id.1 2, List.set_set] at h
        exact h
      have HK3 : Hid (Kept [] w (((wr.alloc (.cells e.row.toArray 74)).setCells w.heap.size (k * 33) (LinkL.mk e.id 1).row).setCell ⟨w.heap.size, k * 33 + 32, none⟩ (.int .i64 2))) := HK2.out.setCell (Or.inr (Nat.le_refl _)) _
      have hmid : (e.id.map (Value.int .u8)).toArray = idC e.id := rfl
      have HTL : Hid ((LinkL.mk e.id 1).row.toArray.toList = (LinkL.mk e.id 1).row) := rfl
      generalize hws : (wr.alloc (.cells e.row.toArray 74)).setCells w.heap.size (k * 33) (LinkL.mk e.id 1).row = ws at *
      have HWS : Hid ((wr.alloc (.cells e.row.toArray 74)).setCells w.heap.size (k * 33) (LinkL.mk e.id 1).row = ws) := hws
      clear hws hrow hat hrow2 hat2 hh hc he kk2
      by_cases hm4 : e.mode = 4
      · have HLK : Hid ((linkOf e).row = (LinkL.mk e.id 2).row) := by unfold linkOf; rw [if_pos hm4]; exact rfl
        have hb4 : (e.mode == 4) = true := by rw [hm4]; rfl
        clear hm4
        generalize e.mode = md at *
        generalize e.row = er at *
        generalize idC e.id = ic at *
        go_wp2_with (first
          | (refine wpList_load_mid (by rfl) 74 (.tmp 14) (by rfl) b (off + k * 34) (by rfl) er _ hr hun rfl hse ?_)
          | (refine wpList_store_new (by rfl) 74 (.tmp 5) (.tmp 15) (by rfl) wr _ er.toArray (by rfl) (by rfl) hsa (by rw [h34]; rfl) h1 ?_)
          | (refine wpList_load_mid (by rfl) 25 (.tmp 18) (by rfl) wr.heap.size 2 (by rfl) (e.id.map (Value.int .u8)) _ x2 hui rfl hsi ?_; rw [hmid])
          | (refine wpList_build_some (by rfl) 56 _ (by rfl) (LinkL.mk e.id 1).row.toArray (by simp; exact hbl) ?_)
          | (refine wpList_store_mid (by rfl) 56 (.tmp 21) (.tmp 20) (by rfl) w.heap.size (k * 33) (LinkL.mk e.id 1).row.toArray (by rfl) (by rfl) (by rw [hsz33]; exact HTH.out) hsl hal ?_; rw [HTL.out, HWS.out]))
        go_roundw
        case rel => exact ⟨k + 1, by omega, by go_num, by rw [← HPUT.out, HLK.out]; exact HI3, HK3⟩
        case measure => simp [intOf]; omega
      · have HLK : Hid ((linkOf e).row = (LinkL.mk e.id 1).row) := by unfold linkOf; rw [if_neg hm4]; exact rfl
        have hb4 : (e.mode == 4) = false := beq_eq_false_iff_ne.2 hm4
        clear hm4
        generalize e.mode = md at *
        generalize e.row = er at *
        generalize idC e.id = ic at *
        go_wp2_with (first
          | (refine wpList_load_mid (by rfl) 74 (.tmp 14) (by rfl) b (off + k * 34) (by rfl) er _ hr hun rfl hse ?_)
          | (refine wpList_store_new (by rfl) 74 (.tmp 5) (.tmp 15) (by rfl) wr _ er.toArray (by rfl) (by rfl) hsa (by rw [h34]; rfl) h1 ?_)
          | (refine wpList_load_mid (by rfl) 25 (.tmp 18) (by rfl) wr.heap.size 2 (by rfl) (e.id.map (Value.int .u8)) _ x2 hui rfl hsi ?_; rw [hmid])
          | (refine wpList_build_some (by rfl) 56 _ (by rfl) (LinkL.mk e.id 1).row.toArray (by simp; exact hbl) ?_)
          | (refine wpList_store_mid (by rfl) 56 (.tmp 21) (.tmp 20) (by rfl) w.heap.size (k * 33) (LinkL.mk e.id 1).row.toArray (by rfl) (by rfl) (by rw [hsz33]; exact HTH.out) hsl hal ?_; rw [HTL.out, HWS.out]))
        go_roundw
        case rel => exact ⟨k + 1, by omega, by go_num, by rw [← HPUT.out, HLK.out]; exact HI2, HK2⟩
        case measure => simp [intOf]; omega
    · obtain rfl : k = es.length := by omega
      have HF : Hid (RowsIn wr w.heap.size 56 ((es.map linkOf).map LinkL.row)) := by
        have h := HI.out
        unfold halfK at h
        rw [List.take_length, List.length_map, Nat.sub_self, List.replicate_zero, List.append_nil] at h
        exact h
      go_wp2
      go_ret
      exact ⟨w.heap.size, rfl, HF.out, Nat.le_refl _, HK.out⟩
end Go.Proofs.YtnfbiemmdaenpaaDoor

namespace Go.Proofs.YtnfbiemmdaenpaaDoor
open Go.RowKit

/-- A Writer on its way, and a variable that it does not touch. -/
def WB (w0 W : World) (wb B : Nat) (zs : List Int) (S : List Nat) (b : Nat) (cs : Array Value) (ty : TypeId) : Prop := ∃ S', WSt w0 W wb B zs S S' ∧ b ∉ S' ∧ W.heap[b]? = some (.cells cs ty (0, 0))
section
variable {w0 W : World} {wb B : Nat} {zs : List Int} {S : List Nat} {b : Nat} {cs : Array Value} {ty : TypeId}
theorem WB.next {us : List Int} {S' : List Nat} (h : WSt w0 W wb B zs S S') (hb : b ∉ S') (hc : W.heap[b]? = some (.cells cs ty (0, 0))) {W' : World} (k : Wrote W W' wb B us S') : WB w0 W' wb B us S b cs ty := by
  obtain ⟨S'', h1, h2, h3⟩ := h.next k
  refine ⟨S'', h1, fun hx => ?_, h2.heap hc hb⟩
  rcases h3 b hx with h | h
  · exact hb h
  · exact absurd (lt_of_block hc) (by omega)
theorem WB.u8 (h : WB w0 W wb B zs S b cs ty) (hB : B ≤ w0.heap.size) (n : Int) (h0 : 0 ≤ n) (h1 : n ≤ 255) (hm : zs.length + 8 ≤ 140737488355328) :
    Calls Tryd.prog 98 #[.pointer (some ⟨wb, 0, none⟩), .int .u8 n] W fun e w' => e = .returned (.tuple #[]) ∧ WB w0 w' wb B (zs ++ fixedB n 1) S b cs ty := by
  obtain ⟨S', q, hb, hc⟩ := h
  exact (WU8_any q.at' (Nat.le_trans hB q.keep.size) n h0 h1 hm).mono fun e w' hh => ⟨hh.1, WB.next q hb hc hh.2⟩
theorem WB.u64 (h : WB w0 W wb B zs S b cs ty) (hB : B ≤ w0.heap.size) (n : Int) (hm : zs.length + 8 ≤ 140737488355328) :
    Calls Tryd.prog 113 #[.pointer (some ⟨wb, 0, none⟩), .int .u64 n] W fun e w' => e = .returned (.tuple #[]) ∧ WB w0 w' wb B (zs ++ fixedB n 8) S b cs ty := by
  obtain ⟨S', q, hb, hc⟩ := h
  exact (WU64_any q.at' (Nat.le_trans hB q.keep.size) n hm).mono fun e w' hh => ⟨hh.1, WB.next q hb hc hh.2⟩
theorem WB.var (h : WB w0 W wb B zs S b cs ty) (hB : B ≤ w0.heap.size) (n : Int) (h0 : 0 ≤ n) (h1 : n ≤ 18446744073709551615) (hm : zs.length + 10 ≤ 140737488355328) :
    Calls Tryd.prog 104 #[.pointer (some ⟨wb, 0, none⟩), .int .u64 n] W fun e w' => e = .returned (.tuple #[]) ∧ WB w0 w' wb B (zs ++ varB n) S b cs ty := by
  obtain ⟨S', q, hb, hc⟩ := h
  exact (WVar_any q.at' (Nat.le_trans hB q.keep.size) n h0 h1 hm).mono fun e w' hh => ⟨hh.1, WB.next q hb hc hh.2⟩
theorem WB.raw (h : WB w0 W wb B zs S b cs ty) (hB : B ≤ w0.heap.size) (v : Value) (ys : List Int) (hv : BytesAt W v ys) (ho : Octs ys) (hm : zs.length + ys.length ≤ 140737488355328) :
    Calls Tryd.prog 99 #[.pointer (some ⟨wb, 0, none⟩), v] W fun e w' => e = .returned (.tuple #[]) ∧ WB w0 w' wb B (zs ++ ys) S b cs ty := by
  obtain ⟨S', q, hb, hc⟩ := h
  exact (WRaw_any q.at' (Nat.le_trans hB q.keep.size) v ys hv ho hm).mono fun e w' hh => ⟨hh.1, WB.next q hb hc hh.2⟩
theorem WB.text (h : WB w0 W wb B zs S b cs ty) (hB : B ≤ w0.heap.size) (xs : List Int) (ho : Octs xs) (hm : zs.length + 10 + xs.length ≤ 140737488355328) :
    Calls Tryd.prog 105 #[.pointer (some ⟨wb, 0, none⟩), .string (strOfNums xs)] W fun e w' => e = .returned (.tuple #[]) ∧ WB w0 w' wb B (zs ++ varB xs.length ++ xs) S b cs ty := by
  obtain ⟨S', q, hb, hc⟩ := h
  exact (writeText_any q.at' (Nat.le_trans hB q.keep.size) xs ho hm).mono fun e w' hh => ⟨hh.1, WB.next q hb hc hh.2⟩
theorem WB.block (h : WB w0 W wb B zs S b cs ty) : W.heap[b]? = some (.cells cs ty (0, 0)) := h.elim fun _ q => q.2.2
theorem WB.wrote (h : WB w0 W wb B zs S b cs ty) : Wrote w0 W wb B zs S := h.elim fun _ q => q.1.wrote
end
theorem WB.start {w : World} {wb B : Nat} {zs : List Int} {S : List Nat} (h : WAt w wb B zs S) (cs : Array Value) (ty : TypeId) : WB w (w.alloc (.cells cs ty)) wb B zs S w.heap.size cs ty :=
  ⟨S, (WSt.start h).kept ((Kept.refl _ _).alloc _), fun hx => Nat.lt_irrefl _ (h.lt _ hx).2, heap_alloc_new w _⟩

structure TagL where
  target : List Int
  kind : Int
  name : List Int
  who : List Int
  time : Int
  text : List Int
def TagL.row (t : TagL) : List Value := t.target.map (Value.int .u8) ++ [.int .i64 t.kind, .string (strOfNums t.name), .string (strOfNums t.who), .int .u64 t.time, .string (strOfNums t.text)]
structure TagL.Good (t : TagL) : Prop where
  target : GoodID t.target
  lo : -9223372036854775808 ≤ t.kind
  hi : t.kind ≤ 9223372036854775807
  name : GoodText t.name
  who : GoodText t.who
  t0 : 0 ≤ t.time
  t1 : t.time ≤ 18446744073709551615
  text : GoodText t.text
theorem tag_cells {w : World} {b : Nat} {t : TagL} {ty : TypeId} {fr : Nat × Nat} (hl : t.target.length = 32) (h : w.heap[b]? = some (.cells t.row.toArray ty fr)) :
    w.rangeAt b 0 (t.target.map (Value.int .u8)) ∧ w.cell? ⟨b, 32, none⟩ = some (.int .i64 t.kind) ∧ w.cell? ⟨b, 33, none⟩ = some (.string (strOfNums t.name)) ∧ w.cell? ⟨b, 34, none⟩ = some (.string (strOfNums t.who)) ∧
      w.cell? ⟨b, 35, none⟩ = some (.int .u64 t.time) ∧ w.cell? ⟨b, 36, none⟩ = some (.string (strOfNums t.text)) := by
  have hr := row_range h
  have hlm : (t.target.map (Value.int .u8)).length = 32 := by rw [List.length_map, hl]
  have key : ∀ j v, [Value.int .i64 t.kind, .string (strOfNums t.name), .string (strOfNums t.who), .int .u64 t.time, .string (strOfNums t.text)][j]? = some v → w.cell? ⟨b, 32 + j, none⟩ = some v := fun j v hj => by
    have := hr (32 + j) v (by unfold TagL.row; rw [List.getElem?_append_right (by omega), hlm, Nat.add_sub_cancel_left]; exact hj)
    rwa [Nat.zero_add] at this
  refine ⟨fun j v hj => hr j v ?_, key 0 _ rfl, key 1 _ rfl, key 2 _ rfl, key 3 _ rfl, key 4 _ rfl⟩
  unfold TagL.row
  rw [List.getElem?_append_left (List.getElem?_eq_some_iff.1 hj).1]
  exact hj

def signB (who : List Int) (time : Int) (text : List Int) : Bool := lineB who 255 && decide (time ≤ 1099511627776) && decide (text.length ≤ 4096)
def faultG (t : TagL) : Int := if modeB t.kind = false then 30 else if nameB t.name = false then 32 else if signB t.who t.time t.text = false then 36 else 0

set_option maxRecDepth 100000 in
set_option maxHeartbeats 1000000 in
theorem signFault_any (who : List Int) (time : Int) (text : List Int) (w : World) (hT : Tabs w) (hw : GoodText who) (h0 : 0 ≤ time) (h1 : time ≤ 18446744073709551615) :
    Calls Tryd.prog 112 #[.string (strOfNums who), .int .u64 time, .string (strOfNums text)] w fun e w' => e = .returned (.int .i64 (if signB who time text = false then 36 else 0)) ∧ Kept [] w w' := by
  have hline := goodLine_any who hw.1 255 w (Nat.le_trans hw.2 (by decide)) hT
  have hsz := strOfNums_size text
  obtain ⟨rv, hrv⟩ : ∃ rv : Int, rv = if signB who time text = false then 36 else 0 := ⟨_, rfl⟩
  rw [← hrv]
  have HS : Hid (rv = if (lineB who 255 && decide (time ≤ 1099511627776) && decide (text.length ≤ 4096)) = false then 36 else 0) := hrv
  clear hrv
  have hd1 : decide (1099511627776 < time) = !decide (time ≤ 1099511627776) := by rw [← decide_not]; exact decide_eq_decide.2 (by omega)
  have hd2 : decide ((4096 : Int) < (text.length : Int)) = !decide (text.length ≤ 4096) := by rw [← decide_not]; exact decide_eq_decide.2 (by omega)
  generalize strOfNums who = sw at *
  generalize strOfNums text = st at *
  generalize lineB who 255 = b1 at *
  generalize decide (time ≤ 1099511627776) = b2 at *
  generalize decide (text.length ≤ 4096) = b3 at *
  clear hw hT
  cases b1 <;> cases b2 <;> cases b3
  all_goals go_enter Tryd.func112, Tryd.ntmps112
  all_goals go_wp2_with (go_at_call 30; refine hline.mono ?_; rintro e w1 ⟨rfl, hk1⟩; have HK1 : Hid _ := hk1; clear hk1)
  all_goals go_ret
  all_goals exact ⟨by rw [HS.out]; rfl, HK1.out⟩
end Go.Proofs.YtnfbiemmdaenpaaDoor
