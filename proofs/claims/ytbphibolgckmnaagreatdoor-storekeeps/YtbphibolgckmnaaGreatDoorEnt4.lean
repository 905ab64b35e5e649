/-
  What is built of parts; links; WALK: (object.tree).children.
-/
import Derived.Test.YtbphibolgckmnaaGreatDoorEnt3
namespace Go.Proofs.YtbphibolgckmnaaGreatDoor
open Go.RowKit

theorem foldl_setL (off : Nat) : ∀ (l : List Value) (s : Nat) (cs : Array Value), (l.zipIdx s).foldl (fun cs (x : Value × Nat) => cs.setIfInBounds (off + x.2) x.1) cs = setL cs (off + s) l
  | [], _, _ => rfl
  | v :: r, s, cs => by
    rw [List.zipIdx_cons, List.foldl_cons, foldl_setL off r (s + 1)]
    rfl
theorem fill_step (place : Nat → Option (Nat × Nat)) (cells : Array Value) (i : Nat) (v : Value) (rest : List (Nat × Value)) (off size : Nat) (hp : place i = some (off, size)) (hs : v.cells.size = size) (hc : off + size ≤ cells.size) :
    Instr.fill place cells ((i, v) :: rest) = Instr.fill place (setL cells off v.cells.toList) rest := by
  rw [Instr.fill, hp]
  simp only [hs]
  rw [if_neg (by simp; omega)]
  congr 1
  have h := foldl_setL off v.cells.toList 0 cells
  rw [Nat.add_zero] at h
  rw [← h, ← Array.foldl_toList, Array.toList_zipIdx]
theorem setL_put (cs : List Value) (o : Nat) (vs : List Value) (h : o + vs.length ≤ cs.length) : setL cs.toArray o vs = (putL cs o vs).toArray := by
  obtain ⟨s1, s2⟩ := setL_spec vs o cs.toArray
  apply Array.ext_getElem?
  intro j
  have e1 : (putL cs o vs).toArray[j]? = (putL cs o vs)[j]? := by simp
  have e2 : cs.toArray[j]? = cs[j]? := by simp
  rw [s2 j, e1, e2, putL_get h, List.size_toArray]
  by_cases hc : o ≤ j ∧ j < o + vs.length
  · rw [if_pos hc, if_pos ⟨hc.1, hc.2, by omega⟩]
  · rw [if_neg hc, if_neg (by omega)]

structure LinkL where
  id : List Int
  kind : Int
def LinkL.row (l : LinkL) : List Value := l.id.map (Value.int .u8) ++ [.int .i64 l.kind]
def zeroK : LinkL := ⟨zero32, 0⟩
theorem Tryz.zeroLink : (Tryz.prog.info? 100).map (fun i => (i.zero, i.size, i.bytes)) = some (some (.agg zeroK.row.toArray), 33, 40) := by kernel_rfl
theorem Tryz.builtLink (parts : List (Nat × Value)) : Tryz.prog.built 100 parts = Instr.fill (fun i => (#[(0, 32), (32, 1)] : Array (Nat × Nat))[i]?) zeroK.row.toArray parts := by kernel_rfl
theorem built_link (id : List Int) (hi : id.length = 32) (k : Int) : Tryz.prog.built 100 [(0, .agg (idC id)), (1, .int .i64 k)] = some (LinkL.mk id k).row.toArray := by
  rw [Tryz.builtLink, fill_step (fun i => (#[(0, 32), (32, 1)] : Array (Nat × Nat))[i]?) zeroK.row.toArray 0 (.agg (idC id)) _ 0 32 rfl (idC_size hi) (by decide)]
  have e : (Value.agg (idC id)).cells.toList = id.map (Value.int .u8) := rfl
  rw [e, setL_put _ _ _ (by rw [List.length_map, hi]; decide), fill_step (fun i => (#[(0, 32), (32, 1)] : Array (Nat × Nat))[i]?) _ 1 (.int .i64 k) _ 32 1 rfl rfl (by rw [List.size_toArray, putL_len (by rw [List.length_map, hi]; decide)]; decide)]
  have e2 : (Value.int .i64 k).cells.toList = [.int .i64 k] := rfl
  rw [e2, setL_put _ _ _ (by rw [putL_len (by rw [List.length_map, hi]; decide)]; exact Nat.le_refl _)]
  show some _ = some _
  congr 2
  unfold putL LinkL.row zeroK
  simp [zero32, hi]
theorem wpList_build_some {ops : Array Oper} {rest : List Oper} {o : Oper} {a : Act} {w : World} {Q : Exit → Act → World → Prop} (hgd : o.guard = none) (t : TypeId) (parts : Array (Nat × Operand)) (ho : o.op = .build t parts) (cells : Array Value)
    (hb : Tryz.prog.built t (parts.map fun (i, x) => (i, a.eval x)).toList = some cells) (h : wpList Tryz.prog ops Q rest (a.put o.dst (.agg cells)) w) : wpList Tryz.prog ops Q (o :: rest) a w := by
  refine wpList_build hgd t parts ho (by rw [hb]; rfl) ?_
  rw [hb]
  exact h

/-- What an entry names. -/
def linkOf (e : EntL) : LinkL := ⟨e.id, if e.mode = 4 then 2 else 1⟩
def halfK (l : List LinkL) (n : Nat) : List (List Value) := (l ++ List.replicate (n - l.length) zeroK).map LinkL.row
theorem halfK_row (l : List LinkL) (n : Nat) (hl : ∀ e, e ∈ l → e.id.length = 32) : ∀ r, r ∈ halfK l n → r.length = 33 := fun r hr => by
  unfold halfK at hr
  obtain ⟨e, he, rfl⟩ := List.mem_map.1 hr
  have : e.id.length = 32 := by
    rcases List.mem_append.1 he with h | h
    · exact hl e h
    · rw [(List.mem_replicate.1 h).2]; rfl
  simp [LinkL.row, this]
theorem halfK_at (l : List LinkL) (n : Nat) (h : l.length < n) : (halfK l n)[l.length]? = some zeroK.row := by
  unfold halfK
  rw [List.getElem?_map, List.getElem?_append_right (Nat.le_refl _), Nat.sub_self, List.getElem?_replicate, if_pos (by omega)]
  rfl
theorem halfK_put (l : List LinkL) (n : Nat) (h : l.length < n) (e : LinkL) : (halfK l n).set l.length e.row = halfK (l ++ [e]) n := by
  unfold halfK
  rw [List.length_append, List.length_singleton]
  obtain ⟨m, hm⟩ : ∃ m, n - l.length = m + 1 := ⟨n - l.length - 1, by omega⟩
  rw [show n - (l.length + 1) = m by omega, hm, List.replicate_succ, ← List.map_set, List.set_append_right _ _ (Nat.le_refl _), Nat.sub_self, List.set_cons_zero]
  simp
theorem link_put (l : LinkL) (h : l.id.length = 32) (k : Int) : putL l.row 32 [.int .i64 k] = (LinkL.mk l.id k).row := by
  unfold putL LinkL.row
  simp [h]

set_option maxRecDepth 100000 in
set_option maxHeartbeats 2000000 in
theorem treeChildren_any (v : Value) (es : List EntL) (w : World) (hv : EntsAt w v es) (hg : ∀ e, e ∈ es → e.Good) (hn : es.length ≤ 1024) :
    Calls Tryz.prog 137 #[v] w fun e w' => ∃ b, e = .returned (.slice (some ⟨b, 0, none⟩) es.length es.length) ∧ RowsIn w' b 100 ((es.map linkOf).map LinkL.row) ∧ w.heap.size ≤ b ∧ Kept [] w w' := by
  have HV : Hid (∀ W, Kept [] w W → EntsAt W v es) := fun W k => hv.keep k (fun _ _ _ => by simp)
  have HG : Hid (∀ e, e ∈ es → e.Good) := hg
  have hun := Tryz.underlying139
  have hui := Tryz.underlying29
  obtain ⟨ao, cap, rfl, hcap, hlen, _⟩ := hv.form
  obtain ⟨i0, hi, hez⟩ := Option.map_eq_some_iff.1 Tryz.zeroLink
  simp only [Prod.mk.injEq] at hez
  obtain ⟨hz0, hz1, hz2⟩ := hez
  have hmk : ∀ W : World, (Instr.makeSlice 57 (.int .i64 (es.length : Int)) (.int .i64 (es.length : Int))).run Tryz.prog W = .ok (.slice (some ⟨W.heap.size, 0, none⟩) es.length es.length) (W.alloc (.cells (halfK [] es.length).flatten.toArray 100)) := fun W => by
    have h := run_make (P := Tryz.prog) W 57 100 i0 (.agg zeroK.row.toArray) Tryz.underlying57 hi hz0 .i64 .i64 (es.length : Int) (es.length : Int) (by omega) (Int.le_refl _) (by rw [hz2]; omega) (by omega)
    rw [Int.toNat_natCast, hz1] at h
    have e : madeCells (Value.agg zeroK.row.toArray).cells (es.length * 33) = (halfK [] es.length).flatten.toArray := by
      show madeCells zeroK.row.toArray (es.length * 33) = _
      rw [made_rows zeroK.row 33 es.length (by decide) rfl]
      unfold halfK
      simp
    rw [e] at h
    exact h
  clear hv hg hi hz0 hz1 hz2
  have HIA : Hid (RowsIn (w.alloc (.cells (halfK [] es.length).flatten.toArray 100)) w.heap.size 100 (halfK [] es.length)) := heap_alloc_new w _
  go_enter Tryz.func137, Tryz.ntmps137
  go_wp2
  go_loopw [4, 5, 11] (fun _ _ s11 wr => ∃ k : Nat, k ≤ es.length ∧ s11 = .int .i64 k ∧ Hid (RowsIn wr w.heap.size 100 (halfK ((es.take k).map linkOf) es.length)) ∧ Hid (Kept [] w wr)) (fun _ _ s11 _ => es.length - (intOf s11).toNat)
  case atStart => exact ⟨0, Nat.zero_le _, rfl, HIA, (Kept.refl _ _).alloc _⟩
  case round =>
    clear HIA hmk
    obtain ⟨k, hk, rfl, HI, HK⟩ := hrel
    by_cases hlt : k < es.length
    · obtain ⟨e, he⟩ : ∃ e, es[k]? = some e := ⟨_, List.getElem?_eq_getElem hlt⟩
      have hge := HG.out e (List.mem_of_getElem? he)
      obtain ⟨ao', cap', hvv, _, _, hc⟩ := (HV.out wr HK.out).form
      injection hvv with e1 e2 e3
      subst e1 e3
      obtain ⟨b, off, rfl, hh⟩ := hc (by rintro rfl; simp at hlt)
      have hr := hh k e he
      have hse : (Tryz.prog.info? 139).map (·.size) = some e.row.length := by rw [EntL.row_len hge.id]; exact Tryz.infoEnt
      have hsa : (Tryz.prog.info? 139).map (·.size) = some e.row.toArray.size := by rw [List.size_toArray]; exact hse
      have h34 : e.row.toArray.size = 34 := by rw [List.size_toArray, EntL.row_len hge.id]
      have h1 := ent_one e
      obtain ⟨x0, x1, x2⟩ := ent_cells wr e
      have hwl := HK.out.size
      have hsi : (Tryz.prog.info? 29).map (·.size) = some (e.id.map (Value.int .u8)).length := by rw [List.length_map, hge.id.1]; exact Tryz.infoID
      have hbl := built_link e.id hge.id.1 1
      have hbw := lt_of_block HI.out
      have HI1 : Hid (RowsIn (wr.alloc (.cells e.row.toArray 139)) w.heap.size 100 (halfK ((es.take k).map linkOf) es.length)) := HI.out.kept (T := []) ((Kept.refl _ _).alloc _) (by simp)
      have HK1 : Hid (Kept [] w (wr.alloc (.cells e.row.toArray 139))) := HK.out.alloc _
      have hkl : ((es.take k).map linkOf).length = k := by rw [List.length_map, List.length_take]; omega
      have hrow := halfK_row ((es.take k).map linkOf) es.length (fun x hx => by
        obtain ⟨y, hy, rfl⟩ := List.mem_map.1 hx
        exact (HG.out y (List.mem_of_mem_take hy)).id.1)
      have hat : (halfK ((es.take k).map linkOf) es.length)[k]? = some zeroK.row := by
        have h := halfK_at ((es.take k).map linkOf) es.length (by omega)
        rw [hkl] at h
        exact h
      have HPUT : Hid ((halfK ((es.take k).map linkOf) es.length).set k (linkOf e).row = halfK ((es.take (k + 1)).map linkOf) es.length) := by
        have h := halfK_put ((es.take k).map linkOf) es.length (by omega) (linkOf e)
        have hlt' : k < es.length := hlt
        have ho : es[k] = e := (List.getElem?_eq_some_iff.1 he).2
        rw [hkl] at h
        rw [h, List.take_succ_eq_append_getElem hlt', List.map_append, ho]
        exact rfl
      have hll : (LinkL.mk e.id 1).row.length = 33 := by simp [LinkL.row, hge.id.1]
      have hsl : (Tryz.prog.info? 100).map (·.size) = some (LinkL.mk e.id 1).row.toArray.size := by rw [List.size_toArray, hll]; kernel_rfl
      have hal : (LinkL.mk e.id 1).row.toArray.all (·.oneCell') = true := all_oneCell_toArray fun v hv => by
        unfold LinkL.row at hv
        rcases List.mem_append.1 hv with h | h
        · exact map_oneCell _ v h
        · rw [List.mem_singleton.1 h]; rfl
      have HTH : Hid ((wr.alloc (.cells e.row.toArray 139)).there w.heap.size (k * 33) 33) := HI1.out.there 33 (by decide) hrow k _ hat 0 33 (by decide)
      have hsz33 : (LinkL.mk e.id 1).row.toArray.size = 33 := by rw [List.size_toArray, hll]
      have HI2 : Hid (RowsIn ((wr.alloc (.cells e.row.toArray 139)).setCells w.heap.size (k * 33) (LinkL.mk e.id 1).row) w.heap.size 100 ((halfK ((es.take k).map linkOf) es.length).set k (LinkL.mk e.id 1).row)) := by
        have h := HI1.out.put 33 (by decide) hrow k _ hat 0 (LinkL.mk e.id 1).row (by rw [hll]; decide)
        have e1 : putL zeroK.row 0 (LinkL.mk e.id 1).row = (LinkL.mk e.id 1).row := by
          unfold putL
          rw [hll, List.take_zero, List.nil_append, List.drop_eq_nil_of_le (by decide), List.append_nil]
        rw [e1] at h
        exact h
      have kk2 : Kept [w.heap.size] (wr.alloc (.cells e.row.toArray 139)) ((wr.alloc (.cells e.row.toArray 139)).setCells w.heap.size (k * 33) (LinkL.mk e.id 1).row) := Kept.setCells _ (Or.inl (by simp)) _ _ _ (Kept.refl _ _)
      have y0 := kk2.cell x0 (by simp; omega)
      have HK2 : Hid (Kept [] w ((wr.alloc (.cells e.row.toArray 139)).setCells w.heap.size (k * 33) (LinkL.mk e.id 1).row)) := Kept.setCells _ (Or.inr (Nat.le_refl _)) _ _ _ HK1.out
      have hrow2 : ∀ x, x ∈ (halfK ((es.take k).map linkOf) es.length).set k (LinkL.mk e.id 1).row → x.length = 33 := fun x hx => by
        rcases List.mem_or_eq_of_mem_set hx with h | rfl
        · exact hrow x h
        · exact hll
      have hat2 : ((halfK ((es.take k).map linkOf) es.length).set k (LinkL.mk e.id 1).row)[k]? = some (LinkL.mk e.id 1).row := List.getElem?_set_self (List.getElem?_eq_some_iff.1 hat).1
      have d2 : ((wr.alloc (.cells e.row.toArray 139)).setCells w.heap.size (k * 33) (LinkL.mk e.id 1).row).cell? ⟨w.heap.size, k * 33 + 32, none⟩ = some (.int .i64 1) := HI2.out.range 33 (by decide) hrow2 k _ hat2 32 _ (by
        unfold LinkL.row
        rw [List.getElem?_append_right (by rw [List.length_map, hge.id.1]; exact Nat.le_refl _), List.length_map, hge.id.1]
        rfl)
      have f2 : ((wr.alloc (.cells e.row.toArray 139)).setCells w.heap.size (k * 33) (LinkL.mk e.id 1).row).frozen? ⟨w.heap.size, k * 33 + 32, none⟩ = false := HI2.out.frozen _
      have HI3 : Hid (RowsIn (((wr.alloc (.cells e.row.toArray 139)).setCells w.heap.size (k * 33) (LinkL.mk e.id 1).row).setCell ⟨w.heap.size, k * 33 + 32, none⟩ (.int .i64 2)) w.heap.size 100 ((halfK ((es.take k).map linkOf) es.length).set k (LinkL.mk e.id 2).row)) := by
        have h := HI2.out.put1 33 (by decide) hrow2 k _ hat2 32 (.int .i64 2) (by decide)
        rw [link_put (LinkL.mk e.id 1) hge.id.1 2, List.set_set] at h
        exact h
      have HK3 : Hid (Kept [] w (((wr.alloc (.cells e.row.toArray 139)).setCells w.heap.size (k * 33) (LinkL.mk e.id 1).row).setCell ⟨w.heap.size, k * 33 + 32, none⟩ (.int .i64 2))) := HK2.out.setCell (Or.inr (Nat.le_refl _)) _
      have hmid : (e.id.map (Value.int .u8)).toArray = idC e.id := rfl
      have HTL : Hid ((LinkL.mk e.id 1).row.toArray.toList = (LinkL.mk e.id 1).row) := rfl
      generalize hws : (wr.alloc (.cells e.row.toArray 139)).setCells w.heap.size (k * 33) (LinkL.mk e.id 1).row = ws at *
      have HWS : Hid ((wr.alloc (.cells e.row.toArray 139)).setCells w.heap.size (k * 33) (LinkL.mk e.id 1).row = ws) := hws
      clear hws hrow hat hrow2 hat2 hh hc he kk2
      by_cases hm4 : e.mode = 4
      · have HLK : Hid ((linkOf e).row = (LinkL.mk e.id 2).row) := by unfold linkOf; rw [if_pos hm4]; exact rfl
        have hb4 : (e.mode == 4) = true := by rw [hm4]; rfl
        clear hm4
        generalize e.mode = md at *
        generalize e.row = er at *
        generalize idC e.id = ic at *
        go_wp2_with (first
          | (refine wpList_load_mid (by rfl) 139 (.tmp 14) (by rfl) b (off + k * 34) (by rfl) er _ hr hun rfl hse ?_)
          | (refine wpList_store_new (by rfl) 139 (.tmp 5) (.tmp 15) (by rfl) wr _ er.toArray (by rfl) (by rfl) hsa (by rw [h34]; rfl) h1 ?_)
          | (refine wpList_load_mid (by rfl) 29 (.tmp 18) (by rfl) wr.heap.size 2 (by rfl) (e.id.map (Value.int .u8)) _ x2 hui rfl hsi ?_; rw [hmid])
          | (refine wpList_build_some (by rfl) 100 _ (by rfl) (LinkL.mk e.id 1).row.toArray (by simp; exact hbl) ?_)
          | (refine wpList_store_mid (by rfl) 100 (.tmp 21) (.tmp 20) (by rfl) w.heap.size (k * 33) (LinkL.mk e.id 1).row.toArray (by rfl) (by rfl) (by rw [hsz33]; exact HTH.out) hsl hal ?_; rw [HTL.out, HWS.out]))
        go_roundw
        case rel => exact ⟨k + 1, by omega, by go_num, by rw [← HPUT.out, HLK.out]; exact HI3, HK3⟩
        case measure => simp [intOf]; omega
      · have HLK : Hid ((linkOf e).row = (LinkL.mk e.id 1).row) := by unfold linkOf; rw [if_neg hm4]; exact rfl
        have hb4 : (e.mode == 4) = false := beq_eq_false_iff_ne.2 hm4
        clear hm4
        generalize e.mode = md at *
        generalize e.row = er at *
        generalize idC e.id = ic at *
        go_wp2_with (first
          | (refine wpList_load_mid (by rfl) 139 (.tmp 14) (by rfl) b (off + k * 34) (by rfl) er _ hr hun rfl hse ?_)
          | (refine wpList_store_new (by rfl) 139 (.tmp 5) (.tmp 15) (by rfl) wr _ er.toArray (by rfl) (by rfl) hsa (by rw [h34]; rfl) h1 ?_)
          | (refine wpList_load_mid (by rfl) 29 (.tmp 18) (by rfl) wr.heap.size 2 (by rfl) (e.id.map (Value.int .u8)) _ x2 hui rfl hsi ?_; rw [hmid])
          | (refine wpList_build_some (by rfl) 100 _ (by rfl) (LinkL.mk e.id 1).row.toArray (by simp; exact hbl) ?_)
          | (refine wpList_store_mid (by rfl) 100 (.tmp 21) (.tmp 20) (by rfl) w.heap.size (k * 33) (LinkL.mk e.id 1).row.toArray (by rfl) (by rfl) (by rw [hsz33]; exact HTH.out) hsl hal ?_; rw [HTL.out, HWS.out]))
        go_roundw
        case rel => exact ⟨k + 1, by omega, by go_num, by rw [← HPUT.out, HLK.out]; exact HI2, HK2⟩
        case measure => simp [intOf]; omega
    · obtain rfl : k = es.length := by omega
      have HF : Hid (RowsIn wr w.heap.size 100 ((es.map linkOf).map LinkL.row)) := by
        have h := HI.out
        unfold halfK at h
        rw [List.take_length, List.length_map, Nat.sub_self, List.replicate_zero, List.append_nil] at h
        exact h
      go_wp2
      go_ret
      exact ⟨w.heap.size, rfl, HF.out, Nat.le_refl _, HK.out⟩
end Go.Proofs.YtbphibolgckmnaaGreatDoor
