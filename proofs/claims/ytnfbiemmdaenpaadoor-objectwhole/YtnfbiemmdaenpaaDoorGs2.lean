/-
  OBJECTS OPENED: what a reading of one says of memory.
  GUESS of satchelref3: the object on the way; WALK: satchelref3.guess of a tag.
-/
import Derived.Test.YtnfbiemmdaenpaaDoorRCopy
import Derived.Test.YtnfbiemmdaenpaaDoorRead0
import Derived.Test.YtnfbiemmdaenpaaDoorEnt0
import Derived.Test.YtnfbiemmdaenpaaDoorPar0
import Derived.Deep.CutRange
namespace Go.Proofs.YtnfbiemmdaenpaaDoor
open Go.ChangeShapes Go.WideShapes Go.ChangeAt Go.RowKit Go.Deep

/-- Its lists fit into memory once more. -/
structure ObjL.Fits (o : ObjL) : Prop where
  es : o.es.length * 56 ≤ 140737488351232
  ps : o.com.parents.length * 32 ≤ 140737488351232

theorem ObjL.Good.kept {w w' : World} {o : ObjL} (h : ObjL.Good w o) (k : Kept [] w w') : ObjL.Good w' o :=
  ⟨h.lo, h.hi, h.bv.keep k (fun _ _ _ => by simp), h.blob, h.ev.keep k (fun _ _ _ => by simp), h.es, h.pv.keep k (fun _ _ _ => by simp), h.com, h.tag⟩
theorem objL_len {o : ObjL} (hc : o.com.tree.length = 32) (ht : o.tag.target.length = 32) : o.row.length = 76 := by
  unfold ObjL.row
  rw [List.length_append, List.length_append, com_len' _ _ hc, show o.tag.row.length = 37 by simp [TagL.row, ht]]
  rfl
theorem Tryd.cells_id : Tryd.prog.cellsOf 25 = 32 := by kernel_rfl
theorem Tryd.cells_idl : Tryd.prog.cellsOf 26 = 1 := by kernel_rfl
theorem Tryd.bytes_id : Tryd.prog.bytesOf 25 = 32 := by kernel_rfl
theorem Tryd.cells_ent : Tryd.prog.cellsOf 74 = 34 := by kernel_rfl
theorem Tryd.cells_entl : Tryd.prog.cellsOf 23 = 1 := by kernel_rfl
theorem Tryd.bytes_ent : Tryd.prog.bytesOf 74 = 56 := by kernel_rfl
theorem Tryd.cells_com : Tryd.prog.cellsOf 29 = 36 := by kernel_rfl
theorem Tryd.cells_tag : Tryd.prog.cellsOf 31 = 37 := by kernel_rfl
theorem Tryd.cells_obj : Tryd.prog.cellsOf 33 = 76 := by kernel_rfl
theorem Tryd.cells_u64 : Tryd.prog.cellsOf 27 = 1 := by kernel_rfl
theorem Tryd.cells_str : Tryd.prog.cellsOf 9 = 1 := by kernel_rfl

theorem cut3 {α : Type} (cs : List α) (a b c : Nat) (h : cs.length = a + b + c) : cs = cs.take a ++ ((cs.drop a).take b ++ (cs.drop (a + b)).take c) := by
  have h1 := (List.take_append_drop a cs).symm
  have h2 := drop_cut cs a b
  have h3 := drop_cut cs (a + b) c
  rw [List.drop_eq_nil_of_le (show cs.length ≤ a + b + c by omega), List.append_nil] at h3
  rw [← h3, ← h2]
  exact h1
theorem cut4 {α : Type} (cs : List α) (a b c d : Nat) (h : cs.length = a + b + c + d) : cs = cs.take a ++ ((cs.drop a).take b ++ ((cs.drop (a + b)).take c ++ (cs.drop (a + b + c)).take d)) := by
  have h2 := drop_cut cs (a + b) c
  have h3 := drop_cut cs (a + b + c) d
  rw [List.drop_eq_nil_of_le (show cs.length ≤ a + b + c + d by omega), List.append_nil] at h3
  rw [← h3, ← h2, ← drop_cut cs a b]
  exact (List.take_append_drop a cs).symm
theorem cut5 {α : Type} (cs : List α) (a b c d e : Nat) (h : cs.length = a + b + c + d + e) : cs = cs.take a ++ ((cs.drop a).take b ++ ((cs.drop (a + b)).take c ++ ((cs.drop (a + b + c)).take d ++ (cs.drop (a + b + c + d)).take e))) := by
  have h3 := drop_cut cs (a + b + c + d) e
  rw [List.drop_eq_nil_of_le (show cs.length ≤ a + b + c + d + e by omega), List.append_nil] at h3
  rw [← h3, ← drop_cut cs (a + b + c) d, ← drop_cut cs (a + b) c, ← drop_cut cs a b]
  exact (List.take_append_drop a cs).symm
theorem cut6 {α : Type} (cs : List α) (a b c d e f : Nat) (h : cs.length = a + b + c + d + e + f) : cs = cs.take a ++ ((cs.drop a).take b ++ ((cs.drop (a + b)).take c ++ ((cs.drop (a + b + c)).take d ++ ((cs.drop (a + b + c + d)).take e ++ (cs.drop (a + b + c + d + e)).take f)))) := by
  have h3 := drop_cut cs (a + b + c + d + e) f
  rw [List.drop_eq_nil_of_le (show cs.length ≤ a + b + c + d + e + f by omega), List.append_nil] at h3
  rw [← h3, ← drop_cut cs (a + b + c + d) e, ← drop_cut cs (a + b + c) d, ← drop_cut cs (a + b) c, ← drop_cut cs a b]
  exact (List.take_append_drop a cs).symm

section
variable {H : Type} {enc : TypeId × Value → H} {w : World} {base : Nat} {spare : Nat → Bool} {held : Bool} {fuel : Nat} {cs : List Value} {x : DataW H × List MemPlace}

theorem u8_wf {n : Int} (h : (Lit.int .u8 n).wf = true) : 0 ≤ n ∧ n ≤ 255 := by
  have e1 : IntKind.u8.min = 0 := rfl
  have e2 : IntKind.u8.max = 255 := rfl
  simp only [Lit.wf, Bool.and_eq_true, decide_eq_true_eq, e1, e2] at h
  omega
/-- An id, opened. -/
theorem open_id (h : DataW.trod enc Tryd.prog w base spare held fuel 25 cs = some x) : ∃ bs : List Int, cs = bs.map (Value.int .u8) ∧ GoodID bs := by
  obtain ⟨xs, m, rfl, rfl, hlen, hxs, hel⟩ := DataW.trod_array Tryd.underlying25 h
  rw [Tryd.cells_id] at hlen
  have hop : ∀ i, i < 32 → ∃ a : Int, cs[i]? = some (.int .u8 a) ∧ 0 ≤ a ∧ a ≤ 255 := by
    intro i hi
    have h1 := hel i hi
    rw [Tryd.cells_u8, Nat.mul_one, List.getElem?_eq_getElem (show i < xs.length by omega)] at h1
    obtain ⟨a, e, _, hw⟩ := DataW.trod_int Tryd.underlying5 h1
    refine ⟨a, ?_, u8_wf hw⟩
    rw [List.drop_eq_getElem_cons (show i < cs.length by omega)] at e
    simp only [List.take_succ_cons, List.take_zero, List.cons.injEq, and_true] at e
    rw [List.getElem?_eq_getElem (show i < cs.length by omega), e]
  obtain ⟨A, hA⟩ := choose_lt hop
  refine ⟨(List.range 32).map A, ?_, by simp, ?_⟩
  · refine List.ext_getElem? fun i => ?_
    by_cases hi : i < 32
    · rw [(hA i hi).1]
      simp [hi]
    · rw [List.getElem?_eq_none (by omega), List.getElem?_eq_none (by simp; omega)]
  · intro u hu
    simp only [List.mem_map, List.mem_range] at hu
    obtain ⟨i, hi, rfl⟩ := hu
    have := (hA i hi).2
    omega
theorem open_str (h : DataW.trod enc Tryd.prog w base spare held fuel 9 cs = some x) : ∃ xs : List Int, cs = [.string (strOfNums xs)] ∧ Octs xs ∧ ∀ B, (DataW.weights Tryd.prog 9 x.1).all (· ≤ B) = true → xs.length ≤ B := by
  obtain ⟨s, e, rfl, _⟩ := DataW.trod_string Tryd.underlying9 h
  refine ⟨numsOf s, by rw [nums_str]; exact e, nums_octs s, fun B hB => ?_⟩
  simp only [DataW.weights] at hB
  simpa [numsOf] using hB
theorem open_int (h : DataW.trod enc Tryd.prog w base spare held fuel 3 cs = some x) : ∃ n : Int, cs = [.int .i64 n] ∧ -9223372036854775808 ≤ n ∧ n ≤ 9223372036854775807 := by
  obtain ⟨n, e, _, hw⟩ := DataW.trod_int Tryd.underlying3 h
  exact ⟨n, e, i64_wf hw⟩
theorem open_u64 (h : DataW.trod enc Tryd.prog w base spare held fuel 27 cs = some x) : ∃ n : Int, cs = [.int .u64 n] ∧ 0 ≤ n ∧ n ≤ 18446744073709551615 := by
  obtain ⟨n, e, _, hw⟩ := DataW.trod_int Tryd.underlying27 h
  exact ⟨n, e, u64_wf hw⟩

theorem open_ent (h : DataW.trod enc Tryd.prog w base spare held fuel 74 cs = some x) : ∃ e : EntL, cs = e.row ∧ ((DataW.weights Tryd.prog 74 x.1).all (· ≤ 140737488351232) = true → e.Good) := by
  obtain ⟨zs, n, rfl, rfl, hlen, hxs, hfl⟩ := DataW.trod_struct Tryd.underlying74 h
  rw [Tryd.cells_ent] at hlen
  have f0 := hfl 0 _ rfl
  have f1 := hfl 1 _ rfl
  have f2 := hfl 2 _ rfl
  match zs, hxs with
  | [y0, y1, y2], _ =>
    simp [Tryd.cells_str, Tryd.cells_int, Tryd.cells_id] at f0 f1 f2
    obtain ⟨a0, e0, w0, w1⟩ := open_int f0
    obtain ⟨s, e1, o1, k1⟩ := open_str f1
    obtain ⟨id, e2, hgi⟩ := open_id f2
    have c : cs = cs.take 1 ++ ((cs.drop 1).take 1 ++ (cs.drop 2).take 32) := cut3 cs 1 1 32 hlen
    rw [List.drop_one] at c
    rw [e0, e1, e2] at c
    refine ⟨⟨a0, s, id⟩, c, fun hB => ⟨w0, w1, ⟨o1, ?_⟩, hgi⟩⟩
    simp only [DataW.weights, Tryd.underlying74, DataW.weightsEach, List.map_cons, List.map_nil, List.append_nil, List.all_append, Bool.and_eq_true] at hB
    exact k1 _ hB.2.1
instance : Inhabited EntL := ⟨⟨0, [], []⟩⟩
instance : Inhabited ComL := ⟨⟨[], [], [], 0, []⟩⟩
instance : Inhabited TagL := ⟨⟨[], 0, [], [], 0, []⟩⟩
instance : Inhabited ObjL := ⟨⟨0, .slice none 0 0, [], .slice none 0 0, [], default, .slice none 0 0, default⟩⟩

theorem open_entl (h : DataW.trod enc Tryd.prog w base spare held fuel 23 cs = some x) : ∃ v es, cs = [v] ∧ ((DataW.weights Tryd.prog 23 x.1).all (· ≤ 140737488351232) = true → EntsAt w v es ∧ es.length * 56 ≤ 140737488351232 ∧ ∀ e, e ∈ es → e.Good) := by
  obtain ⟨ao, cap, ls, rfl, h1, h0, hc, hB⟩ := open_rowl EntL.row EntL.Good 140737488351232 Tryd.underlying23 Tryd.cells_ent (by decide) h (fun _ _ _ => open_ent)
  rw [Tryd.bytes_ent] at hB
  refine ⟨_, ls, rfl, fun hb => ⟨⟨ao, cap, by rw [List.length_map], by rw [List.length_map]; exact h1, h0, by rw [List.length_map]; have := (hB hb).1; omega, fun hne => ?_⟩, (hB hb).1, (hB hb).2⟩⟩
  obtain ⟨b, off, hao, hh⟩ := hc (by simpa using hne)
  refine ⟨b, off, hao, fun i r hr => ?_⟩
  rw [List.getElem?_map] at hr
  obtain ⟨e, he, rfl⟩ := Option.map_eq_some_iff.1 hr
  exact hh i e he
theorem open_idl (h : DataW.trod enc Tryd.prog w base spare held fuel 26 cs = some x) : ∃ v ids, cs = [v] ∧ ((DataW.weights Tryd.prog 26 x.1).all (· ≤ 140737488351232) = true → IdsAt w v ids ∧ ids.length * 32 ≤ 140737488351232 ∧ ∀ o, o ∈ ids → GoodID o) := by
  obtain ⟨ao, cap, ls, rfl, h1, h0, hc, hB⟩ := open_rowl (fun o : List Int => o.map (Value.int .u8)) GoodID 140737488351232 Tryd.underlying26 Tryd.cells_id (by decide) h (fun _ _ _ h => (open_id h).imp fun _ q => ⟨q.1, fun _ => q.2⟩)
  rw [Tryd.bytes_id] at hB
  exact ⟨_, ls, rfl, fun hb => ⟨⟨ao, cap, rfl, h1, h0, by have := (hB hb).1; omega, hc⟩, (hB hb).1, (hB hb).2⟩⟩

theorem open_com (h : DataW.trod enc Tryd.prog w base spare held fuel 29 cs = some x) : ∃ (c : ComL) (pv : Value), cs = c.row pv ∧ ((DataW.weights Tryd.prog 29 x.1).all (· ≤ 140737488351232) = true → IdsAt w pv c.parents ∧ c.parents.length * 32 ≤ 140737488351232 ∧ c.Good) := by
  obtain ⟨zs, n, rfl, rfl, hlen, hxs, hfl⟩ := DataW.trod_struct Tryd.underlying29 h
  rw [Tryd.cells_com] at hlen
  have f0 := hfl 0 _ rfl
  have f1 := hfl 1 _ rfl
  have f2 := hfl 2 _ rfl
  have f3 := hfl 3 _ rfl
  have f4 := hfl 4 _ rfl
  match zs, hxs with
  | [y0, y1, y2, y3, y4], _ =>
    simp [Tryd.cells_str, Tryd.cells_id, Tryd.cells_idl, Tryd.cells_u64] at f0 f1 f2 f3 f4
    obtain ⟨t, e0, hgt⟩ := open_id f0
    obtain ⟨pv, ids, e1, k1⟩ := open_idl f1
    obtain ⟨s2, e2, o2, k2⟩ := open_str f2
    obtain ⟨tm, e3, w0, w1⟩ := open_u64 f3
    obtain ⟨s4, e4, o4, k4⟩ := open_str f4
    have c : cs = cs.take 32 ++ ((cs.drop 32).take 1 ++ ((cs.drop 33).take 1 ++ ((cs.drop 34).take 1 ++ (cs.drop 35).take 1))) := cut5 cs 32 1 1 1 1 hlen
    rw [e0, e1, e2, e3, e4] at c
    refine ⟨⟨t, ids, s2, tm, s4⟩, pv, c, fun hB => ?_⟩
    simp only [DataW.weights, Tryd.underlying29, DataW.weightsEach, List.map_cons, List.map_nil, List.append_nil, List.all_append, Bool.and_eq_true] at hB
    obtain ⟨_, b1, b2, _, b4⟩ := hB
    exact ⟨(k1 b1).1, (k1 b1).2.1, hgt, (k1 b1).2.2, ⟨o2, k2 _ b2⟩, w0, w1, ⟨o4, k4 _ b4⟩⟩
theorem open_tag (h : DataW.trod enc Tryd.prog w base spare held fuel 31 cs = some x) : ∃ t : TagL, cs = t.row ∧ ((DataW.weights Tryd.prog 31 x.1).all (· ≤ 140737488351232) = true → t.Good) := by
  obtain ⟨zs, n, rfl, rfl, hlen, hxs, hfl⟩ := DataW.trod_struct Tryd.underlying31 h
  rw [Tryd.cells_tag] at hlen
  have f0 := hfl 0 _ rfl
  have f1 := hfl 1 _ rfl
  have f2 := hfl 2 _ rfl
  have f3 := hfl 3 _ rfl
  have f4 := hfl 4 _ rfl
  have f5 := hfl 5 _ rfl
  match zs, hxs with
  | [y0, y1, y2, y3, y4, y5], _ =>
    simp [Tryd.cells_str, Tryd.cells_int, Tryd.cells_id, Tryd.cells_u64] at f0 f1 f2 f3 f4 f5
    obtain ⟨t, e0, hgt⟩ := open_id f0
    obtain ⟨kd, e1, l1, l2⟩ := open_int f1
    obtain ⟨s2, e2, o2, k2⟩ := open_str f2
    obtain ⟨s3, e3, o3, k3⟩ := open_str f3
    obtain ⟨tm, e4, w0, w1⟩ := open_u64 f4
    obtain ⟨s5, e5, o5, k5⟩ := open_str f5
    have c : cs = cs.take 32 ++ ((cs.drop 32).take 1 ++ ((cs.drop 33).take 1 ++ ((cs.drop 34).take 1 ++ ((cs.drop 35).take 1 ++ (cs.drop 36).take 1)))) := cut6 cs 32 1 1 1 1 1 hlen
    rw [e0, e1, e2, e3, e4, e5] at c
    refine ⟨⟨t, kd, s2, s3, tm, s5⟩, c, fun hB => ?_⟩
    simp only [DataW.weights, Tryd.underlying31, DataW.weightsEach, List.map_cons, List.map_nil, List.append_nil, List.all_append, Bool.and_eq_true] at hB
    obtain ⟨_, _, b2, b3, _, b5⟩ := hB
    exact ⟨hgt, l1, l2, ⟨o2, k2 _ b2⟩, ⟨o3, k3 _ b3⟩, w0, w1, ⟨o5, k5 _ b5⟩⟩
theorem open_obj (h : DataW.trod enc Tryd.prog w base spare held fuel 33 cs = some x) : ∃ o : ObjL, cs = o.row ∧ ((DataW.weights Tryd.prog 33 x.1).all (· ≤ 140737488351232) = true → ObjL.Good w o ∧ o.Fits) := by
  obtain ⟨zs, n, rfl, rfl, hlen, hxs, hfl⟩ := DataW.trod_struct Tryd.underlying33 h
  rw [Tryd.cells_obj] at hlen
  have f0 := hfl 0 _ rfl
  have f1 := hfl 1 _ rfl
  have f2 := hfl 2 _ rfl
  have f3 := hfl 3 _ rfl
  have f4 := hfl 4 _ rfl
  match zs, hxs with
  | [y0, y1, y2, y3, y4], _ =>
    simp [Tryd.cells_int, Tryd.cells_bytes, Tryd.cells_entl, Tryd.cells_com, Tryd.cells_tag] at f0 f1 f2 f3 f4
    obtain ⟨kd, e0, l1, l2⟩ := open_int f0
    obtain ⟨ao, cap, bs, e1, hb1, o1, k1, _⟩ := open_bytes f1
    obtain ⟨ev, es, e2, k2⟩ := open_entl f2
    obtain ⟨co, pv, e3, k3⟩ := open_com f3
    obtain ⟨tg, e4, k4⟩ := open_tag f4
    have c : cs = cs.take 1 ++ ((cs.drop 1).take 1 ++ ((cs.drop 2).take 1 ++ ((cs.drop 3).take 36 ++ (cs.drop 39).take 37))) := cut5 cs 1 1 1 36 37 hlen
    rw [List.drop_one] at c
    rw [e0, e1, e2, e3, e4] at c
    refine ⟨⟨kd, .slice ao bs.length cap, bs, ev, es, co, pv, tg⟩, c, fun hB => ?_⟩
    simp only [DataW.weights, Tryd.underlying33, DataW.weightsEach, List.map_cons, List.map_nil, List.append_nil, List.all_append, Bool.and_eq_true] at hB
    obtain ⟨_, b1, b2, b3, b4⟩ := hB
    exact ⟨⟨l1, l2, hb1, ⟨o1, k1 _ b1⟩, (k2 b2).1, (k2 b2).2.2, (k3 b3).1, (k3 b3).2.2, k4 b4⟩, (k2 b2).2.1, (k3 b3).2.1⟩
end
end Go.Proofs.YtnfbiemmdaenpaaDoor

namespace Go.Proofs.YtnfbiemmdaenpaaDoor
open Go.RowKit

/-- guess between its steps: the answer's place, the Guess, the object. -/
structure Gu (w W : World) (ob : Nat) (v : Value) (xs : List Int) (p : Nat) (o : ObjL) : Prop where
  res : W.heap[w.heap.size]? = some (.cells Tryd.zeroCells33 33 (0, 0))
  gat : GAt W (w.heap.size + 1) v xs p
  blk : W.heap[ob]? = some (.cells o.row.toArray 33 (0, 0))
  kp : Kept [] w W
  lo : w.heap.size + 1 + 1 ≤ ob
  vb : xs ≠ [] → ∀ b, blkOf v = some b → b < w.heap.size
section
variable {w W W1 : World} {ob : Nat} {v : Value} {xs : List Int} {p q : Nat} {o o' : ObjL}
theorem Gu.next (h : Gu w W ob v xs p o) (k : Kept [w.heap.size + 1] W W1) (g : GAt W1 (w.heap.size + 1) v xs q) : Gu w W1 ob v xs q o :=
  ⟨k.heap h.res (by simp), g, k.heap h.blk (by have := h.lo; simp; omega), h.kp.trans k (fun x hx => Or.inr (by rw [List.mem_singleton.1 hx]; omega)), h.lo, h.vb⟩
theorem Gu.other (h : Gu w W ob v xs p o) (k : Kept [ob] W W1) (hr : W1.heap[ob]? = some (.cells o'.row.toArray 33 (0, 0))) : Gu w W1 ob v xs p o' := by
  have hlo := h.lo
  exact ⟨k.heap h.res (by simp; omega), h.gat.kept k (by simp; omega) (fun hne b hb e => by have := h.vb hne b hb; simp at e; omega), hr, h.kp.trans k (fun x hx => Or.inr (by rw [List.mem_singleton.1 hx]; omega)), hlo, h.vb⟩
theorem Gu.on (h : Gu w W ob v xs p o) (k : Kept [] W W1) : Gu w W1 ob v xs p o :=
  ⟨k.heap h.res (by simp), h.gat.kept k (by simp) (fun _ _ _ => by simp), k.heap h.blk (by simp), h.kp.then k, h.lo, h.vb⟩
theorem Gu.put (h : Gu w W ob v xs p o) {i : Nat} {c : Value} (hr : o.row.toArray.setIfInBounds i c = o'.row.toArray) : Gu w (W.setCell ⟨ob, i, none⟩ c) ob v xs p o' := by
  refine h.other (by rw [setCell_eq_setRow W _ i _ _ _ c h.blk]; exact ⟨rfl, rfl, rfl, by simp [World.setRow], fun j _ hn => setRow_other W _ j _ (fun e => hn (by simp [e]))⟩) ?_
  rw [setCell_eq_setRow W _ i _ _ _ c h.blk, setRow_heap W _ _ _ _ _ h.blk, hr]
theorem Gu.putRow (h : Gu w W ob v xs p o) {i : Nat} {cs : List Value} (hi : i + cs.length ≤ o.row.length) (hr : putL o.row i cs = o'.row) : Gu w (W.setCells ob i cs) ob v xs p o' := by
  refine h.other (Kept.setCells ob (Or.inl (by simp)) cs i W (Kept.refl _ _)) ?_
  rw [setCells_heap ob _ cs i W _ h.blk, setL_put _ _ _ hi, hr]
theorem Gu.cell (h : Gu w W ob v xs p o) {i : Nat} (hi : i < o.row.length) : (∃ c, W.cell? ⟨ob, i, none⟩ = some c) ∧ W.frozen? ⟨ob, i, none⟩ = false := by
  refine ⟨⟨o.row[i], ?_⟩, frozen_of_row W _ _ _ _ h.blk⟩
  rw [cell_of_row _ _ _ _ _ _ h.blk, List.getElem?_toArray, List.getElem?_eq_getElem hi]
theorem Gu.there (h : Gu w W ob v xs p o) {i n : Nat} (hi : i + n ≤ o.row.length) : W.there ob i n := fun j hj => by
  have hij : i + j < o.row.length := by omega
  refine ⟨?_, frozen_of_row W _ _ _ _ h.blk⟩
  rw [cell_of_row _ _ _ _ _ _ h.blk, List.getElem?_toArray, List.getElem?_eq_getElem hij]
  rfl
end

theorem set_tag (o : ObjL) (hc : o.com.tree.length = 32) (i : Nat) (c : Value) : o.row.toArray.setIfInBounds (39 + i) c = ([Value.int .i64 o.kind, o.bv, o.ev] ++ (o.com.row o.pv ++ o.tag.row.set i c)).toArray := by
  rw [List.setIfInBounds_toArray]
  unfold ObjL.row
  rw [List.set_append_right _ _ (by show 3 ≤ 39 + i; omega), show (39 + i - [Value.int .i64 o.kind, o.bv, o.ev].length) = 36 + i by show 39 + i - 3 = 36 + i; omega, List.set_append_right _ _ (by rw [com_len' _ _ hc]; omega), com_len' _ _ hc, Nat.add_sub_cancel_left]
theorem set_com (o : ObjL) (hc : o.com.tree.length = 32) (i : Nat) (hi : i < 36) (c : Value) : o.row.toArray.setIfInBounds (3 + i) c = ([Value.int .i64 o.kind, o.bv, o.ev] ++ ((o.com.row o.pv).set i c ++ o.tag.row)).toArray := by
  rw [List.setIfInBounds_toArray]
  unfold ObjL.row
  rw [List.set_append_right _ _ (by show 3 ≤ 3 + i; omega), show (3 + i - [Value.int .i64 o.kind, o.bv, o.ev].length) = i by show 3 + i - 3 = i; omega, List.set_append_left _ _ (by rw [com_len' _ _ hc]; exact hi)]
theorem set_tagL (t : TagL) (ht : t.target.length = 32) (i : Nat) (c : Value) : t.row.set (32 + i) c = t.target.map (Value.int .u8) ++ [Value.int .i64 t.kind, .string (strOfNums t.name), .string (strOfNums t.who), .int .u64 t.time, .string (strOfNums t.text)].set i c := by
  unfold TagL.row
  rw [List.set_append_right _ _ (by rw [List.length_map, ht]; omega), List.length_map, ht, Nat.add_sub_cancel_left]
theorem set_comL (t : ComL) (pv : Value) (ht : t.tree.length = 32) (i : Nat) (c : Value) : (t.row pv).set (32 + i) c = t.tree.map (Value.int .u8) ++ [pv, .string (strOfNums t.who), .int .u64 t.time, .string (strOfNums t.text)].set i c := by
  unfold ComL.row
  rw [List.set_append_right _ _ (by rw [List.length_map, ht]; omega), List.length_map, ht, Nat.add_sub_cancel_left]
theorem objL_target (o : ObjL) (x : List Int) (hc : o.com.tree.length = 32) (ht : o.tag.target.length = 32) (hx : x.length = 32) : putL o.row 39 (x.map (Value.int .u8)) = ({ o with tag := { o.tag with target := x } } : ObjL).row := by
  have e : o.row = ([Value.int .i64 o.kind, o.bv, o.ev] ++ o.com.row o.pv) ++ (o.tag.target.map (Value.int .u8) ++ [Value.int .i64 o.tag.kind, .string (strOfNums o.tag.name), .string (strOfNums o.tag.who), .int .u64 o.tag.time, .string (strOfNums o.tag.text)]) := by
    unfold ObjL.row TagL.row
    simp only [List.append_assoc]
  have h39 : ([Value.int .i64 o.kind, o.bv, o.ev] ++ o.com.row o.pv).length = 39 := by rw [List.length_append, com_len' _ _ hc]; rfl
  unfold putL
  rw [e, List.take_left' h39, List.length_map, hx]
  rw [show List.drop (39 + 32) (([Value.int .i64 o.kind, o.bv, o.ev] ++ o.com.row o.pv) ++ (o.tag.target.map (Value.int .u8) ++ [Value.int .i64 o.tag.kind, .string (strOfNums o.tag.name), .string (strOfNums o.tag.who), .int .u64 o.tag.time, .string (strOfNums o.tag.text)])) = [Value.int .i64 o.tag.kind, .string (strOfNums o.tag.name), .string (strOfNums o.tag.who), .int .u64 o.tag.time, .string (strOfNums o.tag.text)] by
    rw [← List.drop_drop, List.drop_left' h39, List.drop_left' (by rw [List.length_map, ht])]]
  unfold ObjL.row TagL.row
  simp only [List.append_assoc]
theorem objL_tree (o : ObjL) (x : List Int) (hc : o.com.tree.length = 32) (hx : x.length = 32) : putL o.row 3 (x.map (Value.int .u8)) = ({ o with com := { o.com with tree := x } } : ObjL).row := by
  have e : o.row = [Value.int .i64 o.kind, o.bv, o.ev] ++ (o.com.tree.map (Value.int .u8) ++ ([o.pv, .string (strOfNums o.com.who), .int .u64 o.com.time, .string (strOfNums o.com.text)] ++ o.tag.row)) := by
    unfold ObjL.row ComL.row
    simp only [List.append_assoc]
  unfold putL
  rw [e, List.take_left' (by rfl), List.length_map, hx]
  rw [show List.drop (3 + 32) ([Value.int .i64 o.kind, o.bv, o.ev] ++ (o.com.tree.map (Value.int .u8) ++ ([o.pv, .string (strOfNums o.com.who), .int .u64 o.com.time, .string (strOfNums o.com.text)] ++ o.tag.row))) = [o.pv, .string (strOfNums o.com.who), .int .u64 o.com.time, .string (strOfNums o.com.text)] ++ o.tag.row by
    rw [← List.drop_drop, List.drop_left' (by rfl), List.drop_left' (by rw [List.length_map, hc])]]
  unfold ObjL.row ComL.row
  simp only [List.append_assoc]
def kindO (k : Int) : ObjL := { zeroO with kind := k }
theorem built_kind (k : Int) : Tryd.prog.built 33 [(0, .int .i64 k)] = some (kindO k).row.toArray := by
  rw [Tryd.builtObj, fill_step (fun i => (#[(0, 1), (1, 1), (2, 1), (3, 36), (39, 37)] : Array (Nat × Nat))[i]?) zeroO.row.toArray 0 (.int .i64 k) _ 0 1 rfl rfl (by decide)]
  have e1 : (Value.int .i64 k).cells.toList = [.int .i64 k] := rfl
  rw [e1, setL_put _ _ _ (by show 0 + 1 ≤ zeroO.row.length; decide)]
  have e2 : putL zeroO.row 0 [.int .i64 k] = [.int .i64 k, .slice none 0 0, .slice none 0 0] ++ (zeroC.row (.slice none 0 0) ++ zeroG.row) := put0 _ _ _ _ _
  rw [e2, fill_nil]
  rfl
/-- The object as it is made first: the kind alone. -/
theorem Gu.start {w w1 : World} {v : Value} {xs : List Int} {p : Nat} {k : Int} (hv : BytesAt w v xs) (k0 : Kept [w.heap.size + 1] ((w.alloc (.cells Tryd.zeroCells33 33)).alloc (.cells #[v, .int .i64 0] 101)) w1) (g : GAt w1 (w.heap.size + 1) v xs p) :
    Gu w (w1.alloc (.cells (kindO k).row.toArray 33)) w1.heap.size v xs p (kindO k) := by
  have hk : Kept [] w1 (w1.alloc (.cells (kindO k).row.toArray 33)) := (Kept.refl _ _).alloc _
  have hr : ((w.alloc (.cells Tryd.zeroCells33 33)).alloc (.cells #[v, .int .i64 0] 101)).heap[w.heap.size]? = some (.cells Tryd.zeroCells33 33 (0, 0)) := (Below.heap_alloc _ _ _ (by rw [World.size_alloc]; omega)).trans (heap_alloc_new w _)
  have hsz : ((w.alloc (.cells Tryd.zeroCells33 33)).alloc (.cells #[v, .int .i64 0] 101)).heap.size = w.heap.size + 1 + 1 := by rw [World.size_alloc, World.size_alloc]
  have hk1 : Kept [] w w1 := (((Kept.refl [] w).alloc _).alloc _).trans k0 (fun x hx => Or.inr (by rw [List.mem_singleton.1 hx]; omega))
  refine ⟨hk.heap (k0.heap hr (by simp)) (by simp), g.kept hk (by simp) (fun _ _ _ => by simp), heap_alloc_new w1 _, hk1.then hk, by have := k0.size; omega, fun hne b hb => ?_⟩
  obtain ⟨ao, cap, rfl, _, _, hc⟩ := hv
  obtain ⟨b', off, rfl, hh⟩ := hc hne
  obtain rfl : b' = b := by simpa [blkOf] using hb
  obtain ⟨x, r, rfl⟩ : ∃ x r, xs = x :: r := by cases xs with | nil => exact absurd rfl hne | cons x r => exact ⟨x, r, rfl⟩
  exact World.block_lt_of_cell? w _ (hh 0 x rfl)
theorem GAt.start {w : World} {v : Value} {xs : List Int} (hv : BytesAt w v xs) (ho : Octs xs) (hl : xs.length ≤ 65536) :
    GAt ((w.alloc (.cells Tryd.zeroCells33 33)).alloc (.cells #[v, .int .i64 0] 101)) (w.heap.size + 1) v xs 0 := by
  have hk : Kept [] w ((w.alloc (.cells Tryd.zeroCells33 33)).alloc (.cells #[v, .int .i64 0] 101)) := ((Kept.refl _ _).alloc _).alloc _
  refine ⟨?_, hv.keep hk (fun _ _ _ => by simp), ho, Nat.zero_le _, hl, fun hne b hb => ?_⟩
  · have h := heap_alloc_new (w.alloc (.cells Tryd.zeroCells33 33)) (.cells #[v, .int .i64 0] 101)
    rw [World.size_alloc] at h
    exact h
  · obtain ⟨ao, cap, rfl, _, _, hc⟩ := hv
    obtain ⟨b', off, rfl, hh⟩ := hc hne
    obtain rfl : b' = b := by simpa [blkOf] using hb
    obtain ⟨x, r, rfl⟩ : ∃ x r, xs = x :: r := by cases xs with | nil => exact absurd rfl hne | cons x r => exact ⟨x, r, rfl⟩
    have := World.block_lt_of_cell? w _ (hh 0 x rfl)
    show b' ≠ w.heap.size + 1
    have h2 : b' < w.heap.size := this
    omega
end Go.Proofs.YtnfbiemmdaenpaaDoor
