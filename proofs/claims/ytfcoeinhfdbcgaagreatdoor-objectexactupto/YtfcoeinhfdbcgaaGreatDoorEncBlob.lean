/-
  OBJECTS OPENED: what a reading of one says of memory.
  WALKS: (object.blob).fault, write; object.Encode of each kind.
  WALK: object.Encode, of a blob.
-/
import Derived.Test.YtfcoeinhfdbcgaaGreatDoorEqA
import Derived.Test.YtfcoeinhfdbcgaaGreatDoorRe4
namespace Go.Proofs.YtfcoeinhfdbcgaaGreatDoor
open Go.ChangeShapes Go.WideShapes Go.ChangeAt Go.RowKit Go.Deep

/-- Its lists fit into memory once more. -/
structure ObjL.Fits (o : ObjL) : Prop where
  es : o.es.length * 56 ≤ 140737488351232
  ps : o.com.parents.length * 32 ≤ 140737488351232

theorem ObjL.Good.kept {w w' : World} {o : ObjL} (h : ObjL.Good w o) (k : Kept [] w w') : ObjL.Good w' o :=
  ⟨h.lo, h.hi, h.bv.keep k (fun _ _ _ => by simp), h.blob, h.ev.keep k (fun _ _ _ => by simp), h.es, h.pv.keep k (fun _ _ _ => by simp), h.com, h.tag⟩
theorem objL_len {o : ObjL} (hc : o.com.tree.length = 32) (ht : o.tag.target.length = 32) : o.row.length = 76 := by
  unfold ObjL.row
  rw [List.length_append, List.length_append, com_len' _ _ hc, show o.tag.row.length = 37 by simp [TagL.row, ht]]
  rfl
theorem Tryz.cells_id : Tryz.prog.cellsOf 29 = 32 := by kernel_rfl
theorem Tryz.cells_idl : Tryz.prog.cellsOf 30 = 1 := by kernel_rfl
theorem Tryz.bytes_id : Tryz.prog.bytesOf 29 = 32 := by kernel_rfl
theorem Tryz.cells_ent : Tryz.prog.cellsOf 80 = 34 := by kernel_rfl
theorem Tryz.cells_entl : Tryz.prog.cellsOf 27 = 1 := by kernel_rfl
theorem Tryz.bytes_ent : Tryz.prog.bytesOf 80 = 56 := by kernel_rfl
theorem Tryz.cells_com : Tryz.prog.cellsOf 33 = 36 := by kernel_rfl
theorem Tryz.cells_tag : Tryz.prog.cellsOf 35 = 37 := by kernel_rfl
theorem Tryz.cells_obj : Tryz.prog.cellsOf 37 = 76 := by kernel_rfl
theorem Tryz.cells_u64 : Tryz.prog.cellsOf 31 = 1 := by kernel_rfl
theorem Tryz.cells_str : Tryz.prog.cellsOf 9 = 1 := by kernel_rfl

theorem cut3 {α : Type} (cs : List α) (a b c : Nat) (h : cs.length = a + b + c) : cs = cs.take a ++ ((cs.drop a).take b ++ (cs.drop (a + b)).take c) := by
  have h1 := (List.take_append_drop a cs).symm
  have h2 := drop_cut cs a b
  have h3 := drop_cut cs (a + b) c
  rw [List.drop_eq_nil_of_le (show cs.length ≤ a + b + c by omega), List.append_nil] at h3
  rw [← h3, ← h2]
  exact h1
theorem cut4 {α : Type} (cs : List α) (a b c d : Nat) (h : cs.length = a + b + c + d) : cs = cs.take a ++ ((cs.drop a).take b ++ ((cs.drop (a + b)).take c ++ (cs.drop (a + b + c)).take d)) := by
  have h2 := drop_cut cs (a + b) c
  have h3 := drop_cut cs (a + b + c) d
  rw [List.drop_eq_nil_of_le (show cs.length ≤ a + b + c + d by omega), List.append_nil] at h3
  rw [← h3, ← h2, ← drop_cut cs a b]
  exact (List.take_append_drop a cs).symm
theorem cut5 {α : Type} (cs : List α) (a b c d e : Nat) (h : cs.length = a + b + c + d + e) : cs = cs.take a ++ ((cs.drop a).take b ++ ((cs.drop (a + b)).take c ++ ((cs.drop (a + b + c)).take d ++ (cs.drop (a + b + c + d)).take e))) := by
  have h3 := drop_cut cs (a + b + c + d) e
  rw [List.drop_eq_nil_of_le (show cs.length ≤ a + b + c + d + e by omega), List.append_nil] at h3
  rw [← h3, ← drop_cut cs (a + b + c) d, ← drop_cut cs (a + b) c, ← drop_cut cs a b]
  exact (List.take_append_drop a cs).symm
theorem cut6 {α : Type} (cs : List α) (a b c d e f : Nat) (h : cs.length = a + b + c + d + e + f) : cs = cs.take a ++ ((cs.drop a).take b ++ ((cs.drop (a + b)).take c ++ ((cs.drop (a + b + c)).take d ++ ((cs.drop (a + b + c + d)).take e ++ (cs.drop (a + b + c + d + e)).take f)))) := by
  have h3 := drop_cut cs (a + b + c + d + e) f
  rw [List.drop_eq_nil_of_le (show cs.length ≤ a + b + c + d + e + f by omega), List.append_nil] at h3
  rw [← h3, ← drop_cut cs (a + b + c + d) e, ← drop_cut cs (a + b + c) d, ← drop_cut cs (a + b) c, ← drop_cut cs a b]
  exact (List.take_append_drop a cs).symm

section
variable {H : Type} {enc : TypeId × Value → H} {w : World} {base : Nat} {spare : Nat → Bool} {held : Bool} {fuel : Nat} {cs : List Value} {x : DataW H × List MemPlace}

theorem u8_wf {n : Int} (h : (Lit.int .u8 n).wf = true) : 0 ≤ n ∧ n ≤ 255 := by
  have e1 : IntKind.u8.min = 0 := rfl
  have e2 : IntKind.u8.max = 255 := rfl
  simp only [Lit.wf, Bool.and_eq_true, decide_eq_true_eq, e1, e2] at h
  omega
/-- An id, opened. -/
theorem open_id (h : DataW.trod enc Tryz.prog w base spare held fuel 29 cs = some x) : ∃ bs : List Int, cs = bs.map (Value.int .u8) ∧ GoodID bs := by
  obtain ⟨xs, m, rfl, rfl, hlen, hxs, hel⟩ := DataW.trod_array Tryz.underlying29 h
  rw [Tryz.cells_id] at hlen
  have hop : ∀ i, i < 32 → ∃ a : Int, cs[i]? = some (.int .u8 a) ∧ 0 ≤ a ∧ a ≤ 255 := by
    intro i hi
    have h1 := hel i hi
    rw [Tryz.cells_u8, Nat.mul_one, List.getElem?_eq_getElem (show i < xs.length by omega)] at h1
    obtain ⟨a, e, _, hw⟩ := DataW.trod_int Tryz.underlying5 h1
    refine ⟨a, ?_, u8_wf hw⟩
    rw [List.drop_eq_getElem_cons (show i < cs.length by omega)] at e
    simp only [List.take_succ_cons, List.take_zero, List.cons.injEq, and_true] at e
    rw [List.getElem?_eq_getElem (show i < cs.length by omega), e]
  obtain ⟨A, hA⟩ := choose_lt hop
  refine ⟨(List.range 32).map A, ?_, by simp, ?_⟩
  · refine List.ext_getElem? fun i => ?_
    by_cases hi : i < 32
    · rw [(hA i hi).1]
      simp [hi]
    · rw [List.getElem?_eq_none (by omega), List.getElem?_eq_none (by simp; omega)]
  · intro u hu
    simp only [List.mem_map, List.mem_range] at hu
    obtain ⟨i, hi, rfl⟩ := hu
    have := (hA i hi).2
    omega
theorem open_str (h : DataW.trod enc Tryz.prog w base spare held fuel 9 cs = some x) : ∃ xs : List Int, cs = [.string (strOfNums xs)] ∧ Octs xs ∧ ∀ B, (DataW.weights Tryz.prog 9 x.1).all (· ≤ B) = true → xs.length ≤ B := by
  obtain ⟨s, e, rfl, _⟩ := DataW.trod_string Tryz.underlying9 h
  refine ⟨numsOf s, by rw [nums_str]; exact e, nums_octs s, fun B hB => ?_⟩
  simp only [DataW.weights] at hB
  simpa [numsOf] using hB
theorem open_int (h : DataW.trod enc Tryz.prog w base spare held fuel 3 cs = some x) : ∃ n : Int, cs = [.int .i64 n] ∧ -9223372036854775808 ≤ n ∧ n ≤ 9223372036854775807 := by
  obtain ⟨n, e, _, hw⟩ := DataW.trod_int Tryz.underlying3 h
  exact ⟨n, e, i64_wf hw⟩
theorem open_u64 (h : DataW.trod enc Tryz.prog w base spare held fuel 31 cs = some x) : ∃ n : Int, cs = [.int .u64 n] ∧ 0 ≤ n ∧ n ≤ 18446744073709551615 := by
  obtain ⟨n, e, _, hw⟩ := DataW.trod_int Tryz.underlying31 h
  exact ⟨n, e, u64_wf hw⟩

theorem open_ent (h : DataW.trod enc Tryz.prog w base spare held fuel 80 cs = some x) : ∃ e : EntL, cs = e.row ∧ ((DataW.weights Tryz.prog 80 x.1).all (· ≤ 140737488351232) = true → e.Good) := by
  obtain ⟨zs, n, rfl, rfl, hlen, hxs, hfl⟩ := DataW.trod_struct Tryz.underlying80 h
  rw [Tryz.cells_ent] at hlen
  have f0 := hfl 0 _ rfl
  have f1 := hfl 1 _ rfl
  have f2 := hfl 2 _ rfl
  match zs, hxs with
  | [y0, y1, y2], _ =>
    simp [Tryz.cells_str, Tryz.cells_int, Tryz.cells_id] at f0 f1 f2
    obtain ⟨a0, e0, w0, w1⟩ := open_int f0
    obtain ⟨s, e1, o1, k1⟩ := open_str f1
    obtain ⟨id, e2, hgi⟩ := open_id f2
    have c : cs = cs.take 1 ++ ((cs.drop 1).take 1 ++ (cs.drop 2).take 32) := cut3 cs 1 1 32 hlen
    rw [List.drop_one] at c
    rw [e0, e1, e2] at c
    refine ⟨⟨a0, s, id⟩, c, fun hB => ⟨w0, w1, ⟨o1, ?_⟩, hgi⟩⟩
    simp only [DataW.weights, Tryz.underlying80, DataW.weightsEach, List.map_cons, List.map_nil, List.append_nil, List.all_append, Bool.and_eq_true] at hB
    exact k1 _ hB.2.1
instance : Inhabited EntL := ⟨⟨0, [], []⟩⟩
instance : Inhabited ComL := ⟨⟨[], [], [], 0, []⟩⟩
instance : Inhabited TagL := ⟨⟨[], 0, [], [], 0, []⟩⟩
instance : Inhabited ObjL := ⟨⟨0, .slice none 0 0, [], .slice none 0 0, [], default, .slice none 0 0, default⟩⟩

theorem open_entl (h : DataW.trod enc Tryz.prog w base spare held fuel 27 cs = some x) : ∃ v es, cs = [v] ∧ ((DataW.weights Tryz.prog 27 x.1).all (· ≤ 140737488351232) = true → EntsAt w v es ∧ es.length * 56 ≤ 140737488351232 ∧ ∀ e, e ∈ es → e.Good) := by
  obtain ⟨ao, cap, ls, rfl, h1, h0, hc, hB⟩ := open_rowl EntL.row EntL.Good 140737488351232 Tryz.underlying27 Tryz.cells_ent (by decide) h (fun _ _ _ => open_ent)
  rw [Tryz.bytes_ent] at hB
  refine ⟨_, ls, rfl, fun hb => ⟨⟨ao, cap, by rw [List.length_map], by rw [List.length_map]; exact h1, h0, by rw [List.length_map]; have := (hB hb).1; omega, fun hne => ?_⟩, (hB hb).1, (hB hb).2⟩⟩
  obtain ⟨b, off, hao, hh⟩ := hc (by simpa using hne)
  refine ⟨b, off, hao, fun i r hr => ?_⟩
  rw [List.getElem?_map] at hr
  obtain ⟨e, he, rfl⟩ := Option.map_eq_some_iff.1 hr
  exact hh i e he
theorem open_idl (h : DataW.trod enc Tryz.prog w base spare held fuel 30 cs = some x) : ∃ v ids, cs = [v] ∧ ((DataW.weights Tryz.prog 30 x.1).all (· ≤ 140737488351232) = true → IdsAt w v ids ∧ ids.length * 32 ≤ 140737488351232 ∧ ∀ o, o ∈ ids → GoodID o) := by
  obtain ⟨ao, cap, ls, rfl, h1, h0, hc, hB⟩ := open_rowl (fun o : List Int => o.map (Value.int .u8)) GoodID 140737488351232 Tryz.underlying30 Tryz.cells_id (by decide) h (fun _ _ _ h => (open_id h).imp fun _ q => ⟨q.1, fun _ => q.2⟩)
  rw [Tryz.bytes_id] at hB
  exact ⟨_, ls, rfl, fun hb => ⟨⟨ao, cap, rfl, h1, h0, by have := (hB hb).1; omega, hc⟩, (hB hb).1, (hB hb).2⟩⟩

theorem open_com (h : DataW.trod enc Tryz.prog w base spare held fuel 33 cs = some x) : ∃ (c : ComL) (pv : Value), cs = c.row pv ∧ ((DataW.weights Tryz.prog 33 x.1).all (· ≤ 140737488351232) = true → IdsAt w pv c.parents ∧ c.parents.length * 32 ≤ 140737488351232 ∧ c.Good) := by
  obtain ⟨zs, n, rfl, rfl, hlen, hxs, hfl⟩ := DataW.trod_struct Tryz.underlying33 h
  rw [Tryz.cells_com] at hlen
  have f0 := hfl 0 _ rfl
  have f1 := hfl 1 _ rfl
  have f2 := hfl 2 _ rfl
  have f3 := hfl 3 _ rfl
  have f4 := hfl 4 _ rfl
  match zs, hxs with
  | [y0, y1, y2, y3, y4], _ =>
    simp [Tryz.cells_str, Tryz.cells_id, Tryz.cells_idl, Tryz.cells_u64] at f0 f1 f2 f3 f4
    obtain ⟨t, e0, hgt⟩ := open_id f0
    obtain ⟨pv, ids, e1, k1⟩ := open_idl f1
    obtain ⟨s2, e2, o2, k2⟩ := open_str f2
    obtain ⟨tm, e3, w0, w1⟩ := open_u64 f3
    obtain ⟨s4, e4, o4, k4⟩ := open_str f4
    have c : cs = cs.take 32 ++ ((cs.drop 32).take 1 ++ ((cs.drop 33).take 1 ++ ((cs.drop 34).take 1 ++ (cs.drop 35).take 1))) := cut5 cs 32 1 1 1 1 hlen
    rw [e0, e1, e2, e3, e4] at c
    refine ⟨⟨t, ids, s2, tm, s4⟩, pv, c, fun hB => ?_⟩
    simp only [DataW.weights, Tryz.underlying33, DataW.weightsEach, List.map_cons, List.map_nil, List.append_nil, List.all_append, Bool.and_eq_true] at hB
    obtain ⟨_, b1, b2, _, b4⟩ := hB
    exact ⟨(k1 b1).1, (k1 b1).2.1, hgt, (k1 b1).2.2, ⟨o2, k2 _ b2⟩, w0, w1, ⟨o4, k4 _ b4⟩⟩
theorem open_tag (h : DataW.trod enc Tryz.prog w base spare held fuel 35 cs = some x) : ∃ t : TagL, cs = t.row ∧ ((DataW.weights Tryz.prog 35 x.1).all (· ≤ 140737488351232) = true → t.Good) := by
  obtain ⟨zs, n, rfl, rfl, hlen, hxs, hfl⟩ := DataW.trod_struct Tryz.underlying35 h
  rw [Tryz.cells_tag] at hlen
  have f0 := hfl 0 _ rfl
  have f1 := hfl 1 _ rfl
  have f2 := hfl 2 _ rfl
  have f3 := hfl 3 _ rfl
  have f4 := hfl 4 _ rfl
  have f5 := hfl 5 _ rfl
  match zs, hxs with
  | [y0, y1, y2, y3, y4, y5], _ =>
    simp [Tryz.cells_str, Tryz.cells_int, Tryz.cells_id, Tryz.cells_u64] at f0 f1 f2 f3 f4 f5
    obtain ⟨t, e0, hgt⟩ := open_id f0
    obtain ⟨kd, e1, l1, l2⟩ := open_int f1
    obtain ⟨s2, e2, o2, k2⟩ := open_str f2
    obtain ⟨s3, e3, o3, k3⟩ := open_str f3
    obtain ⟨tm, e4, w0, w1⟩ := open_u64 f4
    obtain ⟨s5, e5, o5, k5⟩ := open_str f5
    have c : cs = cs.take 32 ++ ((cs.drop 32).take 1 ++ ((cs.drop 33).take 1 ++ ((cs.drop 34).take 1 ++ ((cs.drop 35).take 1 ++ (cs.drop 36).take 1)))) := cut6 cs 32 1 1 1 1 1 hlen
    rw [e0, e1, e2, e3, e4, e5] at c
    refine ⟨⟨t, kd, s2, s3, tm, s5⟩, c, fun hB => ?_⟩
    simp only [DataW.weights, Tryz.underlying35, DataW.weightsEach, List.map_cons, List.map_nil, List.append_nil, List.all_append, Bool.and_eq_true] at hB
    obtain ⟨_, _, b2, b3, _, b5⟩ := hB
    exact ⟨hgt, l1, l2, ⟨o2, k2 _ b2⟩, ⟨o3, k3 _ b3⟩, w0, w1, ⟨o5, k5 _ b5⟩⟩
theorem open_obj (h : DataW.trod enc Tryz.prog w base spare held fuel 37 cs = some x) : ∃ o : ObjL, cs = o.row ∧ ((DataW.weights Tryz.prog 37 x.1).all (· ≤ 140737488351232) = true → ObjL.Good w o ∧ o.Fits) := by
  obtain ⟨zs, n, rfl, rfl, hlen, hxs, hfl⟩ := DataW.trod_struct Tryz.underlying37 h
  rw [Tryz.cells_obj] at hlen
  have f0 := hfl 0 _ rfl
  have f1 := hfl 1 _ rfl
  have f2 := hfl 2 _ rfl
  have f3 := hfl 3 _ rfl
  have f4 := hfl 4 _ rfl
  match zs, hxs with
  | [y0, y1, y2, y3, y4], _ =>
    simp [Tryz.cells_int, Tryz.cells_bytes, Tryz.cells_entl, Tryz.cells_com, Tryz.cells_tag] at f0 f1 f2 f3 f4
    obtain ⟨kd, e0, l1, l2⟩ := open_int f0
    obtain ⟨ao, cap, bs, e1, hb1, o1, k1, _⟩ := open_bytes f1
    obtain ⟨ev, es, e2, k2⟩ := open_entl f2
    obtain ⟨co, pv, e3, k3⟩ := open_com f3
    obtain ⟨tg, e4, k4⟩ := open_tag f4
    have c : cs = cs.take 1 ++ ((cs.drop 1).take 1 ++ ((cs.drop 2).take 1 ++ ((cs.drop 3).take 36 ++ (cs.drop 39).take 37))) := cut5 cs 1 1 1 36 37 hlen
    rw [List.drop_one] at c
    rw [e0, e1, e2, e3, e4] at c
    refine ⟨⟨kd, .slice ao bs.length cap, bs, ev, es, co, pv, tg⟩, c, fun hB => ?_⟩
    simp only [DataW.weights, Tryz.underlying37, DataW.weightsEach, List.map_cons, List.map_nil, List.append_nil, List.all_append, Bool.and_eq_true] at hB
    obtain ⟨_, b1, b2, b3, b4⟩ := hB
    exact ⟨⟨l1, l2, hb1, ⟨o1, k1 _ b1⟩, (k2 b2).1, (k2 b2).2.2, (k3 b3).1, (k3 b3).2.2, k4 b4⟩, (k2 b2).2.1, (k3 b3).2.1⟩
end
end Go.Proofs.YtfcoeinhfdbcgaaGreatDoor

namespace Go.Proofs.YtfcoeinhfdbcgaaGreatDoor
open Go.RowKit

def faultB (xs : List Int) : Int := if 65536 < 1 + xs.length then 31 else 0
def encB (xs : List Int) : List Int := fixedB 1 1 ++ xs

theorem blobFault_any (v : Value) (xs : List Int) (w : World) (hv : BytesAt w v xs) (hm : xs.length ≤ 140737488351232) :
    Calls Tryz.prog 115 #[v] w fun e w' => e = .returned (.int .i64 (faultB xs)) ∧ Kept [] w w' := by
  obtain ⟨ao, cap, rfl, _⟩ := hv
  by_cases hl : 65536 < 1 + xs.length
  · have HF : Hid (faultB xs = 31) := if_pos hl
    go_enter Tryz.func115, Tryz.ntmps115
    go_wp2
    go_ret
    exact ⟨by rw [HF.out]; rfl, Kept.refl _ _⟩
  · have HF : Hid (faultB xs = 0) := if_neg hl
    go_enter Tryz.func115, Tryz.ntmps115
    go_wp2
    go_ret
    exact ⟨by rw [HF.out]; rfl, Kept.refl _ _⟩

theorem blobWrite_any (v : Value) (xs : List Int) {w : World} {wb B : Nat} {zs : List Int} {S : List Nat} (h : WAt w wb B zs S) (hBw : B ≤ w.heap.size) (hv : BytesAt w v xs) (hd : xs ≠ [] → ∀ b, blkOf v = some b → b ∉ S) (ho : Octs xs) (hz : zs.length + xs.length ≤ 100000000) :
    Calls Tryz.prog 116 #[v, .pointer (some ⟨wb, 0, none⟩)] w fun e w' => e = .returned (.tuple #[]) ∧ Wrote w w' wb B (zs ++ encB xs) S := by
  have HU0 : Hid (∀ W S', WSt w W wb B zs S S' → Calls Tryz.prog 117 #[.pointer (some ⟨wb, 0, none⟩), .int .u8 1] W fun e w' => e = .returned (.tuple #[]) ∧ Wrote W w' wb B (zs ++ fixedB 1 1) S') := fun W S' q => WU8_any q.at' (Nat.le_trans hBw q.keep.size) 1 (by decide) (by decide) (by omega)
  have HU1 : Hid (∀ W S', WSt w W wb B (zs ++ fixedB 1 1) S S' → Calls Tryz.prog 118 #[.pointer (some ⟨wb, 0, none⟩), v] W fun e w' => e = .returned (.tuple #[]) ∧ Wrote W w' wb B (zs ++ fixedB 1 1 ++ xs) S') := fun W S' q => WRaw_any q.at' (Nat.le_trans hBw q.keep.size) v xs (hv.keep q.keep hd) ho (by rw [List.length_append, fixedB_len]; omega)
  have HW0 : Hid (WSt w w wb B zs S S) := WSt.start h
  have HE : Hid (zs ++ fixedB 1 1 ++ xs = zs ++ encB xs) := List.append_assoc _ _ _
  obtain ⟨ao, cap, rfl, _⟩ := hv
  clear h hd ho
  go_enter Tryz.func116, Tryz.ntmps116
  go_wp2_with (first
    | (go_at_call 117; refine (HU0.out _ _ HW0.out).mono ?_; rintro e w1 ⟨rfl, hw1⟩
       obtain ⟨S1, hs1, _, _⟩ := HW0.out.next hw1
       have HW1 : Hid (WSt w w1 wb B (zs ++ fixedB 1 1) S S1) := hs1
       clear hs1 hw1)
    | (go_at_call 118; refine (HU1.out _ _ HW1.out).mono ?_; rintro e w2 ⟨rfl, hw2⟩
       obtain ⟨S2, hs2, _, _⟩ := HW1.out.next hw2
       have HW2 : Hid (WSt w w2 wb B (zs ++ fixedB 1 1 ++ xs) S S2) := hs2
       clear hs2 hw2))
  go_end0
  exact ⟨rfl, by rw [← HE.out]; exact HW2.out.wrote⟩

theorem kept_new {w W W' : World} {b : Nat} (h : Kept [] w W) (k : Kept [b] W W') (hb : w.heap.size ≤ b) : Kept [] w W' := h.trans k fun x hx => Or.inr (by rw [List.mem_singleton.1 hx]; exact hb)
theorem meth_blob_fault (n : Nat) (v : Value) (W : World) : (method (n + 1) 88 v "satchel/object.fault").run Tryz.prog W = .ok (115, v) W := by kernel_rfl
theorem meth_blob_write (n : Nat) (v : Value) (W : World) : (method (n + 1) 88 v "satchel/object.write").run Tryz.prog W = .ok (116, v) W := by kernel_rfl
theorem meth_blob_children (n : Nat) (v : Value) (W : World) : (method (n + 1) 88 v "satchel/object.children").run Tryz.prog W = .ok (114, v) W := by kernel_rfl
theorem meth_tree_fault (n : Nat) (v : Value) (W : World) : (method (n + 1) 89 v "satchel/object.fault").run Tryz.prog W = .ok (121, v) W := by kernel_rfl
theorem meth_tree_write (n : Nat) (v : Value) (W : World) : (method (n + 1) 89 v "satchel/object.write").run Tryz.prog W = .ok (122, v) W := by kernel_rfl
theorem meth_tree_children (n : Nat) (v : Value) (W : World) : (method (n + 1) 89 v "satchel/object.children").run Tryz.prog W = .ok (120, v) W := by kernel_rfl
theorem meth_commit_fault (n : Nat) (v : Value) (W : World) : (method (n + 1) 90 v "satchel/object.fault").run Tryz.prog W = .ok (128, v) W := by kernel_rfl
theorem meth_commit_write (n : Nat) (v : Value) (W : World) : (method (n + 1) 90 v "satchel/object.write").run Tryz.prog W = .ok (129, v) W := by kernel_rfl
theorem meth_commit_children (n : Nat) (v : Value) (W : World) : (method (n + 1) 90 v "satchel/object.children").run Tryz.prog W = .ok (127, v) W := by kernel_rfl
theorem meth_tag_fault (n : Nat) (v : Value) (W : World) : (method (n + 1) 91 v "satchel/object.fault").run Tryz.prog W = .ok (135, v) W := by kernel_rfl
theorem meth_tag_write (n : Nat) (v : Value) (W : World) : (method (n + 1) 91 v "satchel/object.write").run Tryz.prog W = .ok (136, v) W := by kernel_rfl
theorem meth_tag_children (n : Nat) (v : Value) (W : World) : (method (n + 1) 91 v "satchel/object.children").run Tryz.prog W = .ok (134, v) W := by kernel_rfl
/-- What Encode answers, of a content with this fault and these bytes. -/
def EncP (w : World) (fv : Int) (enc : List Int) (e : Ending) (w' : World) : Prop :=
  Kept [] w w' ∧ (fv ≠ 0 → e = .returned (.tuple #[.slice none 0 0, .int .i64 fv])) ∧ (fv = 0 → 65536 < enc.length → e = .returned (.tuple #[.slice none 0 0, .int .i64 31])) ∧
    (fv = 0 → enc.length ≤ 65536 → ∃ b, e = .returned (.tuple #[.slice (some ⟨b, 0, none⟩) enc.length enc.length, .int .i64 0]) ∧ w'.heap[b]? = some (.cells (enc.map (Value.int .u8)).toArray 5 (0, 0)) ∧ w.heap.size ≤ b)
end Go.Proofs.YtfcoeinhfdbcgaaGreatDoor

namespace Go.Proofs.YtfcoeinhfdbcgaaGreatDoor
open Go.RowKit

set_option maxRecDepth 100000 in
set_option maxHeartbeats 2000000 in
theorem encodeBlob (o : ObjL) (w : World) (hk : o.kind = 1) (hc : o.com.tree.length = 32) (ht : o.tag.target.length = 32) (fv : Int) (enc : List Int) (hen : enc.length ≤ 100000000)
    (hF : ∀ W, Kept [] w W → Calls Tryz.prog 115 #[o.bv] W fun e w' => e = .returned (.int .i64 fv) ∧ Kept [] W w')
    (hW : fv = 0 → ∀ W wb S, Kept [] w W → WAt W wb w.heap.size [] S → Calls Tryz.prog 116 #[o.bv, .pointer (some ⟨wb, 0, none⟩)] W fun e w' => e = .returned (.tuple #[]) ∧ Wrote W w' wb w.heap.size enc S) :
    Calls Tryz.prog 8 #[.agg o.row.toArray] w (EncP w fv enc) := by
  have hcon := fun W => contentOf_any o W (by omega) (by omega) hc ht
  have hcv : conV o = .iface 88 o.bv := by unfold conV; rw [if_pos hk]
  rw [hcv, if_pos (by rw [hk]; rfl)] at hcon
  have hsz : (Tryz.prog.info? 37).map (·.size) = some o.row.toArray.size := by
    rw [List.size_toArray, show o.row.length = 76 by unfold ObjL.row; rw [List.length_append, List.length_append, com_len' _ _ hc, show o.tag.row.length = 37 by simp [TagL.row, ht]]; rfl]
    kernel_rfl
  have HB : Hid ((w.alloc (.cells o.row.toArray 37)).heap[w.heap.size]? = some (.cells o.row.toArray 37 (0, 0))) := heap_alloc_new w _
  have hm1 := meth_blob_fault
  have hm2 := meth_blob_write
  have HF0 : Hid _ := hF
  have HW0 : Hid _ := hW
  clear hF hW hcv
  generalize o.row.toArray = orr at *
  generalize hvv : o.bv = vv at *
  clear hvv
  have HF : Hid (∀ W, Kept [] w W → Calls Tryz.prog 115 #[vv] W fun e w' => e = .returned (.int .i64 fv) ∧ Kept [] W w') := HF0
  clear HF0
  by_cases hf0 : fv = 0
  · subst hf0
    have HW : Hid (∀ W wb S, Kept [] w W → WAt W wb w.heap.size [] S → Calls Tryz.prog 116 #[vv, .pointer (some ⟨wb, 0, none⟩)] W fun e w' => e = .returned (.tuple #[]) ∧ Wrote W w' wb w.heap.size enc S) := HW0.out rfl
    clear HW0
    go_enter Tryz.func8, Tryz.ntmps8
    by_cases hl : 65536 < enc.length
    · have hd : decide (65536 < (enc.length : Int)) = true := decide_eq_true (by omega)
      go_wp2_with (first
        | (refine wpList_load_row (by rfl) 37 (.tmp 1) (by rfl) w.heap.size (by rfl) 37 orr (0, 0) _ HB.out Tryz.underlying37 rfl hsz ?_)
        | (go_at_call 25; refine (hcon _).mono ?_; rintro e w1 ⟨rfl, hk1⟩; have HK1 : Hid (Kept [] w w1) := ((Kept.refl [] w).alloc _).then hk1; clear hk1)
        | (go_at_call 115; refine (HF.out _ HK1.out).mono ?_; rintro e w2 ⟨rfl, hk2⟩; have HK2 : Hid (Kept [] w w2) := HK1.out.then hk2; clear hk2)
        | (go_at_call 26; refine (New_any _ w.heap.size HK2.out.size).mono ?_; rintro e w3 ⟨rfl, hw3, hk3⟩
           have HK3 : Hid (Kept [] w w3) := HK2.out.then hk3
           have HW3 : Hid (WAt w3 w2.heap.size w.heap.size [] [w2.heap.size]) := hw3
           have hs2 := HK2.out.size
           clear hw3 hk3)
        | (go_at_call 116; refine (HW.out _ _ _ HK3.out HW3.out).mono ?_; rintro e w4 ⟨rfl, hw4⟩
           obtain ⟨S4, hat4, hk4, _⟩ := hw4
           have HK4 : Hid (Kept [] w w4) := kept_new HK3.out hk4 hs2
           have HL4 : Hid (Calls Tryz.prog 27 #[.pointer (some ⟨w2.heap.size, 0, none⟩)] w4 fun e w' => e = .returned (.int .i64 enc.length) ∧ w' = w4) := WLen_any hat4
           have HO4 : Hid (Calls Tryz.prog 28 #[.pointer (some ⟨w2.heap.size, 0, none⟩)] w4 fun e w' => e = .returned (.slice (some ⟨w4.heap.size, 0, none⟩) enc.length enc.length) ∧ w'.heap[w4.heap.size]? = some (.cells (enc.map (Value.int .u8)).toArray 5 (0, 0)) ∧ Kept [] w4 w') := WOut_any hat4 (by omega)
           clear hat4 hk4)
        | (go_at_call 27; refine (HL4.out).mono ?_; rintro e w6 ⟨rfl, hw6⟩; subst w6))
      refine bodyPost_ret (v := .tuple #[.slice none 0 0, .int .i64 31]) (by simp [results, Tryz.results8, go_sem]) rfl ⟨HK4.out, fun h => absurd rfl h, fun _ _ => rfl, fun _ h => absurd h (by omega)⟩
    · have hd : decide (65536 < (enc.length : Int)) = false := decide_eq_false (by omega)
      go_wp2_with (first
        | (refine wpList_load_row (by rfl) 37 (.tmp 1) (by rfl) w.heap.size (by rfl) 37 orr (0, 0) _ HB.out Tryz.underlying37 rfl hsz ?_)
        | (go_at_call 25; refine (hcon _).mono ?_; rintro e w1 ⟨rfl, hk1⟩; have HK1 : Hid (Kept [] w w1) := ((Kept.refl [] w).alloc _).then hk1; clear hk1)
        | (go_at_call 115; refine (HF.out _ HK1.out).mono ?_; rintro e w2 ⟨rfl, hk2⟩; have HK2 : Hid (Kept [] w w2) := HK1.out.then hk2; clear hk2)
        | (go_at_call 26; refine (New_any _ w.heap.size HK2.out.size).mono ?_; rintro e w3 ⟨rfl, hw3, hk3⟩
           have HK3 : Hid (Kept [] w w3) := HK2.out.then hk3
           have HW3 : Hid (WAt w3 w2.heap.size w.heap.size [] [w2.heap.size]) := hw3
           have hs2 := HK2.out.size
           clear hw3 hk3)
        | (go_at_call 116; refine (HW.out _ _ _ HK3.out HW3.out).mono ?_; rintro e w4 ⟨rfl, hw4⟩
           obtain ⟨S4, hat4, hk4, _⟩ := hw4
           have HK4 : Hid (Kept [] w w4) := kept_new HK3.out hk4 hs2
           have HL4 : Hid (Calls Tryz.prog 27 #[.pointer (some ⟨w2.heap.size, 0, none⟩)] w4 fun e w' => e = .returned (.int .i64 enc.length) ∧ w' = w4) := WLen_any hat4
           have HO4 : Hid (Calls Tryz.prog 28 #[.pointer (some ⟨w2.heap.size, 0, none⟩)] w4 fun e w' => e = .returned (.slice (some ⟨w4.heap.size, 0, none⟩) enc.length enc.length) ∧ w'.heap[w4.heap.size]? = some (.cells (enc.map (Value.int .u8)).toArray 5 (0, 0)) ∧ Kept [] w4 w') := WOut_any hat4 (by omega)
           clear hat4 hk4)
        | (go_at_call 27; refine (HL4.out).mono ?_; rintro e w6 ⟨rfl, hw6⟩; subst w6)
        | (go_at_call 28; refine (HO4.out).mono ?_; rintro e w5 ⟨rfl, hb5, hk5⟩
           have HK5 : Hid (Kept [] w w5) := HK4.out.then hk5
           have HB5 : Hid _ := hb5
           have hs4 := HK4.out.size
           clear hb5 hk5))
      refine bodyPost_ret (v := .tuple #[.slice (some ⟨w4.heap.size, 0, none⟩) enc.length enc.length, .int .i64 0]) (by simp [results, Tryz.results8, go_sem]) rfl ⟨HK5.out, fun h => absurd rfl h, fun _ h => absurd h hl, fun _ _ => ⟨_, rfl, HB5.out, hs4⟩⟩
  · have hne : (fv != 0) = true := bne_iff_ne.2 hf0
    clear HW0
    go_enter Tryz.func8, Tryz.ntmps8
    go_wp2_with (first
      | (refine wpList_load_row (by rfl) 37 (.tmp 1) (by rfl) w.heap.size (by rfl) 37 orr (0, 0) _ HB.out Tryz.underlying37 rfl hsz ?_)
      | (go_at_call 25; refine (hcon _).mono ?_; rintro e w1 ⟨rfl, hk1⟩; have HK1 : Hid (Kept [] w w1) := ((Kept.refl [] w).alloc _).then hk1; clear hk1)
      | (go_at_call 115; refine (HF.out _ HK1.out).mono ?_; rintro e w2 ⟨rfl, hk2⟩; have HK2 : Hid (Kept [] w w2) := HK1.out.then hk2; clear hk2))
    refine bodyPost_ret (v := .tuple #[.slice none 0 0, .int .i64 fv]) (by simp [results, Tryz.results8, go_sem]) rfl ⟨HK2.out, fun _ => rfl, fun h => absurd h hf0, fun h => absurd h hf0⟩
end Go.Proofs.YtfcoeinhfdbcgaaGreatDoor
