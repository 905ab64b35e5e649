/-
  OBJECTS AND ASKS OPENED: what a reading of them says of memory.
-/
import Derived.Test.YtmjakhmkddgffaaGreatDoorEqA
import Derived.Test.YtmjakhmkddgffaaGreatDoorRead0
namespace Go.Proofs.YtmjakhmkddgffaaGreatDoor
open Go.ChangeShapes Go.WideShapes Go.ChangeAt Go.RowKit Go.Deep

/-- Its lists fit into memory once more. -/
structure ObjL.Fits (o : ObjL) : Prop where
  es : o.es.length * 56 ≤ 140737488351232
  ps : o.com.parents.length * 32 ≤ 140737488351232

/-- An Ask, whole. -/
structure AskL where
  doo : Int
  o : ObjL
  bv : Value
  bs : List Int
  name : List Int
def AskL.row (a : AskL) : List Value := [.int .i64 a.doo] ++ (a.o.row ++ ([a.bv] ++ [.string (strOfNums a.name)]))
structure AskL.Good (w : World) (a : AskL) : Prop where
  lo : -9223372036854775808 ≤ a.doo
  hi : a.doo ≤ 9223372036854775807
  o : ObjL.Good w a.o
  fits : a.o.Fits
  bv : BytesAt w a.bv a.bs
  bs : GoodText a.bs
  name : GoodText a.name
/-- The slice of the asks lies so. -/
def AsksL (w : World) (v : Value) (aks : List AskL) : Prop :=
  ∃ ao cap, v = .slice ao aks.length cap ∧ aks.length ≤ 140737488351232 ∧
    (aks ≠ [] → ∃ b off, ao = some ⟨b, off, none⟩ ∧ ∀ (i : Nat) (a : AskL), aks[i]? = some a → w.rangeAt b (off + i * 79) a.row)
theorem AsksL.kept {w w' : World} {v : Value} {aks : List AskL} (h : AsksL w v aks) (k : Kept [] w w') : AsksL w' v aks := by
  obtain ⟨ao, cap, rfl, hl, hc⟩ := h
  refine ⟨ao, cap, rfl, hl, fun hne => ?_⟩
  obtain ⟨b, off, rfl, hh⟩ := hc hne
  exact ⟨b, off, rfl, fun i a ha => range_kept (hh i a ha) k (by simp)⟩
theorem ObjL.Good.kept {w w' : World} {o : ObjL} (h : ObjL.Good w o) (k : Kept [] w w') : ObjL.Good w' o :=
  ⟨h.lo, h.hi, h.bv.keep k (fun _ _ _ => by simp), h.blob, h.ev.keep k (fun _ _ _ => by simp), h.es, h.pv.keep k (fun _ _ _ => by simp), h.com, h.tag⟩
theorem AskL.Good.kept {w w' : World} {a : AskL} (h : AskL.Good w a) (k : Kept [] w w') : AskL.Good w' a :=
  ⟨h.lo, h.hi, h.o.kept k, h.fits, h.bv.keep k (fun _ _ _ => by simp), h.bs, h.name⟩
theorem objL_len {o : ObjL} (hc : o.com.tree.length = 32) (ht : o.tag.target.length = 32) : o.row.length = 76 := by
  unfold ObjL.row
  rw [List.length_append, List.length_append, com_len' _ _ hc, show o.tag.row.length = 37 by simp [TagL.row, ht]]
  rfl
theorem ask_len {a : AskL} (hc : a.o.com.tree.length = 32) (ht : a.o.tag.target.length = 32) : a.row.length = 79 := by
  unfold AskL.row
  rw [List.length_append, List.length_append, objL_len hc ht]
  rfl
theorem AskL.Good.len {w : World} {a : AskL} (h : AskL.Good w a) : a.row.length = 79 := ask_len h.o.com.tree.1 h.o.tag.target.1

theorem Tryz.cells_id : Tryz.prog.cellsOf 29 = 32 := by kernel_rfl
theorem Tryz.cells_idl : Tryz.prog.cellsOf 30 = 1 := by kernel_rfl
theorem Tryz.bytes_id : Tryz.prog.bytesOf 29 = 32 := by kernel_rfl
theorem Tryz.cells_ent : Tryz.prog.cellsOf 80 = 34 := by kernel_rfl
theorem Tryz.cells_entl : Tryz.prog.cellsOf 27 = 1 := by kernel_rfl
theorem Tryz.bytes_ent : Tryz.prog.bytesOf 80 = 56 := by kernel_rfl
theorem Tryz.cells_com : Tryz.prog.cellsOf 33 = 36 := by kernel_rfl
theorem Tryz.cells_tag : Tryz.prog.cellsOf 35 = 37 := by kernel_rfl
theorem Tryz.cells_obj : Tryz.prog.cellsOf 37 = 76 := by kernel_rfl
theorem Tryz.cells_u64 : Tryz.prog.cellsOf 31 = 1 := by kernel_rfl
theorem Tryz.cells_ask : Tryz.prog.cellsOf 39 = 79 := by kernel_rfl
theorem Tryz.bytes_ask : Tryz.prog.bytesOf 39 = 296 := by kernel_rfl
theorem Tryz.cells_asks : Tryz.prog.cellsOf 24 = 1 := by kernel_rfl
theorem Tryz.cells_askl : Tryz.prog.cellsOf 22 = 1 := by kernel_rfl
theorem Tryz.cells_str : Tryz.prog.cellsOf 9 = 1 := by kernel_rfl

theorem cut3 {α : Type} (cs : List α) (a b c : Nat) (h : cs.length = a + b + c) : cs = cs.take a ++ ((cs.drop a).take b ++ (cs.drop (a + b)).take c) := by
  have h1 := (List.take_append_drop a cs).symm
  have h2 := drop_cut cs a b
  have h3 := drop_cut cs (a + b) c
  rw [List.drop_eq_nil_of_le (show cs.length ≤ a + b + c by omega), List.append_nil] at h3
  rw [← h3, ← h2]
  exact h1
theorem cut4 {α : Type} (cs : List α) (a b c d : Nat) (h : cs.length = a + b + c + d) : cs = cs.take a ++ ((cs.drop a).take b ++ ((cs.drop (a + b)).take c ++ (cs.drop (a + b + c)).take d)) := by
  have h2 := drop_cut cs (a + b) c
  have h3 := drop_cut cs (a + b + c) d
  rw [List.drop_eq_nil_of_le (show cs.length ≤ a + b + c + d by omega), List.append_nil] at h3
  rw [← h3, ← h2, ← drop_cut cs a b]
  exact (List.take_append_drop a cs).symm
theorem cut5 {α : Type} (cs : List α) (a b c d e : Nat) (h : cs.length = a + b + c + d + e) : cs = cs.take a ++ ((cs.drop a).take b ++ ((cs.drop (a + b)).take c ++ ((cs.drop (a + b + c)).take d ++ (cs.drop (a + b + c + d)).take e))) := by
  have h3 := drop_cut cs (a + b + c + d) e
  rw [List.drop_eq_nil_of_le (show cs.length ≤ a + b + c + d + e by omega), List.append_nil] at h3
  rw [← h3, ← drop_cut cs (a + b + c) d, ← drop_cut cs (a + b) c, ← drop_cut cs a b]
  exact (List.take_append_drop a cs).symm
theorem cut6 {α : Type} (cs : List α) (a b c d e f : Nat) (h : cs.length = a + b + c + d + e + f) : cs = cs.take a ++ ((cs.drop a).take b ++ ((cs.drop (a + b)).take c ++ ((cs.drop (a + b + c)).take d ++ ((cs.drop (a + b + c + d)).take e ++ (cs.drop (a + b + c + d + e)).take f)))) := by
  have h3 := drop_cut cs (a + b + c + d + e) f
  rw [List.drop_eq_nil_of_le (show cs.length ≤ a + b + c + d + e + f by omega), List.append_nil] at h3
  rw [← h3, ← drop_cut cs (a + b + c + d) e, ← drop_cut cs (a + b + c) d, ← drop_cut cs (a + b) c, ← drop_cut cs a b]
  exact (List.take_append_drop a cs).symm

section
variable {H : Type} {enc : TypeId × Value → H} {w : World} {base : Nat} {spare : Nat → Bool} {held : Bool} {fuel : Nat} {cs : List Value} {x : DataW H × List MemPlace}

theorem u8_wf {n : Int} (h : (Lit.int .u8 n).wf = true) : 0 ≤ n ∧ n ≤ 255 := by
  have e1 : IntKind.u8.min = 0 := rfl
  have e2 : IntKind.u8.max = 255 := rfl
  simp only [Lit.wf, Bool.and_eq_true, decide_eq_true_eq, e1, e2] at h
  omega
/-- An id, opened. -/
theorem open_id (h : DataW.trod enc Tryz.prog w base spare held fuel 29 cs = some x) : ∃ bs : List Int, cs = bs.map (Value.int .u8) ∧ GoodID bs := by
  obtain ⟨xs, m, rfl, rfl, hlen, hxs, hel⟩ := DataW.trod_array Tryz.underlying29 h
  rw [Tryz.cells_id] at hlen
  have hop : ∀ i, i < 32 → ∃ a : Int, cs[i]? = some (.int .u8 a) ∧ 0 ≤ a ∧ a ≤ 255 := by
    intro i hi
    have h1 := hel i hi
    rw [Tryz.cells_u8, Nat.mul_one, List.getElem?_eq_getElem (show i < xs.length by omega)] at h1
    obtain ⟨a, e, _, hw⟩ := DataW.trod_int Tryz.underlying5 h1
    refine ⟨a, ?_, u8_wf hw⟩
    rw [List.drop_eq_getElem_cons (show i < cs.length by omega)] at e
    simp only [List.take_succ_cons, List.take_zero, List.cons.injEq, and_true] at e
    rw [List.getElem?_eq_getElem (show i < cs.length by omega), e]
  obtain ⟨A, hA⟩ := choose_lt hop
  refine ⟨(List.range 32).map A, ?_, by simp, ?_⟩
  · refine List.ext_getElem? fun i => ?_
    by_cases hi : i < 32
    · rw [(hA i hi).1]
      simp [hi]
    · rw [List.getElem?_eq_none (by omega), List.getElem?_eq_none (by simp; omega)]
  · intro u hu
    simp only [List.mem_map, List.mem_range] at hu
    obtain ⟨i, hi, rfl⟩ := hu
    have := (hA i hi).2
    omega
theorem open_str (h : DataW.trod enc Tryz.prog w base spare held fuel 9 cs = some x) : ∃ xs : List Int, cs = [.string (strOfNums xs)] ∧ Octs xs ∧ ∀ B, (DataW.weights Tryz.prog 9 x.1).all (· ≤ B) = true → xs.length ≤ B := by
  obtain ⟨s, e, rfl, _⟩ := DataW.trod_string Tryz.underlying9 h
  refine ⟨numsOf s, by rw [nums_str]; exact e, nums_octs s, fun B hB => ?_⟩
  simp only [DataW.weights] at hB
  simpa [numsOf] using hB
theorem open_int (h : DataW.trod enc Tryz.prog w base spare held fuel 3 cs = some x) : ∃ n : Int, cs = [.int .i64 n] ∧ -9223372036854775808 ≤ n ∧ n ≤ 9223372036854775807 := by
  obtain ⟨n, e, _, hw⟩ := DataW.trod_int Tryz.underlying3 h
  exact ⟨n, e, i64_wf hw⟩
theorem open_u64 (h : DataW.trod enc Tryz.prog w base spare held fuel 31 cs = some x) : ∃ n : Int, cs = [.int .u64 n] ∧ 0 ≤ n ∧ n ≤ 18446744073709551615 := by
  obtain ⟨n, e, _, hw⟩ := DataW.trod_int Tryz.underlying31 h
  exact ⟨n, e, u64_wf hw⟩

theorem open_ent (h : DataW.trod enc Tryz.prog w base spare held fuel 80 cs = some x) : ∃ e : EntL, cs = e.row ∧ ((DataW.weights Tryz.prog 80 x.1).all (· ≤ 140737488351232) = true → e.Good) := by
  obtain ⟨zs, n, rfl, rfl, hlen, hxs, hfl⟩ := DataW.trod_struct Tryz.underlying80 h
  rw [Tryz.cells_ent] at hlen
  have f0 := hfl 0 _ rfl
  have f1 := hfl 1 _ rfl
  have f2 := hfl 2 _ rfl
  match zs, hxs with
  | [y0, y1, y2], _ =>
    simp [Tryz.cells_str, Tryz.cells_int, Tryz.cells_id] at f0 f1 f2
    obtain ⟨a0, e0, w0, w1⟩ := open_int f0
    obtain ⟨s, e1, o1, k1⟩ := open_str f1
    obtain ⟨id, e2, hgi⟩ := open_id f2
    have c : cs = cs.take 1 ++ ((cs.drop 1).take 1 ++ (cs.drop 2).take 32) := cut3 cs 1 1 32 hlen
    rw [List.drop_one] at c
    rw [e0, e1, e2] at c
    refine ⟨⟨a0, s, id⟩, c, fun hB => ⟨w0, w1, ⟨o1, ?_⟩, hgi⟩⟩
    simp only [DataW.weights, Tryz.underlying80, DataW.weightsEach, List.map_cons, List.map_nil, List.append_nil, List.all_append, Bool.and_eq_true] at hB
    exact k1 _ hB.2.1
instance : Inhabited EntL := ⟨⟨0, [], []⟩⟩
instance : Inhabited ComL := ⟨⟨[], [], [], 0, []⟩⟩
instance : Inhabited TagL := ⟨⟨[], 0, [], [], 0, []⟩⟩
instance : Inhabited ObjL := ⟨⟨0, .slice none 0 0, [], .slice none 0 0, [], default, .slice none 0 0, default⟩⟩
instance : Inhabited AskL := ⟨⟨0, default, .slice none 0 0, [], []⟩⟩

theorem open_entl (h : DataW.trod enc Tryz.prog w base spare held fuel 27 cs = some x) : ∃ v es, cs = [v] ∧ ((DataW.weights Tryz.prog 27 x.1).all (· ≤ 140737488351232) = true → EntsAt w v es ∧ es.length * 56 ≤ 140737488351232 ∧ ∀ e, e ∈ es → e.Good) := by
  obtain ⟨ao, cap, ls, rfl, h1, h0, hc, hB⟩ := open_rowl EntL.row EntL.Good 140737488351232 Tryz.underlying27 Tryz.cells_ent (by decide) h (fun _ _ _ => open_ent)
  rw [Tryz.bytes_ent] at hB
  refine ⟨_, ls, rfl, fun hb => ⟨⟨ao, cap, by rw [List.length_map], by rw [List.length_map]; exact h1, h0, by rw [List.length_map]; have := (hB hb).1; omega, fun hne => ?_⟩, (hB hb).1, (hB hb).2⟩⟩
  obtain ⟨b, off, hao, hh⟩ := hc (by simpa using hne)
  refine ⟨b, off, hao, fun i r hr => ?_⟩
  rw [List.getElem?_map] at hr
  obtain ⟨e, he, rfl⟩ := Option.map_eq_some_iff.1 hr
  exact hh i e he
theorem open_idl (h : DataW.trod enc Tryz.prog w base spare held fuel 30 cs = some x) : ∃ v ids, cs = [v] ∧ ((DataW.weights Tryz.prog 30 x.1).all (· ≤ 140737488351232) = true → IdsAt w v ids ∧ ids.length * 32 ≤ 140737488351232 ∧ ∀ o, o ∈ ids → GoodID o) := by
  obtain ⟨ao, cap, ls, rfl, h1, h0, hc, hB⟩ := open_rowl (fun o : List Int => o.map (Value.int .u8)) GoodID 140737488351232 Tryz.underlying30 Tryz.cells_id (by decide) h (fun _ _ _ h => (open_id h).imp fun _ q => ⟨q.1, fun _ => q.2⟩)
  rw [Tryz.bytes_id] at hB
  exact ⟨_, ls, rfl, fun hb => ⟨⟨ao, cap, rfl, h1, h0, by have := (hB hb).1; omega, hc⟩, (hB hb).1, (hB hb).2⟩⟩

theorem open_com (h : DataW.trod enc Tryz.prog w base spare held fuel 33 cs = some x) : ∃ (c : ComL) (pv : Value), cs = c.row pv ∧ ((DataW.weights Tryz.prog 33 x.1).all (· ≤ 140737488351232) = true → IdsAt w pv c.parents ∧ c.parents.length * 32 ≤ 140737488351232 ∧ c.Good) := by
  obtain ⟨zs, n, rfl, rfl, hlen, hxs, hfl⟩ := DataW.trod_struct Tryz.underlying33 h
  rw [Tryz.cells_com] at hlen
  have f0 := hfl 0 _ rfl
  have f1 := hfl 1 _ rfl
  have f2 := hfl 2 _ rfl
  have f3 := hfl 3 _ rfl
  have f4 := hfl 4 _ rfl
  match zs, hxs with
  | [y0, y1, y2, y3, y4], _ =>
    simp [Tryz.cells_str, Tryz.cells_id, Tryz.cells_idl, Tryz.cells_u64] at f0 f1 f2 f3 f4
    obtain ⟨t, e0, hgt⟩ := open_id f0
    obtain ⟨pv, ids, e1, k1⟩ := open_idl f1
    obtain ⟨s2, e2, o2, k2⟩ := open_str f2
    obtain ⟨tm, e3, w0, w1⟩ := open_u64 f3
    obtain ⟨s4, e4, o4, k4⟩ := open_str f4
    have c : cs = cs.take 32 ++ ((cs.drop 32).take 1 ++ ((cs.drop 33).take 1 ++ ((cs.drop 34).take 1 ++ (cs.drop 35).take 1))) := cut5 cs 32 1 1 1 1 hlen
    rw [e0, e1, e2, e3, e4] at c
    refine ⟨⟨t, ids, s2, tm, s4⟩, pv, c, fun hB => ?_⟩
    simp only [DataW.weights, Tryz.underlying33, DataW.weightsEach, List.map_cons, List.map_nil, List.append_nil, List.all_append, Bool.and_eq_true] at hB
    obtain ⟨_, b1, b2, _, b4⟩ := hB
    exact ⟨(k1 b1).1, (k1 b1).2.1, hgt, (k1 b1).2.2, ⟨o2, k2 _ b2⟩, w0, w1, ⟨o4, k4 _ b4⟩⟩
theorem open_tag (h : DataW.trod enc Tryz.prog w base spare held fuel 35 cs = some x) : ∃ t : TagL, cs = t.row ∧ ((DataW.weights Tryz.prog 35 x.1).all (· ≤ 140737488351232) = true → t.Good) := by
  obtain ⟨zs, n, rfl, rfl, hlen, hxs, hfl⟩ := DataW.trod_struct Tryz.underlying35 h
  rw [Tryz.cells_tag] at hlen
  have f0 := hfl 0 _ rfl
  have f1 := hfl 1 _ rfl
  have f2 := hfl 2 _ rfl
  have f3 := hfl 3 _ rfl
  have f4 := hfl 4 _ rfl
  have f5 := hfl 5 _ rfl
  match zs, hxs with
  | [y0, y1, y2, y3, y4, y5], _ =>
    simp [Tryz.cells_str, Tryz.cells_int, Tryz.cells_id, Tryz.cells_u64] at f0 f1 f2 f3 f4 f5
    obtain ⟨t, e0, hgt⟩ := open_id f0
    obtain ⟨kd, e1, l1, l2⟩ := open_int f1
    obtain ⟨s2, e2, o2, k2⟩ := open_str f2
    obtain ⟨s3, e3, o3, k3⟩ := open_str f3
    obtain ⟨tm, e4, w0, w1⟩ := open_u64 f4
    obtain ⟨s5, e5, o5, k5⟩ := open_str f5
    have c : cs = cs.take 32 ++ ((cs.drop 32).take 1 ++ ((cs.drop 33).take 1 ++ ((cs.drop 34).take 1 ++ ((cs.drop 35).take 1 ++ (cs.drop 36).take 1)))) := cut6 cs 32 1 1 1 1 1 hlen
    rw [e0, e1, e2, e3, e4, e5] at c
    refine ⟨⟨t, kd, s2, s3, tm, s5⟩, c, fun hB => ?_⟩
    simp only [DataW.weights, Tryz.underlying35, DataW.weightsEach, List.map_cons, List.map_nil, List.append_nil, List.all_append, Bool.and_eq_true] at hB
    obtain ⟨_, _, b2, b3, _, b5⟩ := hB
    exact ⟨hgt, l1, l2, ⟨o2, k2 _ b2⟩, ⟨o3, k3 _ b3⟩, w0, w1, ⟨o5, k5 _ b5⟩⟩
theorem open_obj (h : DataW.trod enc Tryz.prog w base spare held fuel 37 cs = some x) : ∃ o : ObjL, cs = o.row ∧ ((DataW.weights Tryz.prog 37 x.1).all (· ≤ 140737488351232) = true → ObjL.Good w o ∧ o.Fits) := by
  obtain ⟨zs, n, rfl, rfl, hlen, hxs, hfl⟩ := DataW.trod_struct Tryz.underlying37 h
  rw [Tryz.cells_obj] at hlen
  have f0 := hfl 0 _ rfl
  have f1 := hfl 1 _ rfl
  have f2 := hfl 2 _ rfl
  have f3 := hfl 3 _ rfl
  have f4 := hfl 4 _ rfl
  match zs, hxs with
  | [y0, y1, y2, y3, y4], _ =>
    simp [Tryz.cells_int, Tryz.cells_bytes, Tryz.cells_entl, Tryz.cells_com, Tryz.cells_tag] at f0 f1 f2 f3 f4
    obtain ⟨kd, e0, l1, l2⟩ := open_int f0
    obtain ⟨ao, cap, bs, e1, hb1, o1, k1, _⟩ := open_bytes f1
    obtain ⟨ev, es, e2, k2⟩ := open_entl f2
    obtain ⟨co, pv, e3, k3⟩ := open_com f3
    obtain ⟨tg, e4, k4⟩ := open_tag f4
    have c : cs = cs.take 1 ++ ((cs.drop 1).take 1 ++ ((cs.drop 2).take 1 ++ ((cs.drop 3).take 36 ++ (cs.drop 39).take 37))) := cut5 cs 1 1 1 36 37 hlen
    rw [List.drop_one] at c
    rw [e0, e1, e2, e3, e4] at c
    refine ⟨⟨kd, .slice ao bs.length cap, bs, ev, es, co, pv, tg⟩, c, fun hB => ?_⟩
    simp only [DataW.weights, Tryz.underlying37, DataW.weightsEach, List.map_cons, List.map_nil, List.append_nil, List.all_append, Bool.and_eq_true] at hB
    obtain ⟨_, b1, b2, b3, b4⟩ := hB
    exact ⟨⟨l1, l2, hb1, ⟨o1, k1 _ b1⟩, (k2 b2).1, (k2 b2).2.2, (k3 b3).1, (k3 b3).2.2, k4 b4⟩, (k2 b2).2.1, (k3 b3).2.1⟩
theorem open_askL (h : DataW.trod enc Tryz.prog w base spare held fuel 39 cs = some x) : ∃ a : AskL, cs = a.row ∧ ((DataW.weights Tryz.prog 39 x.1).all (· ≤ 140737488351232) = true → AskL.Good w a) := by
  obtain ⟨zs, n, rfl, rfl, hlen, hxs, hfl⟩ := DataW.trod_struct Tryz.underlying39 h
  rw [Tryz.cells_ask] at hlen
  have f0 := hfl 0 _ rfl
  have f1 := hfl 1 _ rfl
  have f2 := hfl 2 _ rfl
  have f3 := hfl 3 _ rfl
  match zs, hxs with
  | [y0, y1, y2, y3], _ =>
    simp [Tryz.cells_int, Tryz.cells_bytes, Tryz.cells_obj, Tryz.cells_str] at f0 f1 f2 f3
    obtain ⟨kd, e0, l1, l2⟩ := open_int f0
    obtain ⟨o, e1, k1⟩ := open_obj f1
    obtain ⟨ao, cap, bs, e2, hb2, o2, k2, _⟩ := open_bytes f2
    obtain ⟨s3, e3, o3, k3⟩ := open_str f3
    have c : cs = cs.take 1 ++ ((cs.drop 1).take 76 ++ ((cs.drop 77).take 1 ++ (cs.drop 78).take 1)) := cut4 cs 1 76 1 1 hlen
    rw [List.drop_one] at c
    rw [e0, e1, e2, e3] at c
    refine ⟨⟨kd, o, .slice ao bs.length cap, bs, s3⟩, c, fun hB => ?_⟩
    simp only [DataW.weights, Tryz.underlying39, DataW.weightsEach, List.map_cons, List.map_nil, List.append_nil, List.all_append, Bool.and_eq_true] at hB
    obtain ⟨_, b1, b2, b3⟩ := hB
    exact ⟨l1, l2, (k1 b1).1, (k1 b1).2, hb2, ⟨o2, k2 _ b2⟩, ⟨o3, k3 _ b3⟩⟩

set_option maxRecDepth 100000 in
/-- The asks, opened. -/
theorem open_asksL {r : Reach} {b0 : Nat} {v : Value} {d : DataW H} {p : List MemPlace} (hv : Value.okWide Tryz.prog w r b0 24 v) (h : DataW.Trod enc Tryz.prog w base spare held 24 v d p)
    (hB : (DataW.weights Tryz.prog 24 d).all (· ≤ 140737488351232) = true) :
    ∃ u aks, v = .agg #[u] ∧ AsksL w u aks ∧ (∀ a, a ∈ aks → AskL.Good w a) := by
  obtain ⟨vs, rfl, hsz⟩ := okWide_struct Tryz.underlying24 hv
  rw [Tryz.cells_asks] at hsz
  obtain ⟨fuel, hf0⟩ := h
  obtain ⟨zs, n, rfl, hx, hlen, hxs, hfl⟩ := DataW.trod_struct Tryz.underlying24 hf0
  simp only [Prod.mk.injEq] at hx
  obtain ⟨rfl, _⟩ := hx
  obtain ⟨l⟩ := vs
  match l, hsz with
  | [u], _ =>
    have hf := hfl 0 _ rfl
    match zs, hxs with
    | [y0], _ =>
      simp [Tryz.cells_askl, Value.cells] at hf
      simp only [DataW.weights, Tryz.underlying24, DataW.weightsEach, List.map_cons, List.map_nil, List.append_nil] at hB
      obtain ⟨ao, cap, ls, e, h1, h0, hc, hBB⟩ := open_rowl AskL.row (AskL.Good w) 140737488351232 Tryz.underlying22 Tryz.cells_ask (by decide) hf (fun _ _ _ => open_askL)
      simp only [List.cons.injEq, and_true] at e
      subst e
      rw [Tryz.bytes_ask] at hBB
      exact ⟨_, ls, rfl, ⟨ao, cap, rfl, by have := (hBB hB).1; omega, hc⟩, (hBB hB).2⟩
end
end Go.Proofs.YtmjakhmkddgffaaGreatDoor
