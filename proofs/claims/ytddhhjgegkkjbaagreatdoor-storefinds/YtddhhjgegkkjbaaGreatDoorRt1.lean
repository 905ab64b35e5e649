/-
  WALKS: object.objectOf of a commit, of a tag; object.Parse over what object.read answers.
  OBJECTS OPENED: what a reading of one says of memory.
  GUESS of satchelref3: the object on the way; WALK: satchelref3.guess of a tag.
  WALKS: satchelref3.guess of a tag, of a blob.
  WALK: satchelref3.guess of a commit.
  WALK: satchelref3.guess of a tree.
  PLAIN: what a tree, a tag are written as is read as just them.
  PLAIN: what a tag, a commit are written as is read as just them.
-/
import Derived.Test.YtddhhjgegkkjbaaGreatDoorReadC
import Derived.Test.YtddhhjgegkkjbaaGreatDoorReadG
import Derived.Test.YtddhhjgegkkjbaaGreatDoorHdS
import Derived.Test.YtddhhjgegkkjbaaGreatDoorCom3
import Derived.Deep.CutRange
import Derived.Test.YtddhhjgegkkjbaaGreatDoorAppK
import Derived.Test.YtddhhjgegkkjbaaGreatDoorEnt3
import Derived.Test.YtddhhjgegkkjbaaGreatDoorBack0
namespace Go.Proofs.YtddhhjgegkkjbaaGreatDoor
open Go.RowKit

def zeroO : ObjL := ⟨0, .slice none 0 0, [], .slice none 0 0, [], zeroC, .slice none 0 0, zeroG⟩
theorem Tryz.builtObj (parts : List (Nat × Value)) : Tryz.prog.built 61 parts = Instr.fill (fun i => (#[(0, 1), (1, 1), (2, 1), (3, 36), (39, 37)] : Array (Nat × Nat))[i]?) zeroO.row.toArray parts := by kernel_rfl
def comO (c : ComL) (pv : Value) : ObjL := { zeroO with kind := 3, com := c, pv := pv }
def tagO (t : TagL) : ObjL := { zeroO with kind := 4, tag := t }
theorem put0 (a b c x : Value) (R : List Value) : putL ([a, b, c] ++ R) 0 [x] = [x, b, c] ++ R := by simp [putL]
theorem put3 (a b c : Value) (Z G C : List Value) (h1 : Z.length = 36) (h2 : C.length = 36) : putL ([a, b, c] ++ (Z ++ G)) 3 C = [a, b, c] ++ (C ++ G) := by simp [putL, h1, h2]
theorem put39 (a b c : Value) (Z G T : List Value) (h1 : Z.length = 36) (h2 : T.length = 37) (h3 : G.length = 37) : putL ([a, b, c] ++ (Z ++ G)) 39 T = [a, b, c] ++ (Z ++ T) := by simp [putL, h1, h2, h3]
theorem built_comO (c : ComL) (pv : Value) (hl : c.tree.length = 32) : Tryz.prog.built 61 [(0, .int .i64 3), (3, .agg (c.row pv).toArray)] = some (comO c pv).row.toArray := by
  have hc := com_len' c pv hl
  rw [Tryz.builtObj, fill_step (fun i => (#[(0, 1), (1, 1), (2, 1), (3, 36), (39, 37)] : Array (Nat × Nat))[i]?) zeroO.row.toArray 0 (.int .i64 3) _ 0 1 rfl rfl (by decide)]
  have e1 : (Value.int .i64 3).cells.toList = [.int .i64 3] := rfl
  rw [e1, setL_put _ _ _ (by decide)]
  have e2 : putL zeroO.row 0 [.int .i64 3] = [.int .i64 3, .slice none 0 0, .slice none 0 0] ++ (zeroC.row (.slice none 0 0) ++ zeroG.row) := put0 _ _ _ _ _
  rw [e2, fill_step (fun i => (#[(0, 1), (1, 1), (2, 1), (3, 36), (39, 37)] : Array (Nat × Nat))[i]?) _ 3 (.agg (c.row pv).toArray) _ 3 36 rfl (by show (c.row pv).toArray.size = 36; rw [List.size_toArray, hc]) (by decide)]
  have e3 : (Value.agg (c.row pv).toArray).cells.toList = c.row pv := rfl
  rw [e3, setL_put _ _ _ (by rw [hc]; decide), put3 _ _ _ _ _ _ rfl hc, fill_nil]
  rfl
theorem built_tagO (t : TagL) (hl : t.target.length = 32) : Tryz.prog.built 61 [(0, .int .i64 4), (4, .agg t.row.toArray)] = some (tagO t).row.toArray := by
  have hc : t.row.length = 37 := by simp [TagL.row, hl]
  rw [Tryz.builtObj, fill_step (fun i => (#[(0, 1), (1, 1), (2, 1), (3, 36), (39, 37)] : Array (Nat × Nat))[i]?) zeroO.row.toArray 0 (.int .i64 4) _ 0 1 rfl rfl (by decide)]
  have e1 : (Value.int .i64 4).cells.toList = [.int .i64 4] := rfl
  rw [e1, setL_put _ _ _ (by decide)]
  have e2 : putL zeroO.row 0 [.int .i64 4] = [.int .i64 4, .slice none 0 0, .slice none 0 0] ++ (zeroC.row (.slice none 0 0) ++ zeroG.row) := put0 _ _ _ _ _
  rw [e2, fill_step (fun i => (#[(0, 1), (1, 1), (2, 1), (3, 36), (39, 37)] : Array (Nat × Nat))[i]?) _ 4 (.agg t.row.toArray) _ 39 37 rfl (by show t.row.toArray.size = 37; rw [List.size_toArray, hc]) (by decide)]
  have e3 : (Value.agg t.row.toArray).cells.toList = t.row := rfl
  rw [e3, setL_put _ _ _ (by rw [hc]; decide), put39 _ _ _ _ _ _ rfl hc rfl, fill_nil]
  rfl
theorem obj_len (o : ObjL) (hc : o.com.tree.length = 32) (ht : o.tag.target.length = 32) : o.row.toArray.size = 76 := by
  rw [List.size_toArray]
  unfold ObjL.row
  rw [List.length_append, List.length_append, com_len' _ _ hc, show o.tag.row.length = 37 by simp [TagL.row, ht]]
  rfl
end Go.Proofs.YtddhhjgegkkjbaaGreatDoor

namespace Go.Proofs.YtddhhjgegkkjbaaGreatDoor
open Go.ChangeShapes Go.WideShapes Go.ChangeAt Go.RowKit Go.Deep

/-- Its lists fit into memory once more. -/
structure ObjL.Fits (o : ObjL) : Prop where
  es : o.es.length * 56 ≤ 140737488351232
  ps : o.com.parents.length * 32 ≤ 140737488351232

theorem ObjL.Good.kept {w w' : World} {o : ObjL} (h : ObjL.Good w o) (k : Kept [] w w') : ObjL.Good w' o :=
  ⟨h.lo, h.hi, h.bv.keep k (fun _ _ _ => by simp), h.blob, h.ev.keep k (fun _ _ _ => by simp), h.es, h.pv.keep k (fun _ _ _ => by simp), h.com, h.tag⟩
theorem objL_len {o : ObjL} (hc : o.com.tree.length = 32) (ht : o.tag.target.length = 32) : o.row.length = 76 := by
  unfold ObjL.row
  rw [List.length_append, List.length_append, com_len' _ _ hc, show o.tag.row.length = 37 by simp [TagL.row, ht]]
  rfl
section
variable {H : Type} {enc : TypeId × Value → H} {w : World} {base : Nat} {spare : Nat → Bool} {held : Bool} {fuel : Nat} {cs : List Value} {x : DataW H × List MemPlace}

theorem open_int (h : DataW.trod enc Tryz.prog w base spare held fuel 3 cs = some x) : ∃ n : Int, cs = [.int .i64 n] ∧ -9223372036854775808 ≤ n ∧ n ≤ 9223372036854775807 := by
  obtain ⟨n, e, _, hw⟩ := DataW.trod_int Tryz.underlying3 h
  exact ⟨n, e, i64_wf hw⟩
instance : Inhabited EntL := ⟨⟨0, [], []⟩⟩
instance : Inhabited ComL := ⟨⟨[], [], [], 0, []⟩⟩
instance : Inhabited TagL := ⟨⟨[], 0, [], [], 0, []⟩⟩
instance : Inhabited ObjL := ⟨⟨0, .slice none 0 0, [], .slice none 0 0, [], default, .slice none 0 0, default⟩⟩

end
end Go.Proofs.YtddhhjgegkkjbaaGreatDoor

namespace Go.Proofs.YtddhhjgegkkjbaaGreatDoor
open Go.RowKit

section
variable {w W W1 : World} {ob : Nat} {v : Value} {xs : List Int} {p q : Nat} {o o' : ObjL}
end

def kindO (k : Int) : ObjL := { zeroO with kind := k }
end Go.Proofs.YtddhhjgegkkjbaaGreatDoor

namespace Go.Proofs.YtddhhjgegkkjbaaGreatDoor
open Go.RowKit

/-- The tag that bytes would be. -/
def gTag (xs : List Int) : TagL :=
  let p1 := plus xs 1 32
  let p2 := plus xs p1 1
  let p3 := txtE xs p2
  let p4 := txtE xs p3
  let p5 := plus xs p4 8
  ⟨takeX xs 1 32, xAt xs p1, txtG xs p2, txtG xs p3, be (takeX xs p4 8), txtG xs p5⟩
theorem tagL_one {t : TagL} : ∀ u, u ∈ t.row → u.oneCell' = true := fun u hu => by
  unfold TagL.row at hu
  simp only [List.mem_append, List.mem_cons, List.not_mem_nil, or_false] at hu
  rcases hu with hu | rfl | rfl | rfl | rfl | rfl
  · exact map_oneCell _ u hu
  · rfl
  · rfl
  · rfl
  · rfl
  · rfl
theorem comL_one {c : ComL} {pv : Value} (hp : pv.oneCell' = true) : ∀ u, u ∈ c.row pv → u.oneCell' = true := fun u hu => by
  unfold ComL.row at hu
  simp only [List.mem_append, List.mem_cons, List.not_mem_nil, or_false] at hu
  rcases hu with hu | rfl | rfl | rfl | rfl
  · exact map_oneCell _ u hu
  · exact hp
  · rfl
  · rfl
  · rfl
theorem objV_one {o : ObjL} (h1 : o.bv.oneCell' = true) (h2 : o.ev.oneCell' = true) (h3 : o.pv.oneCell' = true) : o.row.toArray.all (·.oneCell') = true := all_oneCell_toArray fun u hu => by
  unfold ObjL.row at hu
  simp only [List.mem_append, List.mem_cons, List.not_mem_nil, or_false] at hu
  rcases hu with (rfl | rfl | rfl) | hu | hu
  · rfl
  · exact h1
  · exact h2
  · exact comL_one h3 u hu
  · exact tagL_one u hu

end Go.Proofs.YtddhhjgegkkjbaaGreatDoor

namespace Go.Proofs.YtddhhjgegkkjbaaGreatDoor
open Go.RowKit

/-- So many ids at most, while bytes are left. -/
def gPars (xs : List Int) : Nat → Nat → List (List Int) × Nat
  | 0, p => ([], p)
  | n + 1, p => if p < xs.length then (takeX xs p 32 :: (gPars xs n (plus xs p 32)).1, (gPars xs n (plus xs p 32)).2) else ([], p)
theorem gPars_next (xs : List Int) (n p : Nat) (hn : 0 < n) (h : p < xs.length) : gPars xs n p = (takeX xs p 32 :: (gPars xs (n - 1) (plus xs p 32)).1, (gPars xs (n - 1) (plus xs p 32)).2) := by
  obtain ⟨m, rfl⟩ : ∃ m, n = m + 1 := ⟨n - 1, by omega⟩
  conv => lhs; unfold gPars
  rw [if_pos h, Nat.add_sub_cancel]
/-- The commit that bytes would be. -/
def gCom (xs : List Int) : ComL :=
  let p1 := plus xs 1 32
  let p2 := plus xs p1 (numG xs p1).2
  let r := gPars xs (numG xs p1).1.toNat p2
  let p4 := txtE xs r.2
  let p5 := plus xs p4 8
  ⟨takeX xs 1 32, r.1, txtG xs r.2, be (takeX xs p4 8), txtG xs p5⟩

end Go.Proofs.YtddhhjgegkkjbaaGreatDoor

namespace Go.Proofs.YtddhhjgegkkjbaaGreatDoor
open Go.RowKit

/-- One entry guessed, and the place behind it. -/
def gEnt (xs : List Int) (p : Nat) : EntL := ⟨xAt xs p, txtG xs (plus xs p 1), takeX xs (txtE xs (plus xs p 1)) 32⟩
def gEntE (xs : List Int) (p : Nat) : Nat := plus xs (txtE xs (plus xs p 1)) 32
/-- So many entries at most, while bytes are left. -/
def gEnts (xs : List Int) : Nat → Nat → List EntL × Nat
  | 0, p => ([], p)
  | n + 1, p => if p < xs.length then (gEnt xs p :: (gEnts xs n (gEntE xs p)).1, (gEnts xs n (gEntE xs p)).2) else ([], p)
theorem gEnts_next (xs : List Int) (n p : Nat) (hn : 0 < n) (h : p < xs.length) : gEnts xs n p = (gEnt xs p :: (gEnts xs (n - 1) (gEntE xs p)).1, (gEnts xs (n - 1) (gEntE xs p)).2) := by
  obtain ⟨m, rfl⟩ : ∃ m, n = m + 1 := ⟨n - 1, by omega⟩
  conv => lhs; unfold gEnts
  rw [if_pos h, Nat.add_sub_cancel]
theorem txtG_octs {xs : List Int} (h : Octs xs) (p : Nat) : Octs (txtG xs p) := fun u hu => h u (List.mem_of_mem_drop (List.mem_of_mem_take hu))
/-- The entries that bytes would be. -/
def gTree (xs : List Int) : List EntL := (gEnts xs (numG xs 1).1.toNat (plus xs 1 (numG xs 1).2)).1

end Go.Proofs.YtddhhjgegkkjbaaGreatDoor

namespace Go.Proofs.YtddhhjgegkkjbaaGreatDoor
open Go.RowKit

theorem drop_at {xs a b : List Int} {p : Nat} (h : xs.drop p = a ++ b) : xs.drop (p + a.length) = b := by
  rw [← List.drop_drop, h, List.drop_left]
theorem idOf_id {t : List Int} (h : t.length = 32) : idOf t = t := by
  unfold idOf
  rw [h, List.drop_eq_nil_of_le (by decide), List.append_nil]

/-- An entry that may be written. -/
structure EntL.Fit (e : EntL) : Prop where
  m0 : 0 ≤ e.mode
  m1 : e.mode ≤ 255
  name : e.name.length ≤ 255
  id : e.id.length = 32
theorem rdE_back (xs : List Int) (p : Nat) (e : EntL) (tl : List Int) (hf : e.Fit) (hd : xs.drop p = entB e ++ tl) : rdE xs p 0 = (e, p + (entB e).length, 0) := by
  have d0 : xs.drop p = fixedB e.mode 1 ++ (varB e.name.length ++ e.name ++ (e.id ++ tl)) := by rw [hd]; unfold entB; simp only [List.append_assoc]
  have t1 := back_fixed xs p 1 e.mode _ hf.m0 (by have := hf.m1; show e.mode < 256 ^ 1; omega) d0
  have d1 := drop_at d0
  rw [fixedB_len] at d1
  have t2 := back_bytes' xs (p + 1) e.name (e.id ++ tl) 255 (by have := hf.name; omega) (by have := hf.name; omega) d1
  have d2 := drop_at d1
  have t3 := back_raw xs _ e.id tl d2
  rw [hf.id] at t3
  have t1' : takeL xs p 0 0 1 0 = ⟨e.mode, [], p + 1, 0⟩ := t1
  have t3' : takeL xs (p + 1 + (varB e.name.length ++ e.name).length) 0 3 32 0 = ⟨0, e.id, p + 1 + (varB e.name.length ++ e.name).length + 32, 0⟩ := t3
  unfold rdE
  rw [t1']
  dsimp only
  rw [t2]
  dsimp only
  rw [t3']
  dsimp only
  rw [idOf_id hf.id]
  refine Prod.ext rfl (Prod.ext ?_ rfl)
  show p + 1 + (varB e.name.length ++ e.name).length + 32 = p + (entB e).length
  unfold entB
  simp only [List.length_append, fixedB_len, hf.id]
  omega
theorem rdEs_back (xs : List Int) (pl : Nat) (es : List EntL) (tl : List Int) (hf : ∀ e, e ∈ es → e.Fit) (hd : xs.drop pl = entsB es ++ tl) : ∀ k, k ≤ es.length → rdEs xs pl 0 k = (es.take k, pl + (entsB (es.take k)).length, 0) := by
  intro k
  induction k with
  | zero => intro _; simp [rdEs, entsB]
  | succ k ih =>
    intro hk
    have h := ih (by omega)
    obtain ⟨e, he⟩ : ∃ e, es[k]? = some e := ⟨_, List.getElem?_eq_getElem (by omega)⟩
    have hlt : k < es.length := by omega
    have hek : es[k] = e := (List.getElem?_eq_some_iff.1 he).2
    have hsp : entsB es = entsB (es.take k) ++ (entB e ++ entsB (es.drop (k + 1))) := by
      have e1 : es = es.take k ++ (e :: es.drop (k + 1)) := by rw [← hek, ← List.drop_eq_getElem_cons hlt, List.take_append_drop]
      unfold entsB
      conv => lhs; rw [e1]
      rw [List.flatMap_append, List.flatMap_cons]
    rw [hsp, List.append_assoc] at hd
    have hd2 := drop_at hd
    rw [List.append_assoc] at hd2
    have hr := rdE_back xs _ e _ (hf e (List.mem_of_getElem? he)) hd2
    unfold rdEs
    rw [h]
    dsimp only
    rw [hr, entsB_succ he, List.take_succ_eq_append_getElem hlt, hek, List.length_append, ← Nat.add_assoc]
/-- A tree's own encoding, read. -/
theorem tree_back (es : List EntL) (hn : es.length ≤ 1024) (hf : ∀ e, e ∈ es → e.Fit) : takeL (encT es) 0 0 0 1 0 = ⟨2, [], 1, 0⟩ ∧ takeL (encT es) 1 0 1 0 1024 = ⟨es.length, [], 1 + (varB es.length).length, 0⟩ ∧ rdEs (encT es) (1 + (varB es.length).length) 0 es.length = (es, (encT es).length, 0) := by
  have d0 : (encT es).drop 0 = fixedB 2 1 ++ (varB es.length ++ entsB es) := by rw [List.drop_zero]; unfold encT; rw [List.append_assoc]
  have t0 := back_fixed (encT es) 0 1 2 _ (by decide) (by decide) d0
  have d1 := drop_at d0
  rw [fixedB_len, Nat.zero_add] at d1
  have t1 := back_var' (encT es) 1 (es.length : Int) 1024 (entsB es) (by omega) (by omega) (by omega) d1
  have d2 := drop_at d1
  have t2 := rdEs_back (encT es) (1 + (varB es.length).length) es [] hf (by rw [d2, List.append_nil]) es.length (Nat.le_refl _)
  refine ⟨t0, t1, ?_⟩
  rw [t2, List.take_length]
  refine Prod.ext rfl (Prod.ext ?_ rfl)
  show 1 + (varB es.length).length + (entsB es).length = (encT es).length
  unfold encT
  simp only [List.length_append, fixedB_len]
end Go.Proofs.YtddhhjgegkkjbaaGreatDoor

namespace Go.Proofs.YtddhhjgegkkjbaaGreatDoor
open Go.RowKit

structure TagL.Fit (t : TagL) : Prop where
  target : t.target.length = 32
  k0 : 0 ≤ t.kind
  k1 : t.kind ≤ 255
  name : t.name.length ≤ 255
  who : t.who.length ≤ 255
  t0 : 0 ≤ t.time
  t1 : t.time ≤ 18446744073709551615
  text : t.text.length ≤ 4096
/-- A tag's own encoding, read. -/
theorem tag_back (t : TagL) (hf : t.Fit) : ∃ y1 y2 y3 y4 y5 y6 : Took, takeL (encG t) 0 0 0 1 0 = ⟨4, [], 1, 0⟩ ∧ y1 = takeL (encG t) 1 0 3 32 0 ∧ y2 = takeL (encG t) y1.pl y1.f 0 1 0 ∧ y3 = takeL (encG t) y2.pl y2.f 2 0 255 ∧ y4 = takeL (encG t) y3.pl y3.f 2 0 255 ∧
    y5 = takeL (encG t) y4.pl y4.f 0 8 0 ∧ y6 = takeL (encG t) y5.pl y5.f 2 0 4096 ∧ t = ⟨idOf y1.text, y2.n, y3.text, y4.text, y5.n, y6.text⟩ ∧ y6.f = 0 ∧ y6.pl = (encG t).length := by
  have d0 : (encG t).drop 0 = fixedB 4 1 ++ (t.target ++ (fixedB t.kind 1 ++ (varB t.name.length ++ t.name ++ (varB t.who.length ++ t.who ++ (fixedB t.time 8 ++ (varB t.text.length ++ t.text ++ [])))))) := by
    rw [List.drop_zero, List.append_nil]; unfold encG; simp only [List.append_assoc]
  have e0 := back_fixed (encG t) 0 1 4 _ (by decide) (by decide) d0
  have d1 := drop_at d0
  rw [fixedB_len, Nat.zero_add] at d1
  have e1 := back_raw (encG t) 1 t.target _ d1
  rw [hf.target] at e1
  have d2 := drop_at d1
  rw [hf.target] at d2
  have e2 := back_fixed (encG t) (1 + 32) 1 t.kind _ hf.k0 (by have := hf.k1; show t.kind < 256 ^ 1; omega) d2
  have d3 := drop_at d2
  rw [fixedB_len] at d3
  have e3 := back_bytes' (encG t) (1 + 32 + 1) t.name _ 255 (by have := hf.name; omega) (by have := hf.name; omega) d3
  have d4 := drop_at d3
  have e4 := back_bytes' (encG t) (1 + 32 + 1 + (varB t.name.length ++ t.name).length) t.who _ 255 (by have := hf.who; omega) (by have := hf.who; omega) d4
  have d5 := drop_at d4
  have e5 := back_fixed (encG t) (1 + 32 + 1 + (varB t.name.length ++ t.name).length + (varB t.who.length ++ t.who).length) 8 t.time _ hf.t0 (by have := hf.t1; show t.time < 256 ^ 8; omega) d5
  have d6 := drop_at d5
  rw [fixedB_len] at d6
  have e6 := back_bytes' (encG t) (1 + 32 + 1 + (varB t.name.length ++ t.name).length + (varB t.who.length ++ t.who).length + 8) t.text [] 4096 (by have := hf.text; omega) (by have := hf.text; omega) d6
  refine ⟨_, _, _, _, _, _, e0, e1.symm, e2.symm, e3.symm, e4.symm, e5.symm, e6.symm, ?_, rfl, ?_⟩
  · dsimp only
    rw [idOf_id hf.target]
  · dsimp only
    unfold encG
    simp only [List.length_append, fixedB_len, hf.target]
    omega

structure ComL.Fit (c : ComL) : Prop where
  tree : c.tree.length = 32
  parents : ∀ o, o ∈ c.parents → o.length = 32
  many : c.parents.length ≤ 8
  who : c.who.length ≤ 255
  t0 : 0 ≤ c.time
  t1 : c.time ≤ 18446744073709551615
  text : c.text.length ≤ 4096
theorem rdIs_back (xs : List Int) (pl : Nat) (ids : List (List Int)) (tl : List Int) (hf : ∀ o, o ∈ ids → o.length = 32) (hd : xs.drop pl = ids.flatten ++ tl) : ∀ k, k ≤ ids.length → rdIs xs pl 0 k = (ids.take k, pl + (ids.take k).flatten.length, 0) := by
  intro k
  induction k with
  | zero => intro _; simp [rdIs]
  | succ k ih =>
    intro hk
    have h := ih (by omega)
    obtain ⟨e, he⟩ : ∃ e, ids[k]? = some e := ⟨_, List.getElem?_eq_getElem (by omega)⟩
    have hlt : k < ids.length := by omega
    have hek : ids[k] = e := (List.getElem?_eq_some_iff.1 he).2
    have h32 := hf e (List.mem_of_getElem? he)
    have hsp : ids.flatten = (ids.take k).flatten ++ (e ++ (ids.drop (k + 1)).flatten) := by
      have e1 : ids = ids.take k ++ (e :: ids.drop (k + 1)) := by rw [← hek, ← List.drop_eq_getElem_cons hlt, List.take_append_drop]
      conv => lhs; rw [e1]
      rw [List.flatten_append, List.flatten_cons]
    rw [hsp, List.append_assoc] at hd
    have hd2 := drop_at hd
    rw [List.append_assoc] at hd2
    have hr := back_raw xs _ e _ hd2
    rw [h32] at hr
    have hr' : takeL xs (pl + (ids.take k).flatten.length) 0 3 32 0 = ⟨0, e, pl + (ids.take k).flatten.length + 32, 0⟩ := hr
    unfold rdIs
    rw [h]
    dsimp only
    rw [hr', List.take_succ_eq_append_getElem hlt, hek, List.flatten_append, List.length_append]
    dsimp only
    rw [idOf_id h32]
    refine Prod.ext rfl (Prod.ext ?_ rfl)
    simp [h32]
    omega
/-- A commit's own encoding, read. -/
theorem com_back (c : ComL) (hf : c.Fit) : ∃ y1 y2 y3 y4 y5 : Took, ∃ p : Nat, takeL (encC c) 0 0 0 1 0 = ⟨3, [], 1, 0⟩ ∧ y1 = takeL (encC c) 1 0 3 32 0 ∧ y2 = takeL (encC c) y1.pl y1.f 1 0 8 ∧ y2.n = (c.parents.length : Int) ∧ rdIs (encC c) y2.pl y2.f c.parents.length = (c.parents, p, 0) ∧
    y3 = takeL (encC c) p 0 2 0 255 ∧ y4 = takeL (encC c) y3.pl y3.f 0 8 0 ∧ y5 = takeL (encC c) y4.pl y4.f 2 0 4096 ∧ c = ⟨idOf y1.text, c.parents, y3.text, y4.n, y5.text⟩ ∧ y5.f = 0 ∧ y5.pl = (encC c).length := by
  have d0 : (encC c).drop 0 = fixedB 3 1 ++ (c.tree ++ (varB c.parents.length ++ (c.parents.flatten ++ (varB c.who.length ++ c.who ++ (fixedB c.time 8 ++ (varB c.text.length ++ c.text ++ [])))))) := by
    rw [List.drop_zero, List.append_nil]; unfold encC; simp only [List.append_assoc]
  have hm := hf.many
  have e0 := back_fixed (encC c) 0 1 3 _ (by decide) (by decide) d0
  have d1 := drop_at d0
  rw [fixedB_len, Nat.zero_add] at d1
  have e1 := back_raw (encC c) 1 c.tree _ d1
  rw [hf.tree] at e1
  have d2 := drop_at d1
  rw [hf.tree] at d2
  have e2 := back_var' (encC c) (1 + 32) (c.parents.length : Int) 8 _ (by omega) (by omega) (by omega) d2
  have d3 := drop_at d2
  have e3 := rdIs_back (encC c) (1 + 32 + (varB c.parents.length).length) c.parents _ hf.parents d3 c.parents.length (Nat.le_refl _)
  rw [List.take_length] at e3
  have d4 := drop_at d3
  have e4 := back_bytes' (encC c) (1 + 32 + (varB c.parents.length).length + c.parents.flatten.length) c.who _ 255 (by have := hf.who; omega) (by have := hf.who; omega) d4
  have d5 := drop_at d4
  have e5 := back_fixed (encC c) (1 + 32 + (varB c.parents.length).length + c.parents.flatten.length + (varB c.who.length ++ c.who).length) 8 c.time _ hf.t0 (by have := hf.t1; show c.time < 256 ^ 8; omega) d5
  have d6 := drop_at d5
  rw [fixedB_len] at d6
  have e6 := back_bytes' (encC c) (1 + 32 + (varB c.parents.length).length + c.parents.flatten.length + (varB c.who.length ++ c.who).length + 8) c.text [] 4096 (by have := hf.text; omega) (by have := hf.text; omega) d6
  refine ⟨_, _, _, _, _, _, e0, e1.symm, e2.symm, rfl, e3, e4.symm, e5.symm, e6.symm, ?_, rfl, ?_⟩
  · dsimp only
    rw [idOf_id hf.tree]
  · dsimp only
    unfold encC
    simp only [List.length_append, fixedB_len, hf.tree]
    omega
end Go.Proofs.YtddhhjgegkkjbaaGreatDoor
