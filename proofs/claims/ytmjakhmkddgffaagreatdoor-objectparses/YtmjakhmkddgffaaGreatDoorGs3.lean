/-
  GUESS of satchelref3: the object on the way; WALK: satchelref3.guess of a tag.
  WALKS: satchelref3.guess of a tag, of a blob.
-/
import Derived.Test.YtmjakhmkddgffaaGreatDoorEnt0
import Derived.Test.YtmjakhmkddgffaaGreatDoorPar0
import Derived.Test.YtmjakhmkddgffaaGreatDoorOxObj
import Derived.Deep.CutRange
import Derived.Test.YtmjakhmkddgffaaGreatDoorEqA
namespace Go.Proofs.YtmjakhmkddgffaaGreatDoor
open Go.RowKit

/-- guess between its steps: the answer's place, the Guess, the object. -/
structure Gu (w W : World) (ob : Nat) (v : Value) (xs : List Int) (p : Nat) (o : ObjL) : Prop where
  res : W.heap[w.heap.size]? = some (.cells Tryz.zeroCells37 37 (0, 0))
  gat : GAt W (w.heap.size + 1) v xs p
  blk : W.heap[ob]? = some (.cells o.row.toArray 37 (0, 0))
  kp : Kept [] w W
  lo : w.heap.size + 1 + 1 ≤ ob
  vb : xs ≠ [] → ∀ b, blkOf v = some b → b < w.heap.size
section
variable {w W W1 : World} {ob : Nat} {v : Value} {xs : List Int} {p q : Nat} {o o' : ObjL}
theorem Gu.next (h : Gu w W ob v xs p o) (k : Kept [w.heap.size + 1] W W1) (g : GAt W1 (w.heap.size + 1) v xs q) : Gu w W1 ob v xs q o :=
  ⟨k.heap h.res (by simp), g, k.heap h.blk (by have := h.lo; simp; omega), h.kp.trans k (fun x hx => Or.inr (by rw [List.mem_singleton.1 hx]; omega)), h.lo, h.vb⟩
theorem Gu.other (h : Gu w W ob v xs p o) (k : Kept [ob] W W1) (hr : W1.heap[ob]? = some (.cells o'.row.toArray 37 (0, 0))) : Gu w W1 ob v xs p o' := by
  have hlo := h.lo
  exact ⟨k.heap h.res (by simp; omega), h.gat.kept k (by simp; omega) (fun hne b hb e => by have := h.vb hne b hb; simp at e; omega), hr, h.kp.trans k (fun x hx => Or.inr (by rw [List.mem_singleton.1 hx]; omega)), hlo, h.vb⟩
theorem Gu.on (h : Gu w W ob v xs p o) (k : Kept [] W W1) : Gu w W1 ob v xs p o :=
  ⟨k.heap h.res (by simp), h.gat.kept k (by simp) (fun _ _ _ => by simp), k.heap h.blk (by simp), h.kp.then k, h.lo, h.vb⟩
theorem Gu.put (h : Gu w W ob v xs p o) {i : Nat} {c : Value} (hr : o.row.toArray.setIfInBounds i c = o'.row.toArray) : Gu w (W.setCell ⟨ob, i, none⟩ c) ob v xs p o' := by
  refine h.other (by rw [setCell_eq_setRow W _ i _ _ _ c h.blk]; exact ⟨rfl, rfl, rfl, by simp [World.setRow], fun j _ hn => setRow_other W _ j _ (fun e => hn (by simp [e]))⟩) ?_
  rw [setCell_eq_setRow W _ i _ _ _ c h.blk, setRow_heap W _ _ _ _ _ h.blk, hr]
theorem Gu.putRow (h : Gu w W ob v xs p o) {i : Nat} {cs : List Value} (hi : i + cs.length ≤ o.row.length) (hr : putL o.row i cs = o'.row) : Gu w (W.setCells ob i cs) ob v xs p o' := by
  refine h.other (Kept.setCells ob (Or.inl (by simp)) cs i W (Kept.refl _ _)) ?_
  rw [setCells_heap ob _ cs i W _ h.blk, setL_put _ _ _ hi, hr]
theorem Gu.cell (h : Gu w W ob v xs p o) {i : Nat} (hi : i < o.row.length) : (∃ c, W.cell? ⟨ob, i, none⟩ = some c) ∧ W.frozen? ⟨ob, i, none⟩ = false := by
  refine ⟨⟨o.row[i], ?_⟩, frozen_of_row W _ _ _ _ h.blk⟩
  rw [cell_of_row _ _ _ _ _ _ h.blk, List.getElem?_toArray, List.getElem?_eq_getElem hi]
theorem Gu.there (h : Gu w W ob v xs p o) {i n : Nat} (hi : i + n ≤ o.row.length) : W.there ob i n := fun j hj => by
  have hij : i + j < o.row.length := by omega
  refine ⟨?_, frozen_of_row W _ _ _ _ h.blk⟩
  rw [cell_of_row _ _ _ _ _ _ h.blk, List.getElem?_toArray, List.getElem?_eq_getElem hij]
  rfl
end

theorem set_tag (o : ObjL) (hc : o.com.tree.length = 32) (i : Nat) (c : Value) : o.row.toArray.setIfInBounds (39 + i) c = ([Value.int .i64 o.kind, o.bv, o.ev] ++ (o.com.row o.pv ++ o.tag.row.set i c)).toArray := by
  rw [List.setIfInBounds_toArray]
  unfold ObjL.row
  rw [List.set_append_right _ _ (by show 3 ≤ 39 + i; omega), show (39 + i - [Value.int .i64 o.kind, o.bv, o.ev].length) = 36 + i by show 39 + i - 3 = 36 + i; omega, List.set_append_right _ _ (by rw [com_len' _ _ hc]; omega), com_len' _ _ hc, Nat.add_sub_cancel_left]
theorem set_com (o : ObjL) (hc : o.com.tree.length = 32) (i : Nat) (hi : i < 36) (c : Value) : o.row.toArray.setIfInBounds (3 + i) c = ([Value.int .i64 o.kind, o.bv, o.ev] ++ ((o.com.row o.pv).set i c ++ o.tag.row)).toArray := by
  rw [List.setIfInBounds_toArray]
  unfold ObjL.row
  rw [List.set_append_right _ _ (by show 3 ≤ 3 + i; omega), show (3 + i - [Value.int .i64 o.kind, o.bv, o.ev].length) = i by show 3 + i - 3 = i; omega, List.set_append_left _ _ (by rw [com_len' _ _ hc]; exact hi)]
theorem set_tagL (t : TagL) (ht : t.target.length = 32) (i : Nat) (c : Value) : t.row.set (32 + i) c = t.target.map (Value.int .u8) ++ [Value.int .i64 t.kind, .string (strOfNums t.name), .string (strOfNums t.who), .int .u64 t.time, .string (strOfNums t.text)].set i c := by
  unfold TagL.row
  rw [List.set_append_right _ _ (by rw [List.length_map, ht]; omega), List.length_map, ht, Nat.add_sub_cancel_left]
theorem set_comL (t : ComL) (pv : Value) (ht : t.tree.length = 32) (i : Nat) (c : Value) : (t.row pv).set (32 + i) c = t.tree.map (Value.int .u8) ++ [pv, .string (strOfNums t.who), .int .u64 t.time, .string (strOfNums t.text)].set i c := by
  unfold ComL.row
  rw [List.set_append_right _ _ (by rw [List.length_map, ht]; omega), List.length_map, ht, Nat.add_sub_cancel_left]
theorem objL_target (o : ObjL) (x : List Int) (hc : o.com.tree.length = 32) (ht : o.tag.target.length = 32) (hx : x.length = 32) : putL o.row 39 (x.map (Value.int .u8)) = ({ o with tag := { o.tag with target := x } } : ObjL).row := by
  have e : o.row = ([Value.int .i64 o.kind, o.bv, o.ev] ++ o.com.row o.pv) ++ (o.tag.target.map (Value.int .u8) ++ [Value.int .i64 o.tag.kind, .string (strOfNums o.tag.name), .string (strOfNums o.tag.who), .int .u64 o.tag.time, .string (strOfNums o.tag.text)]) := by
    unfold ObjL.row TagL.row
    simp only [List.append_assoc]
  have h39 : ([Value.int .i64 o.kind, o.bv, o.ev] ++ o.com.row o.pv).length = 39 := by rw [List.length_append, com_len' _ _ hc]; rfl
  unfold putL
  rw [e, List.take_left' h39, List.length_map, hx]
  rw [show List.drop (39 + 32) (([Value.int .i64 o.kind, o.bv, o.ev] ++ o.com.row o.pv) ++ (o.tag.target.map (Value.int .u8) ++ [Value.int .i64 o.tag.kind, .string (strOfNums o.tag.name), .string (strOfNums o.tag.who), .int .u64 o.tag.time, .string (strOfNums o.tag.text)])) = [Value.int .i64 o.tag.kind, .string (strOfNums o.tag.name), .string (strOfNums o.tag.who), .int .u64 o.tag.time, .string (strOfNums o.tag.text)] by
    rw [← List.drop_drop, List.drop_left' h39, List.drop_left' (by rw [List.length_map, ht])]]
  unfold ObjL.row TagL.row
  simp only [List.append_assoc]
theorem objL_tree (o : ObjL) (x : List Int) (hc : o.com.tree.length = 32) (hx : x.length = 32) : putL o.row 3 (x.map (Value.int .u8)) = ({ o with com := { o.com with tree := x } } : ObjL).row := by
  have e : o.row = [Value.int .i64 o.kind, o.bv, o.ev] ++ (o.com.tree.map (Value.int .u8) ++ ([o.pv, .string (strOfNums o.com.who), .int .u64 o.com.time, .string (strOfNums o.com.text)] ++ o.tag.row)) := by
    unfold ObjL.row ComL.row
    simp only [List.append_assoc]
  unfold putL
  rw [e, List.take_left' (by rfl), List.length_map, hx]
  rw [show List.drop (3 + 32) ([Value.int .i64 o.kind, o.bv, o.ev] ++ (o.com.tree.map (Value.int .u8) ++ ([o.pv, .string (strOfNums o.com.who), .int .u64 o.com.time, .string (strOfNums o.com.text)] ++ o.tag.row))) = [o.pv, .string (strOfNums o.com.who), .int .u64 o.com.time, .string (strOfNums o.com.text)] ++ o.tag.row by
    rw [← List.drop_drop, List.drop_left' (by rfl), List.drop_left' (by rw [List.length_map, hc])]]
  unfold ObjL.row ComL.row
  simp only [List.append_assoc]
def kindO (k : Int) : ObjL := { zeroO with kind := k }
theorem built_kind (k : Int) : Tryz.prog.built 37 [(0, .int .i64 k)] = some (kindO k).row.toArray := by
  rw [Tryz.builtObj, fill_step (fun i => (#[(0, 1), (1, 1), (2, 1), (3, 36), (39, 37)] : Array (Nat × Nat))[i]?) zeroO.row.toArray 0 (.int .i64 k) _ 0 1 rfl rfl (by decide)]
  have e1 : (Value.int .i64 k).cells.toList = [.int .i64 k] := rfl
  rw [e1, setL_put _ _ _ (by show 0 + 1 ≤ zeroO.row.length; decide)]
  have e2 : putL zeroO.row 0 [.int .i64 k] = [.int .i64 k, .slice none 0 0, .slice none 0 0] ++ (zeroC.row (.slice none 0 0) ++ zeroG.row) := put0 _ _ _ _ _
  rw [e2, fill_nil]
  rfl
/-- The object as it is made first: the kind alone. -/
theorem Gu.start {w w1 : World} {v : Value} {xs : List Int} {p : Nat} {k : Int} (hv : BytesAt w v xs) (k0 : Kept [w.heap.size + 1] ((w.alloc (.cells Tryz.zeroCells37 37)).alloc (.cells #[v, .int .i64 0] 110)) w1) (g : GAt w1 (w.heap.size + 1) v xs p) :
    Gu w (w1.alloc (.cells (kindO k).row.toArray 37)) w1.heap.size v xs p (kindO k) := by
  have hk : Kept [] w1 (w1.alloc (.cells (kindO k).row.toArray 37)) := (Kept.refl _ _).alloc _
  have hr : ((w.alloc (.cells Tryz.zeroCells37 37)).alloc (.cells #[v, .int .i64 0] 110)).heap[w.heap.size]? = some (.cells Tryz.zeroCells37 37 (0, 0)) := (Below.heap_alloc _ _ _ (by rw [World.size_alloc]; omega)).trans (heap_alloc_new w _)
  have hsz : ((w.alloc (.cells Tryz.zeroCells37 37)).alloc (.cells #[v, .int .i64 0] 110)).heap.size = w.heap.size + 1 + 1 := by rw [World.size_alloc, World.size_alloc]
  have hk1 : Kept [] w w1 := (((Kept.refl [] w).alloc _).alloc _).trans k0 (fun x hx => Or.inr (by rw [List.mem_singleton.1 hx]; omega))
  refine ⟨hk.heap (k0.heap hr (by simp)) (by simp), g.kept hk (by simp) (fun _ _ _ => by simp), heap_alloc_new w1 _, hk1.then hk, by have := k0.size; omega, fun hne b hb => ?_⟩
  obtain ⟨ao, cap, rfl, _, _, hc⟩ := hv
  obtain ⟨b', off, rfl, hh⟩ := hc hne
  obtain rfl : b' = b := by simpa [blkOf] using hb
  obtain ⟨x, r, rfl⟩ : ∃ x r, xs = x :: r := by cases xs with | nil => exact absurd rfl hne | cons x r => exact ⟨x, r, rfl⟩
  exact World.block_lt_of_cell? w _ (hh 0 x rfl)
theorem GAt.start {w : World} {v : Value} {xs : List Int} (hv : BytesAt w v xs) (ho : Octs xs) (hl : xs.length ≤ 65536) :
    GAt ((w.alloc (.cells Tryz.zeroCells37 37)).alloc (.cells #[v, .int .i64 0] 110)) (w.heap.size + 1) v xs 0 := by
  have hk : Kept [] w ((w.alloc (.cells Tryz.zeroCells37 37)).alloc (.cells #[v, .int .i64 0] 110)) := ((Kept.refl _ _).alloc _).alloc _
  refine ⟨?_, hv.keep hk (fun _ _ _ => by simp), ho, Nat.zero_le _, hl, fun hne b hb => ?_⟩
  · have h := heap_alloc_new (w.alloc (.cells Tryz.zeroCells37 37)) (.cells #[v, .int .i64 0] 110)
    rw [World.size_alloc] at h
    exact h
  · obtain ⟨ao, cap, rfl, _, _, hc⟩ := hv
    obtain ⟨b', off, rfl, hh⟩ := hc hne
    obtain rfl : b' = b := by simpa [blkOf] using hb
    obtain ⟨x, r, rfl⟩ : ∃ x r, xs = x :: r := by cases xs with | nil => exact absurd rfl hne | cons x r => exact ⟨x, r, rfl⟩
    have := World.block_lt_of_cell? w _ (hh 0 x rfl)
    show b' ≠ w.heap.size + 1
    have h2 : b' < w.heap.size := this
    omega
end Go.Proofs.YtmjakhmkddgffaaGreatDoor

namespace Go.Proofs.YtmjakhmkddgffaaGreatDoor
open Go.RowKit

/-- The tag that bytes would be. -/
def gTag (xs : List Int) : TagL :=
  let p1 := plus xs 1 32
  let p2 := plus xs p1 1
  let p3 := txtE xs p2
  let p4 := txtE xs p3
  let p5 := plus xs p4 8
  ⟨takeX xs 1 32, xAt xs p1, txtG xs p2, txtG xs p3, be (takeX xs p4 8), txtG xs p5⟩
theorem tagL_one {t : TagL} : ∀ u, u ∈ t.row → u.oneCell' = true := fun u hu => by
  unfold TagL.row at hu
  simp only [List.mem_append, List.mem_cons, List.not_mem_nil, or_false] at hu
  rcases hu with hu | rfl | rfl | rfl | rfl | rfl
  · exact map_oneCell _ u hu
  · rfl
  · rfl
  · rfl
  · rfl
  · rfl
theorem comL_one {c : ComL} {pv : Value} (hp : pv.oneCell' = true) : ∀ u, u ∈ c.row pv → u.oneCell' = true := fun u hu => by
  unfold ComL.row at hu
  simp only [List.mem_append, List.mem_cons, List.not_mem_nil, or_false] at hu
  rcases hu with hu | rfl | rfl | rfl | rfl
  · exact map_oneCell _ u hu
  · exact hp
  · rfl
  · rfl
  · rfl
theorem objV_one {o : ObjL} (h1 : o.bv.oneCell' = true) (h2 : o.ev.oneCell' = true) (h3 : o.pv.oneCell' = true) : o.row.toArray.all (·.oneCell') = true := all_oneCell_toArray fun u hu => by
  unfold ObjL.row at hu
  simp only [List.mem_append, List.mem_cons, List.not_mem_nil, or_false] at hu
  rcases hu with (rfl | rfl | rfl) | hu | hu
  · rfl
  · exact h1
  · exact h2
  · exact comL_one h3 u hu
  · exact tagL_one u hu

set_option maxRecDepth 100000 in
set_option maxHeartbeats 4000000 in
theorem guessTag_any (v : Value) (xs : List Int) (w : World) (hv : BytesAt w v xs) (ho : Octs xs) (hl : xs.length ≤ 65536) (hk : xAt xs 0 = 4) (hne : xs ≠ []) :
    Calls Tryz.prog 39 #[v] w fun e w' => e = .returned (.agg ({ kindO 4 with tag := gTag xs } : ObjL).row.toArray) ∧ Kept [] w w' := by
  have hp1 : plus xs 0 1 = 1 := by unfold plus; have := List.length_pos_iff.2 hne; omega
  obtain ⟨ao, cap, rfl, hcap, hnil⟩ : ∃ ao cap, v = .slice ao xs.length cap ∧ xs.length ≤ cap ∧ (ao = none → cap = 0) := by obtain ⟨ao, cap, h1, h2, h3, _⟩ := hv; exact ⟨ao, cap, h1, h2, h3⟩
  have hg0 := GAt.start hv ho hl
  have h1 := one_any hg0
  rw [hk, hp1] at h1
  have hun := Tryz.underlying37
  have hkz : (kindO 4).row.toArray.size = 76 := by rw [List.size_toArray]; rfl
  have hks : (Tryz.prog.info? 37).map (·.size) = some (kindO 4).row.toArray.size := by rw [hkz]; kernel_rfl
  have hkzz : Tryz.zeroCells37.size = (kindO 4).row.toArray.size := by rw [hkz]; kernel_rfl
  have hk1 : (kindO 4).row.toArray.all (·.oneCell') = true := by kernel_rfl
  have hbl := built_kind 4
  have HST : Hid (∀ w1, Kept [w.heap.size + 1] ((w.alloc (.cells Tryz.zeroCells37 37)).alloc (.cells #[.slice ao xs.length cap, .int .i64 0] 110)) w1 → GAt w1 (w.heap.size + 1) (.slice ao xs.length cap) xs 1 → Gu w (w1.alloc (.cells (kindO 4).row.toArray 37)) w1.heap.size (.slice ao xs.length cap) xs 1 (kindO 4)) := fun w1 k0 g => Gu.start hv k0 g
  have HK : Hid (∃ X, X = (kindO 4).row.toArray) := ⟨_, rfl⟩
  generalize hkr : (kindO 4).row.toArray = kr at *
  have HKR : Hid ((kindO 4).row.toArray = kr) := hkr
  have c0 : kr[0]? = some (.int .i64 4) := by rw [← hkr]; rfl
  clear hkr HK hg0 hk
  go_enter Tryz.func39, Tryz.ntmps39
  go_wp2_with fail
  go_at_call 62
  refine h1.mono ?_
  rintro e w1 ⟨rfl, g1, k1⟩
  have HG1 := HST.out w1 k1 g1
  have d0 : (w1.alloc (.cells kr 37)).cell? ⟨w1.heap.size, 0, none⟩ = some (.int .i64 4) := by rw [cell_of_row _ _ _ _ _ _ (heap_alloc_new w1 _)]; exact c0
  clear h1 HST g1 k1
  have hsz1 : w1.heap.size = w1.heap.size := rfl
  clear hsz1
  go_upto_region 25 with (first
    | (refine wpList_build_some (by rfl) 37 _ (by rfl) kr (by simp; exact hbl) ?_)
    | (refine wpList_store_new (by rfl) 37 (.tmp 4) (.tmp 16) (by rfl) w1 _ kr (by rfl) (by rfl) hks hkzz hk1 ?_))
  generalize w1.alloc (.cells kr 37) = W0 at *
  generalize w1.heap.size = ob at *
  obtain ⟨p0, hp0⟩ : ∃ p : Nat, p = 1 := ⟨_, rfl⟩
  obtain ⟨o0, ho0⟩ : ∃ o : ObjL, o = kindO 4 := ⟨_, rfl⟩
  have HG0 : Gu w W0 ob (.slice ao xs.length cap) xs p0 o0 := by rw [hp0, ho0]; exact HG1
  have hcl0 : o0.com.tree.length = 32 := by rw [ho0]; rfl
  have htl0 : o0.tag.target.length = 32 := by rw [ho0]; rfl
  have HP0 : Hid (p0 = 1) := hp0
  have HO0 : Hid (o0 = kindO 4) := ho0
  clear HG1 hp0 ho0 d0 HKR c0 hbl hk1 hkzz hks hkz
  have hc0 := gid_any HG0.gat
  obtain ⟨x0, hx0⟩ : ∃ x : List Int, x = takeX xs p0 32 := ⟨_, rfl⟩
  obtain ⟨p1, hp1⟩ : ∃ p : Nat, p = plus xs p0 32 := ⟨_, rfl⟩
  rw [← hx0, ← hp1] at hc0
  have HX0 : Hid (x0 = takeX xs p0 32) := hx0
  have HP1 : Hid (p1 = plus xs p0 32) := hp1
  obtain ⟨o1, ho1⟩ : ∃ o : ObjL, o = { o0 with tag := { o0.tag with target := x0 } } := ⟨_, rfl⟩
  have HO1 : Hid (o1 = { o0 with tag := { o0.tag with target := x0 } }) := ho1
  have hl0 : x0.length = 32 := by rw [hx0]; exact takeX_len _ _ _
  have hcl1 : o1.com.tree.length = 32 := by rw [ho1]; exact hcl0
  have htl1 : o1.tag.target.length = 32 := by rw [ho1]; exact hl0
  have HU0 : Hid (Gu w W0 ob (.slice ao xs.length cap) xs p0 o0) := HG0
  clear HG0
  go_wp2_with fail
  go_at_call 65
  refine hc0.mono ?_
  rintro e w1 ⟨rfl, g1, k1⟩
  have HN0 := HU0.out.next k1 g1
  have HTH0 : Hid (w1.there ob 39 32) := HN0.there (by rw [objL_len hcl0 htl0]; decide)
  have HZ0 : Hid (Gu w (w1.setCells ob 39 (x0.map (Value.int .u8))) ob (.slice ao xs.length cap) xs p1 o1) := HN0.putRow (by rw [List.length_map, hl0, objL_len hcl0 htl0]; decide) (by rw [ho1]; exact objL_target o0 x0 hcl0 htl0 hl0)
  have hsi0 : (Tryz.prog.info? 29).map (·.size) = some (idC x0).size := by rw [idC_size hl0]; exact Tryz.infoID
  have hai0 : (idC x0).all (·.oneCell') = true := all_oneCell_toArray (map_oneCell _)
  have hiz0 : (idC x0).size = 32 := idC_size hl0
  have HL0 : Hid ((idC x0).toList = x0.map (Value.int .u8)) := rfl
  clear hc0 g1 k1 HN0 HU0 hx0 hp1 ho1
  go_upto_region 26 with (refine wpList_store_mid (by rfl) 29 (.tmp 105) (.tmp 103) (by rfl) ob 39 (idC x0) (by rfl) (by rfl) (by rw [hiz0]; exact HTH0.out) hsi0 hai0 ?_; rw [HL0.out])
  have HG1 := HZ0.out
  clear HZ0 HTH0 hsi0 hai0 hiz0 HL0
  generalize w1.setCells ob 39 (x0.map (Value.int .u8)) = W1 at *
  have hc1 := one_any HG1.gat
  obtain ⟨x1, hx1⟩ : ∃ x : Int, x = xAt xs p1 := ⟨_, rfl⟩
  obtain ⟨p2, hp2⟩ : ∃ p : Nat, p = plus xs p1 1 := ⟨_, rfl⟩
  rw [← hx1, ← hp2] at hc1
  have HX1 : Hid (x1 = xAt xs p1) := hx1
  have HP2 : Hid (p2 = plus xs p1 1) := hp2
  obtain ⟨o2, ho2⟩ : ∃ o : ObjL, o = { o1 with tag := { o1.tag with kind := x1 } } := ⟨_, rfl⟩
  have HO2 : Hid (o2 = { o1 with tag := { o1.tag with kind := x1 } }) := ho2
  have hcl2 : o2.com.tree.length = 32 := by rw [ho2]; exact hcl1
  have htl2 : o2.tag.target.length = 32 := by rw [ho2]; exact htl1
  have HU1 : Hid (Gu w W1 ob (.slice ao xs.length cap) xs p1 o1) := HG1
  clear HG1
  go_wp2_with fail
  go_at_call 62
  refine hc1.mono ?_
  rintro e w2 ⟨rfl, g2, k2⟩
  have HN1 := HU1.out.next k2 g2
  obtain ⟨⟨cc1, dc1⟩, fc1⟩ := HN1.cell (i := 71) (by rw [objL_len hcl1 htl1]; decide)
  have HZ1 : Hid (Gu w (w2.setCell ⟨ob, 71, none⟩ (.int .i64 x1)) ob (.slice ao xs.length cap) xs p2 o2) := HN1.put (by rw [ho2, show 71 = 39 + 32 from rfl, set_tag o1 hcl1, show 32 = 32 + 0 from rfl, set_tagL o1.tag htl1]; rfl)
  clear hc1 g2 k2 HN1 HU1 hx1 hp2 ho2
  go_upto_region 27 with fail
  have HG2 := HZ1.out
  clear HZ1 dc1 fc1
  generalize w2.setCell ⟨ob, 71, none⟩ (.int .i64 x1) = W2 at *
  have hc2 := gtext_any HG2.gat
  obtain ⟨x2, hx2⟩ : ∃ x : List Int, x = txtG xs p2 := ⟨_, rfl⟩
  obtain ⟨p3, hp3⟩ : ∃ p : Nat, p = txtE xs p2 := ⟨_, rfl⟩
  rw [← hx2, ← hp3] at hc2
  have HX2 : Hid (x2 = txtG xs p2) := hx2
  have HP3 : Hid (p3 = txtE xs p2) := hp3
  obtain ⟨o3, ho3⟩ : ∃ o : ObjL, o = { o2 with tag := { o2.tag with name := x2 } } := ⟨_, rfl⟩
  have HO3 : Hid (o3 = { o2 with tag := { o2.tag with name := x2 } }) := ho3
  have hcl3 : o3.com.tree.length = 32 := by rw [ho3]; exact hcl2
  have htl3 : o3.tag.target.length = 32 := by rw [ho3]; exact htl2
  have HU2 : Hid (Gu w W2 ob (.slice ao xs.length cap) xs p2 o2) := HG2
  clear HG2
  go_wp2_with fail
  go_at_call 64
  refine hc2.mono ?_
  rintro e w3 ⟨rfl, g3, k3⟩
  have HN2 := HU2.out.next k3 g3
  obtain ⟨⟨cc2, dc2⟩, fc2⟩ := HN2.cell (i := 72) (by rw [objL_len hcl2 htl2]; decide)
  have HZ2 : Hid (Gu w (w3.setCell ⟨ob, 72, none⟩ (.string (strOfNums x2))) ob (.slice ao xs.length cap) xs p3 o3) := HN2.put (by rw [ho3, show 72 = 39 + 33 from rfl, set_tag o2 hcl2, show 33 = 32 + 1 from rfl, set_tagL o2.tag htl2]; rfl)
  clear hc2 g3 k3 HN2 HU2 hx2 hp3 ho3
  go_upto_region 28 with fail
  have HG3 := HZ2.out
  clear HZ2 dc2 fc2
  generalize w3.setCell ⟨ob, 72, none⟩ (.string (strOfNums x2)) = W3 at *
  have hc3 := gtext_any HG3.gat
  obtain ⟨x3, hx3⟩ : ∃ x : List Int, x = txtG xs p3 := ⟨_, rfl⟩
  obtain ⟨p4, hp4⟩ : ∃ p : Nat, p = txtE xs p3 := ⟨_, rfl⟩
  rw [← hx3, ← hp4] at hc3
  have HX3 : Hid (x3 = txtG xs p3) := hx3
  have HP4 : Hid (p4 = txtE xs p3) := hp4
  obtain ⟨o4, ho4⟩ : ∃ o : ObjL, o = { o3 with tag := { o3.tag with who := x3 } } := ⟨_, rfl⟩
  have HO4 : Hid (o4 = { o3 with tag := { o3.tag with who := x3 } }) := ho4
  have hcl4 : o4.com.tree.length = 32 := by rw [ho4]; exact hcl3
  have htl4 : o4.tag.target.length = 32 := by rw [ho4]; exact htl3
  have HU3 : Hid (Gu w W3 ob (.slice ao xs.length cap) xs p3 o3) := HG3
  clear HG3
  go_wp2_with fail
  go_at_call 64
  refine hc3.mono ?_
  rintro e w4 ⟨rfl, g4, k4⟩
  have HN3 := HU3.out.next k4 g4
  obtain ⟨⟨cc3, dc3⟩, fc3⟩ := HN3.cell (i := 73) (by rw [objL_len hcl3 htl3]; decide)
  have HZ3 : Hid (Gu w (w4.setCell ⟨ob, 73, none⟩ (.string (strOfNums x3))) ob (.slice ao xs.length cap) xs p4 o4) := HN3.put (by rw [ho4, show 73 = 39 + 34 from rfl, set_tag o3 hcl3, show 34 = 32 + 2 from rfl, set_tagL o3.tag htl3]; rfl)
  clear hc3 g4 k4 HN3 HU3 hx3 hp4 ho4
  go_upto_region 29 with fail
  have HG4 := HZ3.out
  clear HZ3 dc3 fc3
  generalize w4.setCell ⟨ob, 73, none⟩ (.string (strOfNums x3)) = W4 at *
  have hc4 := gtime_any HG4.gat
  obtain ⟨x4, hx4⟩ : ∃ x : Int, x = be (takeX xs p4 8) := ⟨_, rfl⟩
  obtain ⟨p5, hp5⟩ : ∃ p : Nat, p = plus xs p4 8 := ⟨_, rfl⟩
  rw [← hx4, ← hp5] at hc4
  have HX4 : Hid (x4 = be (takeX xs p4 8)) := hx4
  have HP5 : Hid (p5 = plus xs p4 8) := hp5
  obtain ⟨o5, ho5⟩ : ∃ o : ObjL, o = { o4 with tag := { o4.tag with time := x4 } } := ⟨_, rfl⟩
  have HO5 : Hid (o5 = { o4 with tag := { o4.tag with time := x4 } }) := ho5
  have hcl5 : o5.com.tree.length = 32 := by rw [ho5]; exact hcl4
  have htl5 : o5.tag.target.length = 32 := by rw [ho5]; exact htl4
  have HU4 : Hid (Gu w W4 ob (.slice ao xs.length cap) xs p4 o4) := HG4
  clear HG4
  go_wp2_with fail
  go_at_call 66
  refine hc4.mono ?_
  rintro e w5 ⟨rfl, g5, k5⟩
  have HN4 := HU4.out.next k5 g5
  obtain ⟨⟨cc4, dc4⟩, fc4⟩ := HN4.cell (i := 74) (by rw [objL_len hcl4 htl4]; decide)
  have HZ4 : Hid (Gu w (w5.setCell ⟨ob, 74, none⟩ (.int .u64 x4)) ob (.slice ao xs.length cap) xs p5 o5) := HN4.put (by rw [ho5, show 74 = 39 + 35 from rfl, set_tag o4 hcl4, show 35 = 32 + 3 from rfl, set_tagL o4.tag htl4]; rfl)
  clear hc4 g5 k5 HN4 HU4 hx4 hp5 ho5
  go_upto_region 30 with fail
  have HG5 := HZ4.out
  clear HZ4 dc4 fc4
  generalize w5.setCell ⟨ob, 74, none⟩ (.int .u64 x4) = W5 at *
  have hc5 := gtext_any HG5.gat
  obtain ⟨x5, hx5⟩ : ∃ x : List Int, x = txtG xs p5 := ⟨_, rfl⟩
  obtain ⟨p6, hp6⟩ : ∃ p : Nat, p = txtE xs p5 := ⟨_, rfl⟩
  rw [← hx5, ← hp6] at hc5
  have HX5 : Hid (x5 = txtG xs p5) := hx5
  have HP6 : Hid (p6 = txtE xs p5) := hp6
  obtain ⟨o6, ho6⟩ : ∃ o : ObjL, o = { o5 with tag := { o5.tag with text := x5 } } := ⟨_, rfl⟩
  have HO6 : Hid (o6 = { o5 with tag := { o5.tag with text := x5 } }) := ho6
  have hcl6 : o6.com.tree.length = 32 := by rw [ho6]; exact hcl5
  have htl6 : o6.tag.target.length = 32 := by rw [ho6]; exact htl5
  have HU5 : Hid (Gu w W5 ob (.slice ao xs.length cap) xs p5 o5) := HG5
  clear HG5
  go_wp2_with fail
  go_at_call 64
  refine hc5.mono ?_
  rintro e w6 ⟨rfl, g6, k6⟩
  have HN5 := HU5.out.next k6 g6
  obtain ⟨⟨cc5, dc5⟩, fc5⟩ := HN5.cell (i := 75) (by rw [objL_len hcl5 htl5]; decide)
  have HZ5 : Hid (Gu w (w6.setCell ⟨ob, 75, none⟩ (.string (strOfNums x5))) ob (.slice ao xs.length cap) xs p6 o6) := HN5.put (by rw [ho6, show 75 = 39 + 36 from rfl, set_tag o5 hcl5, show 36 = 32 + 4 from rfl, set_tagL o5.tag htl5]; rfl)
  clear hc5 g6 k6 HN5 HU5 hx5 hp6 ho6
  go_upto_region 31 with fail
  have HG6 := HZ5.out
  clear HZ5 dc5 fc5
  generalize w6.setCell ⟨ob, 75, none⟩ (.string (strOfNums x5)) = W6 at *
  have HE : Hid (o6 = { kindO 4 with tag := gTag xs }) := by
    show _ = _
    have e0 := HP0.out
    subst e0
    rw [HO6.out, HO5.out, HO4.out, HO3.out, HO2.out, HO1.out, HO0.out, HX5.out, HX4.out, HX3.out, HX2.out, HX1.out, HX0.out, HP5.out, HP4.out, HP3.out, HP2.out, HP1.out]
    rfl
  have hone : o6.row.toArray.all (·.oneCell') = true := by rw [HE.out]; exact objV_one rfl rfl rfl
  have hoz : o6.row.toArray.size = 76 := by rw [List.size_toArray]; exact objL_len hcl6 htl6
  have hos : (Tryz.prog.info? 37).map (·.size) = some o6.row.toArray.size := by rw [hoz]; kernel_rfl
  have hozz : Tryz.zeroCells37.size = o6.row.toArray.size := by rw [hoz]; kernel_rfl
  have HOB : Hid (W6.heap[ob]? = some (.cells o6.row.toArray 37 (0, 0))) := HG6.blk
  have HRS : Hid (W6.heap[w.heap.size]? = some (.cells Tryz.zeroCells37 37 (0, 0))) := HG6.res
  have HFin : Hid (Kept [] w (W6.setRow w.heap.size o6.row.toArray)) := kept_setRow HG6.kp (Nat.le_refl _) _
  clear HG6
  generalize hpr : o6.row.toArray = pr at *
  have HPr : Hid (o6.row.toArray = pr) := hpr
  clear hpr
  go_wp2_with (first
    | (refine wpList_load_row (by rfl) 37 (.tmp 4) (by rfl) ob (by rfl) 37 pr (0, 0) _ HOB.out hun rfl hos ?_)
    | (refine wpList_store_row (by rfl) 37 (.tmp 2) (.tmp 126) (by rfl) w.heap.size pr (by rfl) (by rfl) 37 _ HRS.out hos hozz hone ?_))
  refine bodyPost_ret (v := .agg pr) ?_ rfl ?_
  · rw [results_cell1 rfl]
    exact run_loadVar_row (P := Tryz.prog) _ w.heap.size 37 37 pr (0, 0) _ (setRow_heap _ _ _ _ _ _ HRS.out) hun rfl hos
  · exact ⟨by rw [← HE.out, HPr.out], HFin.out⟩
end Go.Proofs.YtmjakhmkddgffaaGreatDoor
