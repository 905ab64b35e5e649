/-
  WALK: satchelref3.Links, for every object.
-/
import Derived.Test.YtfcoeinhfdbcgaaGreatDoorLk0
import Derived.Test.YtfcoeinhfdbcgaaGreatDoorRe6
namespace Go.Proofs.YtfcoeinhfdbcgaaGreatDoor
open Go.RowKit

/-- Links between its steps: the object's box and the list. -/
structure LkS (w wr : World) (row : Array Value) (v : Value) (ks : List LinkL) : Prop where
  box : wr.heap[w.heap.size]? = some (.cells row 37 (0, 0))
  own : LkOwn wr (w.heap.size + 1) v ks
  kept : Kept [] w wr
theorem LkS.start (w : World) (row : Array Value) : LkS w (w.alloc (.cells row 37)) row (.slice none 0 0) [] := ⟨heap_alloc_new w _, LkOwn.nil _ _, (Kept.refl _ _).alloc _⟩
theorem LkS.own1 {w wr : World} {row : Array Value} {v : Value} {ks : List LinkL} (h : LkS w wr row v ks) (k : LinkL) : (wr.alloc (.cells k.row.toArray 52)).ownsRow (w.heap.size + 1) 52 33 v ks.length (ks.map LinkL.row).flatten :=
  ownsK_on h.own ((Kept.refl [] _).alloc _) (fun _ _ => by simp)
theorem LkS.low {w wr : World} {row : Array Value} {v : Value} {ks : List LinkL} (h : LkS w wr row v ks) (k : LinkL) : w.heap.size + 1 ≤ (wr.alloc (.cells k.row.toArray 52)).heap.size := by
  have := (Array.getElem?_eq_some_iff.1 h.box).1
  rw [World.size_alloc]
  omega
theorem LkS.rng (wr : World) (k : LinkL) : (wr.alloc (.cells k.row.toArray 52)).rangeAt wr.heap.size 0 k.row := row_range (heap_alloc_new wr _)
theorem LkS.next {w wr : World} {row : Array Value} {v : Value} {ks : List LinkL} (h : LkS w wr row v ks) (k : LinkL) {v' : Value} {w' : World} (q1 : w'.ownsRow (w.heap.size + 1) 52 33 v' (ks.length + 1) ((ks.map LinkL.row).flatten ++ k.row)) (q2 : Kept v.ownBlock.toList (wr.alloc (.cells k.row.toArray 52)) w') : LkS w w' row v' (ks ++ [k]) := by
  have lo := fun g hg => (World.ownsRow.lt (h.own1 k) g hg).1
  have kA : Kept [] wr (wr.alloc (.cells k.row.toArray 52)) := (Kept.refl _ _).alloc _
  refine ⟨q2.heap (kA.heap h.box (by simp)) (fun hm => ?_), LkOwn.push q1, (h.kept.trans kA (by simp)).trans q2 fun g hg => Or.inr ?_⟩
  · have := lo w.heap.size (by simpa using hm)
    omega
  · have := lo g (by simpa using hg)
    omega

/-- What an object names. -/
def linksO (o : ObjL) : List LinkL := if o.kind = 2 then o.es.map linkOf else if o.kind = 3 then linksC o.com else if o.kind = 4 then [LinkL.mk o.tag.target o.tag.kind] else []

set_option maxRecDepth 100000 in
set_option maxHeartbeats 2000000 in
theorem R3LinksTag (o : ObjL) (w : World) (h4 : o.kind = 4) (hc : o.com.tree.length = 32) (hg : o.tag.Good) :
    Calls Tryz.prog 38 #[.agg o.row.toArray] w fun e w' => ∃ v, e = .returned v ∧ LkOwn w' (w.heap.size + 1) v [LinkL.mk o.tag.target o.tag.kind] ∧ Kept [] w w' := by
  obtain ⟨x0, x1, x2, _⟩ := otag_cells hc hg.target.1 (heap_alloc_new w (.cells o.row.toArray 37))
  rw [h4] at x0
  have HS : Hid (LkS w (w.alloc (.cells o.row.toArray 37)) o.row.toArray (.slice none 0 0) []) := LkS.start w _
  have hl := hg.target.1
  have hbl := built_link o.tag.target hl o.tag.kind
  have hui := Tryz.underlying29
  have hsi : (Tryz.prog.info? 29).map (·.size) = some (o.tag.target.map (Value.int .u8)).length := by rw [List.length_map, hl]; exact Tryz.infoID
  have hmid : (o.tag.target.map (Value.int .u8)).toArray = idC o.tag.target := rfl
  have own2 := HS.out.own1 (LinkL.mk o.tag.target o.tag.kind)
  have rng2 := LkS.rng (w.alloc (.cells o.row.toArray 37)) (LinkL.mk o.tag.target o.tag.kind)
  rw [World.size_alloc] at rng2
  have hB2 := HS.out.low (LinkL.mk o.tag.target o.tag.kind)
  have hll : (LinkL.mk o.tag.target o.tag.kind).row.length = 33 := LinkL.row_len hl
  have hone := LinkL.one (LinkL.mk o.tag.target o.tag.kind)
  have HN : Hid (∀ v' w', w'.ownsRow (w.heap.size + 1) 52 33 v' (0 + 1) ([] ++ (LinkL.mk o.tag.target o.tag.kind).row) → Kept (Value.slice none 0 0).ownBlock.toList ((w.alloc (.cells o.row.toArray 37)).alloc (.cells (LinkL.mk o.tag.target o.tag.kind).row.toArray 52)) w' → LkOwn w' (w.heap.size + 1) v' [LinkL.mk o.tag.target o.tag.kind] ∧ Kept [] w w') := fun v' w' q1 q2 => by
    have h := HS.out.next (LinkL.mk o.tag.target o.tag.kind) q1 q2
    exact ⟨h.own, h.kept⟩
  have hid : (LinkL.mk o.tag.target o.tag.kind).id.length = 32 := hl
  generalize LinkL.mk o.tag.target o.tag.kind = lk at *
  generalize o.row.toArray = row at *
  generalize o.tag = t at *
  clear HS h4 hg hc
  go_enter Tryz.func38, Tryz.ntmps38
  go_wp2_with (first
    | (refine wpList_load_mid (by rfl) 29 (.tmp 67) (by rfl) w.heap.size 39 (by rfl) (t.target.map (Value.int .u8)) _ x1 hui rfl hsi ?_; rw [hmid])
    | (refine wpList_build_some (by rfl) 52 _ (by rfl) lk.row.toArray (by simp; exact hbl) ?_)
    | (refine wpList_build_link1 (by rfl) (.tmp 72) (by rfl) lk hid (by rfl) ?_)
    | (at_builtin; refine wpList_append_k (by rfl) (.tmp 65) (.tmp 73) 47 52 (.agg zeroK.row.toArray) 33 40 Tryz.underlying47 Tryz.zeroLink rfl (by decide) (by rfl) (v := .slice none 0 0) (n := 0) (xs := []) (by rfl) own2 (q := w.heap.size + 1) (us := lk.row) (by simp; rfl) hll rng2 hone (by decide) (by decide) hB2 ?_; intro v5 w5 h5 k5 b5
       obtain ⟨ao5, cap5, rfl⟩ := owns_form h5
       obtain ⟨HL5, HK5⟩ := HN.out _ w5 h5 k5
       clear h5 k5 b5))
  go_ret
  exact ⟨_, rfl, HL5, HK5⟩

set_option maxRecDepth 100000 in
set_option maxHeartbeats 2000000 in
theorem R3LinksRest (o : ObjL) (w : World) (h2 : o.kind ≠ 2) (h3 : o.kind ≠ 3) (h4 : o.kind ≠ 4) (hc : o.com.tree.length = 32) :
    Calls Tryz.prog 38 #[.agg o.row.toArray] w fun e w' => ∃ v, e = .returned v ∧ LkOwn w' (w.heap.size + 1) v [] ∧ Kept [] w w' := by
  obtain ⟨x0, _⟩ := obj_cells hc (heap_alloc_new w (.cells o.row.toArray 37))
  have HS : Hid (LkS w (w.alloc (.cells o.row.toArray 37)) o.row.toArray (.slice none 0 0) []) := LkS.start w _
  have b2 : (o.kind == 2) = false := beq_eq_false_iff_ne.2 h2
  have b3 : (o.kind == 3) = false := beq_eq_false_iff_ne.2 h3
  have b4 : (o.kind == 4) = false := beq_eq_false_iff_ne.2 h4
  generalize o.row.toArray = row at *
  generalize o.kind = kd at *
  clear h2 h3 h4
  go_enter Tryz.func38, Tryz.ntmps38
  go_wp2
  go_ret
  exact ⟨_, rfl, HS.out.own, HS.out.kept⟩

set_option maxRecDepth 100000 in
set_option maxHeartbeats 2000000 in
theorem R3LinksCom (o : ObjL) (w : World) (h3 : o.kind = 3) (hp : IdsAt w o.pv o.com.parents) (hg : o.com.Good) (hn : o.com.parents.length ≤ 1000) :
    Calls Tryz.prog 38 #[.agg o.row.toArray] w fun e w' => ∃ v, e = .returned v ∧ LkOwn w' (w.heap.size + 1) v (linksC o.com) ∧ Kept [] w w' := by
  have HTC : Hid (∀ W : World, W.heap[w.heap.size]? = some (.cells o.row.toArray 37 (0, 0)) → W.cell? ⟨w.heap.size, 0, none⟩ = some (.int .i64 3) ∧ W.rangeAt w.heap.size 3 (o.com.tree.map (Value.int .u8)) ∧ W.cell? ⟨w.heap.size, 35, none⟩ = some o.pv) := fun W hW => by
    rw [← h3]
    obtain ⟨q0, q1, q2, _⟩ := ocom_cells hg.tree.1 hW
    exact ⟨q0, q1, q2⟩
  have HS : Hid (LkS w (w.alloc (.cells o.row.toArray 37)) o.row.toArray (.slice none 0 0) []) := LkS.start w _
  have hl := hg.tree.1
  have hbl := built_link o.com.tree hl 2
  have hui := Tryz.underlying29
  have hsi : (Tryz.prog.info? 29).map (·.size) = some (o.com.tree.map (Value.int .u8)).length := by rw [List.length_map, hl]; exact Tryz.infoID
  have hmid : (o.com.tree.map (Value.int .u8)).toArray = idC o.com.tree := rfl
  have own2 := HS.out.own1 (LinkL.mk o.com.tree 2)
  have rng2 := LkS.rng (w.alloc (.cells o.row.toArray 37)) (LinkL.mk o.com.tree 2)
  rw [World.size_alloc] at rng2
  have hB2 := HS.out.low (LinkL.mk o.com.tree 2)
  have hll : (LinkL.mk o.com.tree 2).row.length = 33 := LinkL.row_len hl
  have hone := LinkL.one (LinkL.mk o.com.tree 2)
  have HN : Hid (∀ v' w', w'.ownsRow (w.heap.size + 1) 52 33 v' (0 + 1) ([] ++ (LinkL.mk o.com.tree 2).row) → Kept (Value.slice none 0 0).ownBlock.toList ((w.alloc (.cells o.row.toArray 37)).alloc (.cells (LinkL.mk o.com.tree 2).row.toArray 52)) w' → Hid (LkS w w' o.row.toArray v' [LinkL.mk o.com.tree 2]) ∧ w'.cell? ⟨w.heap.size, 35, none⟩ = some o.pv) := fun v' w' q1 q2 => by
    have h := HS.out.next (LinkL.mk o.com.tree 2) q1 q2
    exact ⟨h, (HTC.out w' h.box).2.2⟩
  obtain ⟨x0, x1, x2⟩ := HTC.out _ HS.out.box
  have HV : Hid (∀ W, Kept [] w W → IdsAt W o.pv o.com.parents) := fun W k => hp.keep k (fun _ _ _ => by simp)
  have HG : Hid (∀ x, x ∈ o.com.parents → GoodID x) := hg.parents
  have HLC : Hid (linksC o.com = LinkL.mk o.com.tree 2 :: o.com.parents.map fun p => LinkL.mk p 3) := rfl
  have hid : (LinkL.mk o.com.tree 2).id.length = 32 := hl
  generalize linksC o.com = lks at *
  generalize LinkL.mk o.com.tree 2 = lk at *
  generalize o.row.toArray = row at *
  generalize o.pv = pv at *
  obtain ⟨ao, cap, rfl, hcap, _, hlen, _⟩ := hp
  clear h3 hg HS
  generalize o.com.parents = ids at *
  generalize o.com.tree = tr at *
  go_enter Tryz.func38, Tryz.ntmps38
  go_wp2_with (first
    | (refine wpList_load_mid (by rfl) 29 (.tmp 40) (by rfl) w.heap.size 3 (by rfl) (tr.map (Value.int .u8)) _ x1 hui rfl hsi ?_; rw [hmid])
    | (refine wpList_build_some (by rfl) 52 _ (by rfl) lk.row.toArray (by simp; exact hbl) ?_)
    | (refine wpList_build_link1 (by rfl) (.tmp 42) (by rfl) lk hid (by rfl) ?_)
    | (at_builtin; refine wpList_append_k (by rfl) (.tmp 38) (.tmp 43) 47 52 (.agg zeroK.row.toArray) 33 40 Tryz.underlying47 Tryz.zeroLink rfl (by decide) (by rfl) (v := .slice none 0 0) (n := 0) (xs := []) (by rfl) own2 (q := w.heap.size + 1) (us := lk.row) (by simp; rfl) hll rng2 hone (by decide) (by decide) hB2 ?_; intro v5 w5 h5 k5 b5
       obtain ⟨ao5, cap5, rfl⟩ := owns_form h5
       obtain ⟨HL5, HK5⟩ := HN.out _ w5 h5 k5
       clear h5 k5 b5))
  clear own2 rng2 hB2 hll hone hbl hsi hmid HN x0 x1 x2 hid hl
  go_loopw [3, 6] (fun s3 s6 wr => ∃ k : Nat, k ≤ ids.length ∧ s6 = .int .i64 k ∧ Hid (LkS w wr row s3 (lk :: (ids.take k).map fun p => LinkL.mk p 3))) (fun _ s6 _ => ids.length - (intOf s6).toNat)
  case atStart => exact ⟨0, Nat.zero_le _, rfl, by simpa using HL5⟩
  case round =>
    clear HL5 HK5
    obtain ⟨k, hk, rfl, HL⟩ := hrel
    obtain ⟨ao3, cap3, hv3⟩ := owns_form HL.out.own
    have hln : (lk :: (ids.take k).map fun p => LinkL.mk p 3).length = k + 1 := by simp; omega
    rw [hln] at hv3
    subst hv3
    obtain ⟨x0, x1, x2⟩ := HTC.out _ HL.out.box
    by_cases hlt : k < ids.length
    · have t1 : decide ((k : Int) < ids.length) = true := decide_eq_true (by omega)
      obtain ⟨o, ho⟩ : ∃ o, ids[k]? = some o := ⟨_, List.getElem?_eq_getElem hlt⟩
      have hgo := HG.out o (List.mem_of_getElem? ho)
      obtain ⟨ao', cap', he, _, _, _, hc⟩ := HV.out wr HL.out.kept
      injection he with e1 e2 e3
      subst e1 e3
      obtain ⟨b, off, rfl, hh⟩ := hc (by rintro rfl; simp at hlt)
      have hr := hh k o ho
      have hso : (Tryz.prog.info? 29).map (·.size) = some (o.map (Value.int .u8)).length := by rw [List.length_map, hgo.1]; exact Tryz.infoID
      have hoc : (o.map (Value.int .u8)).toArray = idC o := rfl
      have hbo := built_link o hgo.1 3
      have hlo := hgo.1
      have own2 := HL.out.own1 (LinkL.mk o 3)
      rw [hln] at own2
      have rng2 := LkS.rng wr (LinkL.mk o 3)
      have hB2 := HL.out.low (LinkL.mk o 3)
      have hk6 : k + 1 ≤ 1000000 := by omega
      have hll : (LinkL.mk o 3).row.length = 33 := LinkL.row_len hlo
      have hone := LinkL.one (LinkL.mk o 3)
      have HN : Hid (∀ v' w', w'.ownsRow (w.heap.size + 1) 52 33 v' (k + 1 + 1) (((lk :: (ids.take k).map fun p => LinkL.mk p 3).map LinkL.row).flatten ++ (LinkL.mk o 3).row) → Kept (Value.slice ao3 (k + 1) cap3).ownBlock.toList (wr.alloc (.cells (LinkL.mk o 3).row.toArray 52)) w' → Hid (LkS w w' row v' (lk :: (ids.take (k + 1)).map fun p => LinkL.mk p 3)) ∧ True) := fun v' w' q1 q2 => by
        rw [← hln] at q1
        have h := HL.out.next (LinkL.mk o 3) q1 q2
        have ho' : ids[k] = o := (List.getElem?_eq_some_iff.1 ho).2
        refine ⟨?_, trivial⟩
        show LkS _ _ _ _ _
        rw [List.take_succ_eq_append_getElem hlt, List.map_append, ho']
        exact h
      clear hh hc ho hgo hln HL
      generalize ((lk :: (ids.take k).map fun p => LinkL.mk p 3).map LinkL.row).flatten = ls at *
      go_wp2_with (first
        | (refine wpList_load_mid (by rfl) 29 (.tmp 58) (by rfl) b (off + k * 32) (by rfl) (o.map (Value.int .u8)) _ hr hui rfl hso ?_; rw [hoc])
        | (refine wpList_build_some (by rfl) 52 _ (by rfl) (LinkL.mk o 3).row.toArray (by simp; exact hbo) ?_)
        | (refine wpList_build_link1 (by rfl) (.tmp 60) (by rfl) (LinkL.mk o 3) hlo (by rfl) ?_)
        | (at_builtin; refine wpList_append_k (by rfl) (.tmp 53) (.tmp 61) 47 52 (.agg zeroK.row.toArray) 33 40 Tryz.underlying47 Tryz.zeroLink rfl (by decide) (by rfl) (v := .slice ao3 (k + 1) cap3) (by rfl) own2 (q := wr.heap.size) (us := (LinkL.mk o 3).row) (by simp; rfl) hll rng2 hone hk6 (by decide) hB2 ?_; intro v5 w5 h5 k5 b5
           obtain ⟨ao5, cap5, rfl⟩ := owns_form h5
           obtain ⟨HL5, HK5⟩ := HN.out _ w5 h5 k5
           clear h5 k5 b5))
      go_roundw
      case rel => exact ⟨k + 1, by omega, by go_num, HL5⟩
      case measure => simp [intOf]; omega
    · obtain rfl : k = ids.length := by omega
      have t1 : decide ((ids.length : Int) < ids.length) = false := decide_eq_false (by omega)
      have HR : Hid (LkOwn wr (w.heap.size + 1) (.slice ao3 (ids.length + 1) cap3) lks ∧ Kept [] w wr) := by
        have h := HL.out.own
        rw [List.take_length] at h
        rw [HLC.out]
        exact ⟨h, HL.out.kept⟩
      clear HL HLC
      go_wp2
      go_ret
      exact ⟨_, rfl, HR.out.1, HR.out.2⟩

set_option maxRecDepth 100000 in
set_option maxHeartbeats 2000000 in
theorem R3LinksTree (o : ObjL) (w : World) (h2 : o.kind = 2) (hc : o.com.tree.length = 32) (hv : EntsAt w o.ev o.es) (hg : ∀ e, e ∈ o.es → e.Good) (hn : o.es.length ≤ 1024) :
    Calls Tryz.prog 38 #[.agg o.row.toArray] w fun e w' => ∃ v, e = .returned v ∧ LkOwn w' (w.heap.size + 1) v (o.es.map linkOf) ∧ Kept [] w w' := by
  have HTC : Hid (∀ W : World, W.heap[w.heap.size]? = some (.cells o.row.toArray 37 (0, 0)) → W.cell? ⟨w.heap.size, 0, none⟩ = some (.int .i64 2) ∧ W.cell? ⟨w.heap.size, 2, none⟩ = some o.ev) := fun W hW => by
    rw [← h2]
    obtain ⟨c0, _, c2, _⟩ := obj_cells hc hW
    exact ⟨c0, c2⟩
  have HS : Hid (LkS w (w.alloc (.cells o.row.toArray 37)) o.row.toArray (.slice none 0 0) []) := LkS.start w _
  have hui := Tryz.underlying29
  obtain ⟨x0, x2⟩ := HTC.out _ HS.out.box
  have HV : Hid (∀ W, Kept [] w W → EntsAt W o.ev o.es) := fun W k => hv.keep k (fun _ _ _ => by simp)
  have HG : Hid (∀ e, e ∈ o.es → e.Good) := hg
  generalize o.row.toArray = row at *
  generalize o.ev = ev at *
  generalize o.es = es at *
  obtain ⟨ap, cp, rfl, hcap, hlen, _⟩ := hv.form
  clear h2 hg hv
  go_enter Tryz.func38, Tryz.ntmps38
  go_wp2
  clear x0 x2
  go_loopw [3, 4, 5] (fun s3 s4 _ wr => ∃ k : Nat, k ≤ es.length ∧ s4 = .int .i64 k ∧ Hid (LkS w wr row s3 ((es.take k).map linkOf))) (fun _ s4 _ _ => es.length - (intOf s4).toNat)
  case atStart => exact ⟨0, Nat.zero_le _, rfl, by simpa using HS⟩
  case round =>
    clear HS
    obtain ⟨k, hk, rfl, HL⟩ := hrel
    obtain ⟨ao3, cap3, hv3⟩ := owns_form HL.out.own
    have hln : ((es.take k).map linkOf).length = k := by simp; omega
    rw [hln] at hv3
    subst hv3
    obtain ⟨x0, x2⟩ := HTC.out _ HL.out.box
    by_cases hlt : k < es.length
    · have t1 : decide ((k : Int) < es.length) = true := decide_eq_true (by omega)
      obtain ⟨en, hek⟩ : ∃ en, es[k]? = some en := ⟨_, List.getElem?_eq_getElem hlt⟩
      have hge := HG.out en (List.mem_of_getElem? hek)
      have ho' : es[k] = en := (List.getElem?_eq_some_iff.1 hek).2
      obtain ⟨ao', cap', he, _, _, hcc⟩ := (HV.out wr HL.out.kept).form
      injection he with e1 e2 e3
      subst e1 e3
      obtain ⟨b, off, rfl, hh⟩ := hcc (by rintro rfl; simp at hlt)
      obtain ⟨hm0, hm1, hm2⟩ := ent_mid (hh k en hek)
      have hid := hge.id.1
      have hso : (Tryz.prog.info? 29).map (·.size) = some (en.id.map (Value.int .u8)).length := by rw [List.length_map, hid]; exact Tryz.infoID
      have hoc : (en.id.map (Value.int .u8)).toArray = idC en.id := rfl
      have hk6 : k ≤ 1000000 := by omega
      clear hh hcc hek hge
      by_cases hm4 : en.mode = 4
      · have hb4 : (en.mode == 4) = true := by rw [hm4]; rfl
        have HLK : Hid (linkOf en = LinkL.mk en.id 2) := by show _ = _; unfold linkOf; rw [if_pos hm4]
        have hbo := built_link en.id hid 2
        have own2 := HL.out.own1 (LinkL.mk en.id 2)
        rw [hln] at own2
        have rng2 := LkS.rng wr (LinkL.mk en.id 2)
        have hB2 := HL.out.low (LinkL.mk en.id 2)
        have hll : (LinkL.mk en.id 2).row.length = 33 := LinkL.row_len hid
        have hone := LinkL.one (LinkL.mk en.id 2)
        have HN : Hid (∀ v' w', w'.ownsRow (w.heap.size + 1) 52 33 v' (k + 1) ((((es.take k).map linkOf).map LinkL.row).flatten ++ (LinkL.mk en.id 2).row) → Kept (Value.slice ao3 k cap3).ownBlock.toList (wr.alloc (.cells (LinkL.mk en.id 2).row.toArray 52)) w' → Hid (LkS w w' row v' ((es.take (k + 1)).map linkOf)) ∧ True) := fun v' w' q1 q2 => by
          have q3 : w'.ownsRow (w.heap.size + 1) 52 33 v' (((es.take k).map linkOf).length + 1) ((((es.take k).map linkOf).map LinkL.row).flatten ++ (LinkL.mk en.id 2).row) := by rw [hln]; exact q1
          have h := HL.out.next (LinkL.mk en.id 2) q3 q2
          refine ⟨?_, trivial⟩
          show LkS _ _ _ _ _
          rw [List.take_succ_eq_append_getElem hlt, List.map_append, ho']
          show LkS _ _ _ _ (_ ++ [linkOf en])
          rw [HLK.out]
          exact h
        clear hm4
        clear hln HL HLK ho'
        generalize (((es.take k).map linkOf).map LinkL.row).flatten = ls at *
        generalize en.mode = md at *
        go_wp2_with (first
          | (refine wpList_load_mid (by rfl) 29 (.tmp 30) (by rfl) b (off + k * 34 + 2) (by rfl) (en.id.map (Value.int .u8)) _ hm2 hui rfl hso ?_; rw [hoc])
          | (refine wpList_build_some (by rfl) 52 _ (by rfl) (LinkL.mk en.id 2).row.toArray (by simp; exact hbo) ?_)
          | (refine wpList_build_link1 (by rfl) (.tmp 33) (by rfl) (LinkL.mk en.id 2) hid (by rfl) ?_)
          | (at_builtin; refine wpList_append_k (by rfl) (.tmp 25) (.tmp 34) 47 52 (.agg zeroK.row.toArray) 33 40 Tryz.underlying47 Tryz.zeroLink rfl (by decide) (by rfl) (v := .slice ao3 k cap3) (by rfl) own2 (q := wr.heap.size) (us := (LinkL.mk en.id 2).row) (by simp; rfl) hll rng2 hone hk6 (by decide) hB2 ?_; intro v5 w5 h5 k5 b5
             obtain ⟨ao5, cap5, rfl⟩ := owns_form h5
             obtain ⟨HL5, HK5⟩ := HN.out _ w5 h5 k5
             clear h5 k5 b5))
        go_roundw
        case rel => exact ⟨k + 1, by omega, by go_num, HL5⟩
        case measure => simp [intOf]; omega
      · have hb4 : (en.mode == 4) = false := beq_eq_false_iff_ne.2 hm4
        have HLK : Hid (linkOf en = LinkL.mk en.id 1) := by show _ = _; unfold linkOf; rw [if_neg hm4]
        have hbo := built_link en.id hid 1
        have own2 := HL.out.own1 (LinkL.mk en.id 1)
        rw [hln] at own2
        have rng2 := LkS.rng wr (LinkL.mk en.id 1)
        have hB2 := HL.out.low (LinkL.mk en.id 1)
        have hll : (LinkL.mk en.id 1).row.length = 33 := LinkL.row_len hid
        have hone := LinkL.one (LinkL.mk en.id 1)
        have HN : Hid (∀ v' w', w'.ownsRow (w.heap.size + 1) 52 33 v' (k + 1) ((((es.take k).map linkOf).map LinkL.row).flatten ++ (LinkL.mk en.id 1).row) → Kept (Value.slice ao3 k cap3).ownBlock.toList (wr.alloc (.cells (LinkL.mk en.id 1).row.toArray 52)) w' → Hid (LkS w w' row v' ((es.take (k + 1)).map linkOf)) ∧ True) := fun v' w' q1 q2 => by
          have q3 : w'.ownsRow (w.heap.size + 1) 52 33 v' (((es.take k).map linkOf).length + 1) ((((es.take k).map linkOf).map LinkL.row).flatten ++ (LinkL.mk en.id 1).row) := by rw [hln]; exact q1
          have h := HL.out.next (LinkL.mk en.id 1) q3 q2
          refine ⟨?_, trivial⟩
          show LkS _ _ _ _ _
          rw [List.take_succ_eq_append_getElem hlt, List.map_append, ho']
          show LkS _ _ _ _ (_ ++ [linkOf en])
          rw [HLK.out]
          exact h
        clear hm4
        clear hln HL HLK ho'
        generalize (((es.take k).map linkOf).map LinkL.row).flatten = ls at *
        generalize en.mode = md at *
        go_wp2_with (first
          | (refine wpList_load_mid (by rfl) 29 (.tmp 30) (by rfl) b (off + k * 34 + 2) (by rfl) (en.id.map (Value.int .u8)) _ hm2 hui rfl hso ?_; rw [hoc])
          | (refine wpList_build_some (by rfl) 52 _ (by rfl) (LinkL.mk en.id 1).row.toArray (by simp; exact hbo) ?_)
          | (refine wpList_build_link1 (by rfl) (.tmp 33) (by rfl) (LinkL.mk en.id 1) hid (by rfl) ?_)
          | (at_builtin; refine wpList_append_k (by rfl) (.tmp 25) (.tmp 34) 47 52 (.agg zeroK.row.toArray) 33 40 Tryz.underlying47 Tryz.zeroLink rfl (by decide) (by rfl) (v := .slice ao3 k cap3) (by rfl) own2 (q := wr.heap.size) (us := (LinkL.mk en.id 1).row) (by simp; rfl) hll rng2 hone hk6 (by decide) hB2 ?_; intro v5 w5 h5 k5 b5
             obtain ⟨ao5, cap5, rfl⟩ := owns_form h5
             obtain ⟨HL5, HK5⟩ := HN.out _ w5 h5 k5
             clear h5 k5 b5))
        go_roundw
        case rel => exact ⟨k + 1, by omega, by go_num, HL5⟩
        case measure => simp [intOf]; omega
    · obtain rfl : k = es.length := by omega
      have t1 : decide ((es.length : Int) < es.length) = false := decide_eq_false (by omega)
      have HR : Hid (LkOwn wr (w.heap.size + 1) (.slice ao3 es.length cap3) (es.map linkOf) ∧ Kept [] w wr) := by
        have h := HL.out.own
        rw [List.take_length] at h
        exact ⟨h, HL.out.kept⟩
      clear HL
      go_wp2
      go_ret
      exact ⟨_, rfl, HR.out.1, HR.out.2⟩

theorem R3Links_any (o : ObjL) (w : World) (hg : o.Good w) (hn : o.es.length ≤ 1024) (hp : o.com.parents.length ≤ 1000) :
    Calls Tryz.prog 38 #[.agg o.row.toArray] w fun e w' => ∃ v, e = .returned v ∧ LkOwn w' (w.heap.size + 1) v (linksO o) ∧ Kept [] w w' := by
  unfold linksO
  by_cases h2 : o.kind = 2
  · rw [if_pos h2]; exact R3LinksTree o w h2 hg.com.tree.1 hg.ev hg.es hn
  · rw [if_neg h2]
    by_cases h3 : o.kind = 3
    · rw [if_pos h3]; exact R3LinksCom o w h3 hg.pv hg.com hp
    · rw [if_neg h3]
      by_cases h4 : o.kind = 4
      · rw [if_pos h4]; exact R3LinksTag o w h4 hg.com.tree.1 hg.tag
      · rw [if_neg h4]; exact R3LinksRest o w h2 h3 h4 hg.com.tree.1
end Go.Proofs.YtfcoeinhfdbcgaaGreatDoor
