/-
  APPEND of a whole list of structs of k cells to a list of one's own.
  WALK: satchelref0.EqIDs, of two lists that tell the same; what two stores of the same ids tell.
  WALKS: object.Kind, satchelref3.Kind, of any bytes.
  WALK: satchelref3.Links, for every object.
  WALK: satchelref3.Children, of any bytes.
  WALK: object.Children, of any bytes.
  A struct held against itself: entries, tags.
  WALK: satchellaw3.sameLinks, of two lists that tell the same.
-/
import Derived.Test.YtbphibolgckmnaaGreatDoorRt1
import Derived.Laws.AppendOwnNone
import Derived.Test.YtbphibolgckmnaaGreatDoorIds1
import Derived.Test.YtbphibolgckmnaaGreatDoorLookFixed
import Derived.Test.YtbphibolgckmnaaGreatDoorLk0
import Derived.Test.YtbphibolgckmnaaGreatDoorPar1
import Derived.Test.YtbphibolgckmnaaGreatDoorEnt2
import Derived.Test.YtbphibolgckmnaaGreatDoorReadC
import Derived.Test.YtbphibolgckmnaaGreatDoorGs3
import Derived.Test.YtbphibolgckmnaaGreatDoorTag2
import Derived.Laws.StructEq
namespace Go.Proofs.YtbphibolgckmnaaGreatDoor
open Go.RowKit

theorem IdsAt.rows {w : World} {v : Value} {ids : List (List Int)} : IdsAt w v ids ↔ RowsAt w v 32 (ids.map fun x => x.map (Value.int .u8)) := by
  constructor
  · rintro ⟨ao, cap, rfl, h1, h0, h2, hc⟩
    refine ⟨ao, cap, by rw [List.length_map], by rw [List.length_map]; exact h1, h0, by rw [List.length_map]; exact h2, fun hne => ?_⟩
    obtain ⟨b, off, hb, hh⟩ := hc (by simpa using hne)
    refine ⟨b, off, hb, fun i cs hi => ?_⟩
    rw [List.getElem?_map] at hi
    obtain ⟨x, hx, rfl⟩ := Option.map_eq_some_iff.1 hi
    exact hh i x hx
  · rintro ⟨ao, cap, rfl, h1, h0, h2, hc⟩
    rw [List.length_map] at h1 h2
    refine ⟨ao, cap, by rw [List.length_map], h1, h0, h2, fun hne => ?_⟩
    obtain ⟨b, off, hb, hh⟩ := hc (by simpa using hne)
    exact ⟨b, off, hb, fun i x hx => hh i _ (by rw [List.getElem?_map, hx]; rfl)⟩
end Go.Proofs.YtbphibolgckmnaaGreatDoor

namespace Go.Proofs.YtbphibolgckmnaaGreatDoor
open Go.RowKit

theorem IdOwn.at {w : World} {B : Nat} {v : Value} {ids : List (List Int)} (h : IdOwn w B v ids) (hg : ∀ id, id ∈ ids → GoodID id) (hn : ids.length ≤ 140737488351232) : IdsAt w v ids := by
  refine IdsAt.rows.2 (ownsK_rows (B := B) (e := 29) (by decide) (fun r hr => ?_) ?_ (by rw [List.length_map]; exact hn))
  · obtain ⟨id, hid, rfl⟩ := List.mem_map.1 hr
    rw [List.length_map]
    exact (hg id hid).1
  · rw [List.length_map]
    exact h
theorem IdsAt.onK {w w' : World} {v : Value} {ids : List (List Int)} (h : IdsAt w v ids) (k : Kept [] w w') : IdsAt w' v ids := h.keep k (fun _ _ _ => by simp)
/-- Two sorted lists of the same ids are one. -/
theorem sorted_uniq : ∀ {L M : List (List Int)}, SortedIds L → SortedIds M → (∀ x, x ∈ L ↔ x ∈ M) → L = M
  | [], [], _, _, _ => rfl
  | [], y :: M, _, _, h => absurd ((h y).2 (by simp)) (by simp)
  | x :: L, [], _, _, h => absurd ((h x).1 (by simp)) (by simp)
  | x :: L, y :: M, hL, hM, h => by
    have hL' := List.pairwise_cons.1 hL
    have hM' := List.pairwise_cons.1 hM
    have e : x = y := by
      rcases List.mem_cons.1 ((h x).1 (by simp)) with e | hx
      · exact e
      · rcases List.mem_cons.1 ((h y).2 (by simp)) with e | hy
        · exact e.symm
        · have h1 := hM'.1 x hx
          have h2 := hL'.1 y hy
          have h3 := cmpB_trans _ _ _ h1 h2
          exact absurd h3 (cmpB_self y)
    subst e
    have t : L = M := sorted_uniq hL'.2 hM'.2 (fun z => by
      have hz := h z
      constructor
      · intro hzl
        rcases List.mem_cons.1 (hz.1 (List.mem_cons_of_mem _ hzl)) with e | q
        · subst e
          exact absurd (hL'.1 _ hzl) (cmpB_self _)
        · exact q
      · intro hzm
        rcases List.mem_cons.1 (hz.2 (List.mem_cons_of_mem _ hzm)) with e | q
        · subst e
          exact absurd (hM'.1 _ hzm) (cmpB_self _)
        · exact q)
    rw [t]
theorem IdsOf.uniq {D D2 : DataW Unit} {L M : List (List Int)} (h : IdsOf D L) (h2 : IdsOf D2 M) (e : ∀ kl, Maps.has D2 kl = Maps.has D kl) : L = M :=
  sorted_uniq h.sorted h2.sorted (fun x => by
    constructor
    · intro hx
      have := (h.mem x hx).2
      rw [← e] at this
      obtain ⟨y, hy, ey⟩ := h2.all _ this
      rw [idKey_inj (h.mem x hx).1 (h2.mem y hy).1 ey]
      exact hy
    · intro hx
      have := (h2.mem x hx).2
      rw [e] at this
      obtain ⟨y, hy, ey⟩ := h.all _ this
      rw [idKey_inj (h2.mem x hx).1 (h.mem y hy).1 ey]
      exact hy)
end Go.Proofs.YtbphibolgckmnaaGreatDoor

namespace Go.Proofs.YtbphibolgckmnaaGreatDoor
open Go.RowKit

/-- The kind of bytes; 0: they are no encoding. -/
def kindX [TabC] (xs : List Int) : Int := if parErr xs = 0 then xAt xs 0 else 0
theorem guessO_kind {xs : List Int} (hk : 1 ≤ xAt xs 0 ∧ xAt xs 0 ≤ 4) (bv ev pv : Value) : (guessO xs bv ev pv).kind = xAt xs 0 := by
  unfold guessO
  split
  · rename_i h; exact h.symm
  · split
    · rename_i h; exact h.symm
    · split
      · rename_i h; exact h.symm
      · show (4 : Int) = _
        omega

set_option maxRecDepth 100000 in
set_option maxHeartbeats 2000000 in
theorem Kind_any [TabC] (v : Value) (xs : List Int) (w : World) (hv : BytesAt w v xs) (ho : Octs xs) (hT : Tabs w) : Calls Tryz.prog 29 #[v] w fun e w' => e = .returned (.int .i64 (kindX xs)) ∧ Kept [] w w' := by
  have hrd := read_any v xs w hv ho hT
  by_cases her : parErr xs = 0
  · obtain ⟨_, hk1, hk4⟩ := parErr_zero her
    have hke : kindX xs = xAt xs 0 := by unfold kindX; rw [if_pos her]
    rw [hke]
    rcases hv.parts with ⟨rfl, _⟩ | ⟨b, off, cap, rfl, _, hpos, hcell⟩
    · exact absurd hk1 (by decide)
    have hc0 : w.cell? ⟨b, off, none⟩ = some (.int .u8 (xAt xs 0)) := by have h := hcell 0 hpos; rw [Nat.add_zero] at h; exact h
    have hl0 : ¬ xs.length = 0 := by omega
    have hl2 : (0 : Int) < (xs.length : Int) := by omega
    have hw : IntKind.i64.wrap (xAt xs 0) = xAt xs 0 := by rw [IntKind.wrap_i64]; omega
    clear hcell hv ho hT
    go_enter Tryz.func29, Tryz.ntmps29
    go_wp2_with fail
    go_at_call 43
    refine hrd.mono ?_
    rintro e w1 ⟨k1, _, hok⟩
    obtain ⟨bv, ev, pv, rfl, _, _⟩ := hok her
    have c1 := k1.cell hc0 (by simp)
    have HK : Hid (Kept [] w w1) := k1
    clear hrd k1 hok hc0
    generalize conV (guessO xs bv ev pv) = cv at *
    generalize hx : xAt xs 0 = x at *
    have HX : Hid (xAt xs 0 = x) := hx
    clear hx
    go_wp2
    go_ret
    exact ⟨by rw [HX.out]; rfl, HK.out⟩
  · have hke : kindX xs = 0 := by unfold kindX; rw [if_neg her]
    rw [hke]
    have hne0 : (parErr xs != 0) = true := bne_iff_ne.2 her
    obtain ⟨ao, cap, rfl, _⟩ := hv
    clear ho hT hke
    go_enter Tryz.func29, Tryz.ntmps29
    go_wp2_with fail
    go_at_call 43
    refine hrd.mono ?_
    rintro e w1 ⟨k1, hbad, _⟩
    obtain rfl := hbad her
    have HK : Hid (Kept [] w w1) := k1
    clear hrd k1 hbad
    generalize parErr xs = er at *
    go_wp2
    go_ret
    exact ⟨rfl, HK.out⟩

end Go.Proofs.YtbphibolgckmnaaGreatDoor

namespace Go.Proofs.YtbphibolgckmnaaGreatDoor
open Go.RowKit

/-- Links between its steps: the object's box and the list. -/
structure LkS (w wr : World) (row : Array Value) (v : Value) (ks : List LinkL) : Prop where
  box : wr.heap[w.heap.size]? = some (.cells row 78 (0, 0))
  own : LkOwn wr (w.heap.size + 1) v ks
  kept : Kept [] w wr
theorem LkS.start (w : World) (row : Array Value) : LkS w (w.alloc (.cells row 78)) row (.slice none 0 0) [] := ⟨heap_alloc_new w _, LkOwn.nil _ _, (Kept.refl _ _).alloc _⟩
theorem LkS.own1 {w wr : World} {row : Array Value} {v : Value} {ks : List LinkL} (h : LkS w wr row v ks) (k : LinkL) : (wr.alloc (.cells k.row.toArray 100)).ownsRow (w.heap.size + 1) 100 33 v ks.length (ks.map LinkL.row).flatten :=
  ownsK_on h.own ((Kept.refl [] _).alloc _) (fun _ _ => by simp)
theorem LkS.low {w wr : World} {row : Array Value} {v : Value} {ks : List LinkL} (h : LkS w wr row v ks) (k : LinkL) : w.heap.size + 1 ≤ (wr.alloc (.cells k.row.toArray 100)).heap.size := by
  have := (Array.getElem?_eq_some_iff.1 h.box).1
  rw [World.size_alloc]
  omega
theorem LkS.rng (wr : World) (k : LinkL) : (wr.alloc (.cells k.row.toArray 100)).rangeAt wr.heap.size 0 k.row := row_range (heap_alloc_new wr _)
theorem LkS.next {w wr : World} {row : Array Value} {v : Value} {ks : List LinkL} (h : LkS w wr row v ks) (k : LinkL) {v' : Value} {w' : World} (q1 : w'.ownsRow (w.heap.size + 1) 100 33 v' (ks.length + 1) ((ks.map LinkL.row).flatten ++ k.row)) (q2 : Kept v.ownBlock.toList (wr.alloc (.cells k.row.toArray 100)) w') : LkS w w' row v' (ks ++ [k]) := by
  have lo := fun g hg => (World.ownsRow.lt (h.own1 k) g hg).1
  have kA : Kept [] wr (wr.alloc (.cells k.row.toArray 100)) := (Kept.refl _ _).alloc _
  refine ⟨q2.heap (kA.heap h.box (by simp)) (fun hm => ?_), LkOwn.push q1, (h.kept.trans kA (by simp)).trans q2 fun g hg => Or.inr ?_⟩
  · have := lo w.heap.size (by simpa using hm)
    omega
  · have := lo g (by simpa using hg)
    omega

/-- What an object names. -/
def linksO (o : ObjL) : List LinkL := if o.kind = 2 then o.es.map linkOf else if o.kind = 3 then linksC o.com else if o.kind = 4 then [LinkL.mk o.tag.target o.tag.kind] else []

end Go.Proofs.YtbphibolgckmnaaGreatDoor

namespace Go.Proofs.YtbphibolgckmnaaGreatDoor
open Go.RowKit

/-- What bytes name; none, if they are no encoding. -/
def chX [TabC] (xs : List Int) : List LinkL := if parErr xs = 0 then linksO (guessO xs nilV nilV nilV) else []
theorem linksO_same (xs : List Int) (bv ev pv : Value) : linksO (guessO xs bv ev pv) = linksO (guessO xs nilV nilV nilV) := by
  unfold guessO
  split
  · rfl
  · split
    · rfl
    · split
      · rfl
      · rfl
theorem parErr_fault [TabC] {xs : List Int} (h : parErr xs = 0) : faultO (guessO xs nilV nilV nilV) = 0 := by
  unfold parErr at h
  split at h
  · exact absurd h (by decide)
  · split at h
    · exact absurd h (by decide)
    · split at h
      · rename_i h3
        unfold gOk at h3
        exact of_decide_eq_true (Bool.and_eq_true_iff.1 h3).1
      · exact absurd h (by decide)
theorem guess_bounds [TabC] {xs : List Int} (h : parErr xs = 0) (bv ev pv : Value) : (guessO xs bv ev pv).es.length ≤ 1024 ∧ (guessO xs bv ev pv).com.parents.length ≤ 8 := by
  have hf := parErr_fault h
  have z1 : ([] : List EntL).length ≤ 1024 := by decide
  have z2 : ([] : List (List Int)).length ≤ 8 := by decide
  unfold guessO at hf ⊢
  split
  · exact ⟨z1, z2⟩
  · rename_i h1
    rw [if_neg h1] at hf
    split
    · rename_i h2
      rw [if_pos h2] at hf
      exact ⟨(faultT_zero hf).1, z2⟩
    · rename_i h2
      rw [if_neg h2] at hf
      split
      · rename_i h3
        rw [if_pos h3] at hf
        exact ⟨z1, (faultC_zero hf).1⟩
      · exact ⟨z1, z2⟩

/-- Links, as a slice tells them. -/
def LinksAt (w : World) (v : Value) (ks : List LinkL) : Prop := RowsAt w v 33 (ks.map LinkL.row)
theorem LinksAt.nil (w : World) : LinksAt w (.slice none 0 0) [] := ⟨none, 0, rfl, Nat.le_refl _, fun _ => rfl, by decide, fun h => absurd rfl h⟩

end Go.Proofs.YtbphibolgckmnaaGreatDoor

namespace Go.Proofs.YtbphibolgckmnaaGreatDoor
open Go.RowKit

theorem LinksAt.of_rows {w : World} {b : Nat} {ks : List LinkL} (h : RowsIn w b 100 (ks.map LinkL.row)) (hg : ∀ k, k ∈ ks → k.id.length = 32) (hl : ks.length ≤ 1024) : LinksAt w (.slice (some ⟨b, 0, none⟩) ks.length ks.length) ks := by
  refine ⟨_, ks.length, by rw [List.length_map], by rw [List.length_map]; exact Nat.le_refl _, fun e => (by cases e), by rw [List.length_map]; omega, fun _ => ⟨b, 0, rfl, fun i cs hi => ?_⟩⟩
  rw [Nat.zero_add]
  exact h.range 33 (by decide) (fun r hr => by
    obtain ⟨e, he, rfl⟩ := List.mem_map.1 hr
    exact LinkL.row_len (hg e he)) i cs hi
/-- What a content's own method answers. -/
def ChM (w : World) (ks : List LinkL) (e : Ending) (w' : World) : Prop := ∃ la n lc, e = .returned (.slice la n lc) ∧ LinksAt w' (.slice la n lc) ks ∧ Kept [] w w'

set_option maxRecDepth 100000 in
theorem blobChildren (v : Value) (w : World) : Calls Tryz.prog 134 #[v] w (ChM w []) := by
  go_enter Tryz.func134, Tryz.ntmps134
  go_wp2
  go_ret
  exact ⟨none, 0, 0, rfl, LinksAt.nil _, Kept.refl _ _⟩
theorem treeChM (v : Value) (es : List EntL) (w : World) (hv : EntsAt w v es) (hg : ∀ e, e ∈ es → e.Good) (hn : es.length ≤ 1024) : Calls Tryz.prog 137 #[v] w (ChM w (es.map linkOf)) := by
  refine (treeChildren_any v es w hv hg hn).mono ?_
  rintro e w' ⟨b, rfl, hr, _, hk⟩
  refine ⟨_, _, _, rfl, ?_, hk⟩
  have h := LinksAt.of_rows hr (fun k hk => by
    obtain ⟨x, hx, rfl⟩ := List.mem_map.1 hk
    exact (hg x hx).id.1) (by simpa using hn)
  rw [List.length_map] at h
  exact h
theorem tagChM (t : TagL) (w : World) (hg : t.Good) : Calls Tryz.prog 159 #[.agg t.row.toArray] w (ChM w [LinkL.mk t.target t.kind]) := by
  refine (tagChildren_any t w hg).mono ?_
  rintro e w' ⟨b, rfl, hr, _, hk⟩
  exact ⟨_, _, _, rfl, LinksAt.of_rows (ks := [LinkL.mk t.target t.kind]) hr (fun k hk => by rw [List.mem_singleton.1 hk]; exact hg.target.1) (by simp), hk⟩
theorem comChM (c : ComL) (pv : Value) (w : World) (hp : IdsAt w pv c.parents) (hg : c.Good) (hn : c.parents.length ≤ 8) : Calls Tryz.prog 153 #[.agg (c.row pv).toArray] w (ChM w (linksC c)) := by
  refine (comChildren_any c pv w hp hg (by omega)).mono ?_
  rintro e w' ⟨v, rfl, hr, hk⟩
  obtain ⟨la, lc, rfl⟩ := owns_form hr
  refine ⟨_, _, _, rfl, hr.rows (fun k hk => ?_) ?_, hk⟩
  · rcases List.mem_cons.1 hk with rfl | hk
    · exact hg.tree.1
    · obtain ⟨p, hp, rfl⟩ := List.mem_map.1 hk
      exact (hg.parents p hp).1
  · unfold linksC
    simp
    omega

/-- What a Children answers. -/
def ChA [TabC] (w : World) (xs : List Int) (e : Ending) (w' : World) : Prop := ∃ lv, e = .returned (.tuple #[lv, .int .i64 (parErr xs)]) ∧ LinksAt w' lv (chX xs) ∧ Kept [] w w'

set_option maxRecDepth 100000 in
set_option maxHeartbeats 2000000 in
theorem children1 [TabC] (v : Value) (xs : List Int) (w : World) (hf : ∃ ao n c, v = .slice ao n c) (her : parErr xs = 0) (hk : xAt xs 0 = 1) (hrd : Calls Tryz.prog 43 #[v] w (ReadA w xs)) : Calls Tryz.prog 27 #[v] w (ChA w xs) := by
  have hm1 := meth_blob_children
  obtain ⟨ao, n, c, rfl⟩ := hf
  go_enter Tryz.func27, Tryz.ntmps27
  go_wp2_with fail
  go_at_call 43
  refine hrd.mono ?_
  rintro e w1 ⟨k1, _, hok⟩
  obtain ⟨bv, ev, pv, rfl, hg, _⟩ := hok her
  have hb := guess_bounds her bv ev pv
  have hok1 : (guessO xs bv ev pv).kind = 1 := by rw [guessO_kind (by omega)]; exact hk
  have HC : Hid (chX xs = ([] : List LinkL)) := by
    show _ = _
    unfold chX
    rw [if_pos her, ← linksO_same xs bv ev pv]
    unfold linksO
    rw [hok1]
    rfl
  have hcv : conV (guessO xs bv ev pv) = .iface 110 (guessO xs bv ev pv).bv := by
    unfold conV
    rw [hok1]
    rfl
  have hch : Calls Tryz.prog 134 #[(guessO xs bv ev pv).bv] w1 (ChM w1 ([] : List LinkL)) := blobChildren _ _
  have HK : Hid (Kept [] w w1) := k1
  have HPE : Hid (parErr xs = 0) := her
  rw [hcv]
  rw [← HC.out] at hch
  clear hrd hok hg hb hok1 hcv k1 her hk HC
  generalize (guessO xs bv ev pv).bv = cv at *
  go_wp2_with (go_at_call 134; refine hch.mono ?_; rintro e w2 ⟨la, ln, lc, rfl, hl2, k2⟩
               have HK2 : Hid (Kept [] w w2) := HK.out.then k2
               have HL2 : Hid (LinksAt w2 (.slice la ln lc) (chX xs)) := hl2
               clear hl2 k2)
  exact bodyPost_ret (v := .tuple #[.slice la ln lc, .int .i64 0]) (by simp [results, Tryz.results27, go_sem]) rfl ⟨_, by rw [HPE.out], HL2.out, HK2.out⟩
set_option maxRecDepth 100000 in
set_option maxHeartbeats 2000000 in
theorem children2 [TabC] (v : Value) (xs : List Int) (w : World) (hf : ∃ ao n c, v = .slice ao n c) (her : parErr xs = 0) (hk : xAt xs 0 = 2) (hrd : Calls Tryz.prog 43 #[v] w (ReadA w xs)) : Calls Tryz.prog 27 #[v] w (ChA w xs) := by
  have hm1 := meth_tree_children
  obtain ⟨ao, n, c, rfl⟩ := hf
  go_enter Tryz.func27, Tryz.ntmps27
  go_wp2_with fail
  go_at_call 43
  refine hrd.mono ?_
  rintro e w1 ⟨k1, _, hok⟩
  obtain ⟨bv, ev, pv, rfl, hg, _⟩ := hok her
  have hb := guess_bounds her bv ev pv
  have hok1 : (guessO xs bv ev pv).kind = 2 := by rw [guessO_kind (by omega)]; exact hk
  have HC : Hid (chX xs = ((guessO xs bv ev pv).es.map linkOf)) := by
    show _ = _
    unfold chX
    rw [if_pos her, ← linksO_same xs bv ev pv]
    unfold linksO
    rw [hok1]
    rfl
  have hcv : conV (guessO xs bv ev pv) = .iface 112 (guessO xs bv ev pv).ev := by
    unfold conV
    rw [hok1]
    rfl
  have hch : Calls Tryz.prog 137 #[(guessO xs bv ev pv).ev] w1 (ChM w1 ((guessO xs bv ev pv).es.map linkOf)) := treeChM _ _ _ hg.ev hg.es hb.1
  have HK : Hid (Kept [] w w1) := k1
  have HPE : Hid (parErr xs = 0) := her
  rw [hcv]
  rw [← HC.out] at hch
  clear hrd hok hg hb hok1 hcv k1 her hk HC
  generalize (guessO xs bv ev pv).ev = cv at *
  go_wp2_with (go_at_call 137; refine hch.mono ?_; rintro e w2 ⟨la, ln, lc, rfl, hl2, k2⟩
               have HK2 : Hid (Kept [] w w2) := HK.out.then k2
               have HL2 : Hid (LinksAt w2 (.slice la ln lc) (chX xs)) := hl2
               clear hl2 k2)
  exact bodyPost_ret (v := .tuple #[.slice la ln lc, .int .i64 0]) (by simp [results, Tryz.results27, go_sem]) rfl ⟨_, by rw [HPE.out], HL2.out, HK2.out⟩
set_option maxRecDepth 100000 in
set_option maxHeartbeats 2000000 in
theorem children3 [TabC] (v : Value) (xs : List Int) (w : World) (hf : ∃ ao n c, v = .slice ao n c) (her : parErr xs = 0) (hk : xAt xs 0 = 3) (hrd : Calls Tryz.prog 43 #[v] w (ReadA w xs)) : Calls Tryz.prog 27 #[v] w (ChA w xs) := by
  have hm1 := meth_commit_children
  obtain ⟨ao, n, c, rfl⟩ := hf
  go_enter Tryz.func27, Tryz.ntmps27
  go_wp2_with fail
  go_at_call 43
  refine hrd.mono ?_
  rintro e w1 ⟨k1, _, hok⟩
  obtain ⟨bv, ev, pv, rfl, hg, _⟩ := hok her
  have hb := guess_bounds her bv ev pv
  have hok1 : (guessO xs bv ev pv).kind = 3 := by rw [guessO_kind (by omega)]; exact hk
  have HC : Hid (chX xs = (linksC (guessO xs bv ev pv).com)) := by
    show _ = _
    unfold chX
    rw [if_pos her, ← linksO_same xs bv ev pv]
    unfold linksO
    rw [hok1]
    rfl
  have hcv : conV (guessO xs bv ev pv) = .iface 114 (Value.agg ((guessO xs bv ev pv).com.row (guessO xs bv ev pv).pv).toArray) := by
    unfold conV
    rw [hok1]
    rfl
  have hch : Calls Tryz.prog 153 #[(Value.agg ((guessO xs bv ev pv).com.row (guessO xs bv ev pv).pv).toArray)] w1 (ChM w1 (linksC (guessO xs bv ev pv).com)) := comChM _ _ _ hg.pv hg.com hb.2
  have HK : Hid (Kept [] w w1) := k1
  have HPE : Hid (parErr xs = 0) := her
  rw [hcv]
  rw [← HC.out] at hch
  clear hrd hok hg hb hok1 hcv k1 her hk HC
  generalize (Value.agg ((guessO xs bv ev pv).com.row (guessO xs bv ev pv).pv).toArray) = cv at *
  go_wp2_with (go_at_call 153; refine hch.mono ?_; rintro e w2 ⟨la, ln, lc, rfl, hl2, k2⟩
               have HK2 : Hid (Kept [] w w2) := HK.out.then k2
               have HL2 : Hid (LinksAt w2 (.slice la ln lc) (chX xs)) := hl2
               clear hl2 k2)
  exact bodyPost_ret (v := .tuple #[.slice la ln lc, .int .i64 0]) (by simp [results, Tryz.results27, go_sem]) rfl ⟨_, by rw [HPE.out], HL2.out, HK2.out⟩
set_option maxRecDepth 100000 in
set_option maxHeartbeats 2000000 in
theorem children4 [TabC] (v : Value) (xs : List Int) (w : World) (hf : ∃ ao n c, v = .slice ao n c) (her : parErr xs = 0) (hk : xAt xs 0 = 4) (hrd : Calls Tryz.prog 43 #[v] w (ReadA w xs)) : Calls Tryz.prog 27 #[v] w (ChA w xs) := by
  have hm1 := meth_tag_children
  obtain ⟨ao, n, c, rfl⟩ := hf
  go_enter Tryz.func27, Tryz.ntmps27
  go_wp2_with fail
  go_at_call 43
  refine hrd.mono ?_
  rintro e w1 ⟨k1, _, hok⟩
  obtain ⟨bv, ev, pv, rfl, hg, _⟩ := hok her
  have hb := guess_bounds her bv ev pv
  have hok1 : (guessO xs bv ev pv).kind = 4 := by rw [guessO_kind (by omega)]; exact hk
  have HC : Hid (chX xs = [LinkL.mk (guessO xs bv ev pv).tag.target (guessO xs bv ev pv).tag.kind]) := by
    show _ = _
    unfold chX
    rw [if_pos her, ← linksO_same xs bv ev pv]
    unfold linksO
    rw [hok1]
    rfl
  have hcv : conV (guessO xs bv ev pv) = .iface 116 (Value.agg (guessO xs bv ev pv).tag.row.toArray) := by
    unfold conV
    rw [hok1]
    rfl
  have hch : Calls Tryz.prog 159 #[(Value.agg (guessO xs bv ev pv).tag.row.toArray)] w1 (ChM w1 [LinkL.mk (guessO xs bv ev pv).tag.target (guessO xs bv ev pv).tag.kind]) := tagChM _ _ hg.tag
  have HK : Hid (Kept [] w w1) := k1
  have HPE : Hid (parErr xs = 0) := her
  rw [hcv]
  rw [← HC.out] at hch
  clear hrd hok hg hb hok1 hcv k1 her hk HC
  generalize (Value.agg (guessO xs bv ev pv).tag.row.toArray) = cv at *
  go_wp2_with (go_at_call 159; refine hch.mono ?_; rintro e w2 ⟨la, ln, lc, rfl, hl2, k2⟩
               have HK2 : Hid (Kept [] w w2) := HK.out.then k2
               have HL2 : Hid (LinksAt w2 (.slice la ln lc) (chX xs)) := hl2
               clear hl2 k2)
  exact bodyPost_ret (v := .tuple #[.slice la ln lc, .int .i64 0]) (by simp [results, Tryz.results27, go_sem]) rfl ⟨_, by rw [HPE.out], HL2.out, HK2.out⟩

set_option maxRecDepth 100000 in
set_option maxHeartbeats 2000000 in
theorem Children_any [TabC] (v : Value) (xs : List Int) (w : World) (hv : BytesAt w v xs) (ho : Octs xs) (hT : Tabs w) : Calls Tryz.prog 27 #[v] w (ChA w xs) := by
  have hrd := read_any v xs w hv ho hT
  obtain ⟨ao, cap, rfl, _⟩ := hv
  by_cases her : parErr xs = 0
  · obtain ⟨_, hk1, hk4⟩ := parErr_zero her
    rcases (by omega : xAt xs 0 = 1 ∨ xAt xs 0 = 2 ∨ xAt xs 0 = 3 ∨ xAt xs 0 = 4) with h | h | h | h
    · exact children1 _ xs w ⟨_, _, _, rfl⟩ her h hrd
    · exact children2 _ xs w ⟨_, _, _, rfl⟩ her h hrd
    · exact children3 _ xs w ⟨_, _, _, rfl⟩ her h hrd
    · exact children4 _ xs w ⟨_, _, _, rfl⟩ her h hrd
  · have hne0 : (parErr xs != 0) = true := bne_iff_ne.2 her
    have HC : Hid (chX xs = []) := by show _ = _; unfold chX; rw [if_neg her]
    clear ho hT
    go_enter Tryz.func27, Tryz.ntmps27
    go_wp2_with fail
    go_at_call 43
    refine hrd.mono ?_
    rintro e w1 ⟨k1, hbad, _⟩
    obtain rfl := hbad her
    have HK : Hid (Kept [] w w1) := k1
    obtain ⟨er, hee⟩ : ∃ er, er = parErr xs := ⟨_, rfl⟩
    rw [← hee] at hne0 ⊢
    have HEE : Hid (er = parErr xs) := hee
    clear hrd k1 hbad hee her
    go_wp2
    exact bodyPost_ret (v := .tuple #[.slice none 0 0, .int .i64 er]) (by simp [results, Tryz.results27, go_sem]) rfl ⟨_, by rw [HEE.out], by rw [HC.out]; exact LinksAt.nil _, HK.out⟩
end Go.Proofs.YtbphibolgckmnaaGreatDoor

namespace Go.Proofs.YtbphibolgckmnaaGreatDoor
open Go.RowKit

theorem part_id (xs : List Value) (ys : List Int) (off : Nat) (hx : (xs.drop off).take 32 = ys.map (Value.int .u8)) (W : World) : (part 29 xs.toArray off).run Tryz.prog W = .ok (.agg (idC ys)) W := by
  have hu := run_underlying (P := Tryz.prog) (w := W) Tryz.underlying29
  obtain ⟨i, hi, hs⟩ := Option.map_eq_some_iff.1 Tryz.infoID
  simp [part, isAgg, hu, sizeOf, typeInfo, hi, hs, hx, idC]
theorem idSelf (d : Nat) (xs : List Int) (W : World) (hx : xs.length = 32) : (Op.equalIn (d + 1 + 1) 29 (.agg (idC xs)) (.agg (idC xs))).run Tryz.prog W = .ok true W := by
  obtain ⟨i, hi⟩ := Option.isSome_iff_exists.1 Tryz.hasU8
  rw [run_equalIn_array W (d + 1) _ _ Tryz.underlying29 hi, Tryz.cellsU8, items_id xs xs W d (List.range 32) (fun j hj => by rw [hx]; have := List.mem_range.1 hj; omega)]
  simp
theorem eqF_step {P : Program} {d : Nat} {xs : Array Value} {f : Field} {fs : List Field} {W : World} {a : Value} (hn : f.name ≠ "_") (ha : (part f.type xs f.offset).run P W = .ok a W) (he : (Op.equalIn d f.type a a).run P W = .ok true W) :
    (Op.eqFields d xs xs (f :: fs)).run P W = (Op.eqFields d xs xs fs).run P W := by
  simp [Op.eqFields, hn, ha, he]
theorem plainInt : Tryz.prog.plainKey 3 = true := by kernel_rfl
theorem selfInt (d : Nat) (n : Int) (W : World) : (Op.equalIn (d + 1) 3 (.int .i64 n) (.int .i64 n)).run Tryz.prog W = .ok true W := by rw [run_equalIn_int W d 3 .i64 .i64 n n Tryz.underlying3]; simp
end Go.Proofs.YtbphibolgckmnaaGreatDoor

namespace Go.Proofs.YtbphibolgckmnaaGreatDoor
open Go.RowKit

set_option maxRecDepth 100000 in
theorem linkEq (k : LinkL) (h : k.id.length = 32) (W : World) : (Op.equalIn 10000 100 (.agg k.row.toArray) (.agg k.row.toArray)).run Tryz.prog W = .ok true W := by
  have hf : Tryz.prog.underlying 100 = some (.struct (Tryz.prog.fieldsOf 100)) := by kernel_rfl
  have hp : Tryz.prog.stoodInHeld 100 = false := by kernel_rfl
  have hfs := TypeDesc.struct.inj (Option.some.inj (hf.symm.trans Tryz.underlying100))
  rw [show (10000 : Nat) = 9997 + 1 + 1 + 1 from rfl, run_equalIn_struct W (9997 + 1 + 1) 100 _ _ hf hp, hfs]
  refine (eqF_step (by decide) (part_id k.row k.id 0 (by
    unfold LinkL.row
    rw [List.drop_zero, List.take_left' (by rw [List.length_map, h])]) W) (idSelf 9997 k.id W h)).trans ?_
  refine (eqF_step (by decide) (run_part_plain W plainInt (v := .int .i64 k.kind) (by
    show k.row.toArray[32]? = some (.int .i64 k.kind)
    rw [List.getElem?_toArray]
    unfold LinkL.row
    rw [List.getElem?_append_right (by rw [List.length_map, h]; omega), List.length_map, h]
    rfl)) (selfInt _ _ W)).trans ?_
  rfl
theorem run_link_neq (x y : Operand) (A B : Array Value) (W : World) (r : Bool) (hr : (Op.equalIn 10000 100 (.agg A) (.agg B)).run Tryz.prog W = .ok r W) :
    Sem.run Tryz.prog (do eqGuard BinOp.neq 100 x y (Value.agg A) (Value.agg B); binOp BinOp.neq 100 (Value.agg A) (Value.agg B)) W = .ok (.bool !r) W := by
  have hm : Tryz.prog.eqGuardType Tryz.prog.depth 100 = false := by kernel_rfl
  rw [Sem.run_bind, run_eqGuard_agg W .neq 100 x y A B hm, Result.andThen_ok, run_neq_struct W 100 A B, hr]
  rfl
section
variable {ops : Array Oper} {C : World → Prop} {Q : Act → Prop} {rest : List Oper} {o : Oper} {a : Act}
theorem quiet_neqK (hw : Region.wanted o (yielded ops a.tmps) = true) (x y : Operand) (rt : TypeId) (ho : o.op = .binOp .neq 100 x y rt) (A B : Array Value) (hx : a.eval x = .agg A) (hy : a.eval y = .agg B) (r : Bool)
    (hr : ∀ W, (Op.equalIn 10000 100 (.agg A) (.agg B)).run Tryz.prog W = .ok r W) (h : wpQuiet Tryz.prog ops C Q rest (a.put o.dst (.bool !r))) : wpQuiet Tryz.prog ops C Q (o :: rest) a := by
  refine quiet_val hw (.bool !r) (fun W => ?_) h
  unfold execOp
  simp only [ho, hx, hy]
  rw [Sem.run_bind, run_link_neq x y A B W r (hr W)]
  rfl
end
theorem LinksAt.form {w : World} {v : Value} {ks : List LinkL} (h : LinksAt w v ks) : ∃ ao cap, v = .slice ao ks.length cap ∧ ks.length ≤ cap ∧ ks.length ≤ 140737488351232 ∧ (ks ≠ [] → ∃ b off, ao = some ⟨b, off, none⟩ ∧ ∀ (i : Nat) (k : LinkL), ks[i]? = some k → w.rangeAt b (off + i * 33) k.row) := by
  obtain ⟨ao, cap, hv, h1, _, h3, h4⟩ := h
  rw [List.length_map] at hv h1 h3
  refine ⟨ao, cap, hv, h1, h3, fun hne => ?_⟩
  obtain ⟨b, off, hb, hh⟩ := h4 (by simpa using hne)
  exact ⟨b, off, hb, fun i k hk => hh i k.row (by rw [List.getElem?_map, hk]; rfl)⟩
theorem LinksAt.kept {w w' : World} {v : Value} {ks : List LinkL} (h : LinksAt w v ks) (k : Kept [] w w') : LinksAt w' v ks := RowsAt.keep h k (fun _ _ _ => by simp)

end Go.Proofs.YtbphibolgckmnaaGreatDoor
