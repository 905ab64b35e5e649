/-
  WALKS: object.Kind, satchelref3.Kind, of any bytes.
  WALK: satchelref3.Children, of any bytes.
  WALK: object.Children, of any bytes.
  A struct held against itself: entries, tags.
  Two entries compared within a region that is walked once.
  WALK: satchellaw3.sameLinks, of two lists that tell the same.
-/
import Derived.Test.YtfcoeinhfdbcgaaGreatDoorGp5
import Derived.Test.YtfcoeinhfdbcgaaGreatDoorLk1
import Derived.Test.YtfcoeinhfdbcgaaGreatDoorPar0
import Derived.Test.YtfcoeinhfdbcgaaGreatDoorRCopy
import Derived.Test.YtfcoeinhfdbcgaaGreatDoorCom0
import Derived.Laws.StructEq
import Derived.Test.YtfcoeinhfdbcgaaGreatDoorEnt1
namespace Go.Proofs.YtfcoeinhfdbcgaaGreatDoor
open Go.RowKit

/-- The kind of bytes; 0: they are no encoding. -/
def kindX (xs : List Int) : Int := if parErr xs = 0 then xAt xs 0 else 0
theorem guessO_kind {xs : List Int} (hk : 1 ≤ xAt xs 0 ∧ xAt xs 0 ≤ 4) (bv ev pv : Value) : (guessO xs bv ev pv).kind = xAt xs 0 := by
  unfold guessO
  split
  · rename_i h; exact h.symm
  · split
    · rename_i h; exact h.symm
    · split
      · rename_i h; exact h.symm
      · show (4 : Int) = _
        omega

set_option maxRecDepth 100000 in
set_option maxHeartbeats 2000000 in
theorem Kind_any (v : Value) (xs : List Int) (w : World) (hv : BytesAt w v xs) (ho : Octs xs) (hT : Tabs w) : Calls Tryz.prog 13 #[v] w fun e w' => e = .returned (.int .i64 (kindX xs)) ∧ Kept [] w w' := by
  have hrd := read_any v xs w hv ho hT
  by_cases her : parErr xs = 0
  · obtain ⟨_, hk1, hk4⟩ := parErr_zero her
    have hke : kindX xs = xAt xs 0 := by unfold kindX; rw [if_pos her]
    rw [hke]
    rcases hv.parts with ⟨rfl, _⟩ | ⟨b, off, cap, rfl, _, hpos, hcell⟩
    · exact absurd hk1 (by decide)
    have hc0 : w.cell? ⟨b, off, none⟩ = some (.int .u8 (xAt xs 0)) := by have h := hcell 0 hpos; rw [Nat.add_zero] at h; exact h
    have hl0 : ¬ xs.length = 0 := by omega
    have hl2 : (0 : Int) < (xs.length : Int) := by omega
    have hw : IntKind.i64.wrap (xAt xs 0) = xAt xs 0 := by rw [IntKind.wrap_i64]; omega
    clear hcell hv ho hT
    go_enter Tryz.func13, Tryz.ntmps13
    go_wp2_with fail
    go_at_call 29
    refine hrd.mono ?_
    rintro e w1 ⟨k1, _, hok⟩
    obtain ⟨bv, ev, pv, rfl, _, _⟩ := hok her
    have c1 := k1.cell hc0 (by simp)
    have HK : Hid (Kept [] w w1) := k1
    clear hrd k1 hok hc0
    generalize conV (guessO xs bv ev pv) = cv at *
    generalize hx : xAt xs 0 = x at *
    have HX : Hid (xAt xs 0 = x) := hx
    clear hx
    go_wp2
    go_ret
    exact ⟨by rw [HX.out]; rfl, HK.out⟩
  · have hke : kindX xs = 0 := by unfold kindX; rw [if_neg her]
    rw [hke]
    have hne0 : (parErr xs != 0) = true := bne_iff_ne.2 her
    obtain ⟨ao, cap, rfl, _⟩ := hv
    clear ho hT hke
    go_enter Tryz.func13, Tryz.ntmps13
    go_wp2_with fail
    go_at_call 29
    refine hrd.mono ?_
    rintro e w1 ⟨k1, hbad, _⟩
    obtain rfl := hbad her
    have HK : Hid (Kept [] w w1) := k1
    clear hrd k1 hbad
    generalize parErr xs = er at *
    go_wp2
    go_ret
    exact ⟨rfl, HK.out⟩

set_option maxRecDepth 100000 in
set_option maxHeartbeats 2000000 in
theorem R3Kind_any (v : Value) (xs : List Int) (w : World) (hv : BytesAt w v xs) (ho : Octs xs) (hm : xs.length ≤ 140737488351232) : Calls Tryz.prog 19 #[v] w fun e w' => e = .returned (.int .i64 (kindX xs)) ∧ Kept [] w w' := by
  have hpa := R3Parse_any v xs w hv ho hm
  obtain ⟨ao, cap, rfl, _⟩ := hv
  go_enter Tryz.func19, Tryz.ntmps19
  go_wp2_with fail
  go_at_call 18
  refine hpa.mono ?_
  rintro e w1 ⟨o, rfl, hg, k1, z1, z2⟩
  have hkd : o.kind = kindX xs := by
    unfold kindX
    by_cases her : parErr xs = 0
    · obtain ⟨_, hk⟩ := parErr_zero her
      obtain ⟨bv, ev, pv, rfl⟩ := z1 her
      rw [if_pos her]
      exact guessO_kind hk bv ev pv
    · rw [if_neg her, z2 her]
      rfl
  have hoz : o.row.toArray.size = 76 := by rw [List.size_toArray]; exact objL_len hg.com.tree.1 hg.tag.target.1
  have hos : (Tryz.prog.info? 37).map (·.size) = some o.row.toArray.size := by rw [hoz]; kernel_rfl
  have hozz : Tryz.zeroCells37.size = o.row.toArray.size := by rw [hoz]; kernel_rfl
  have ho1 : o.row.toArray.all (·.oneCell') = true := objL_one hg
  have c0 := (obj_cells (o := o) hg.com.tree.1 (heap_alloc_new w1 (.cells o.row.toArray 37))).1
  rw [hkd] at c0
  have HK : Hid (Kept [] w (w1.alloc (.cells o.row.toArray 37))) := k1.alloc _
  clear hpa z1 z2 hkd hg k1 hoz
  generalize o.row.toArray = orr at *
  generalize parErr xs = er at *
  generalize hkx : kindX xs = kx at *
  have HKX : Hid (kindX xs = kx) := hkx
  clear hkx
  go_wp2_with (refine wpList_store_new (by rfl) 37 (.tmp 3) (.tmp 8) (by rfl) w1 _ orr (by rfl) (by rfl) hos hozz ho1 ?_)
  go_ret
  exact ⟨by rw [HKX.out]; rfl, HK.out⟩
end Go.Proofs.YtfcoeinhfdbcgaaGreatDoor

namespace Go.Proofs.YtfcoeinhfdbcgaaGreatDoor
open Go.RowKit

/-- What bytes name; none, if they are no encoding. -/
def chX (xs : List Int) : List LinkL := if parErr xs = 0 then linksO (guessO xs nilV nilV nilV) else []
theorem linksO_same (xs : List Int) (bv ev pv : Value) : linksO (guessO xs bv ev pv) = linksO (guessO xs nilV nilV nilV) := by
  unfold guessO
  split
  · rfl
  · split
    · rfl
    · split
      · rfl
      · rfl
theorem parErr_fault {xs : List Int} (h : parErr xs = 0) : faultO (guessO xs nilV nilV nilV) = 0 := by
  unfold parErr at h
  split at h
  · exact absurd h (by decide)
  · split at h
    · exact absurd h (by decide)
    · split at h
      · rename_i h3
        unfold gOk at h3
        exact of_decide_eq_true (Bool.and_eq_true_iff.1 h3).1
      · exact absurd h (by decide)
theorem guess_bounds {xs : List Int} (h : parErr xs = 0) (bv ev pv : Value) : (guessO xs bv ev pv).es.length ≤ 1024 ∧ (guessO xs bv ev pv).com.parents.length ≤ 8 := by
  have hf := parErr_fault h
  have z1 : ([] : List EntL).length ≤ 1024 := by decide
  have z2 : ([] : List (List Int)).length ≤ 8 := by decide
  unfold guessO at hf ⊢
  split
  · exact ⟨z1, z2⟩
  · rename_i h1
    rw [if_neg h1] at hf
    split
    · rename_i h2
      rw [if_pos h2] at hf
      exact ⟨(faultT_zero hf).1, z2⟩
    · rename_i h2
      rw [if_neg h2] at hf
      split
      · rename_i h3
        rw [if_pos h3] at hf
        exact ⟨z1, (faultC_zero hf).1⟩
      · exact ⟨z1, z2⟩

/-- Links, as a slice tells them. -/
def LinksAt (w : World) (v : Value) (ks : List LinkL) : Prop := RowsAt w v 33 (ks.map LinkL.row)
theorem links_id {o : ObjL} {w : World} (hg : o.Good w) : ∀ k, k ∈ linksO o → k.id.length = 32 := fun k hk => by
  unfold linksO at hk
  split at hk
  · obtain ⟨e, he, rfl⟩ := List.mem_map.1 hk
    exact (hg.es e he).id.1
  · split at hk
    · rcases List.mem_cons.1 hk with rfl | hk
      · exact hg.com.tree.1
      · obtain ⟨p, hp, rfl⟩ := List.mem_map.1 hk
        exact (hg.com.parents p hp).1
    · split at hk
      · rw [List.mem_singleton.1 hk]; exact hg.tag.target.1
      · cases hk
theorem links_len {o : ObjL} (hn : o.es.length ≤ 1024) (hp : o.com.parents.length ≤ 8) : (linksO o).length ≤ 1024 := by
  unfold linksO linksC
  split
  · simpa using hn
  · split
    · simp; omega
    · split
      · simp
      · simp
theorem LinksAt.nil (w : World) : LinksAt w (.slice none 0 0) [] := ⟨none, 0, rfl, Nat.le_refl _, fun _ => rfl, by decide, fun h => absurd rfl h⟩

set_option maxRecDepth 100000 in
set_option maxHeartbeats 2000000 in
theorem R3Children_any (v : Value) (xs : List Int) (w : World) (hv : BytesAt w v xs) (ho : Octs xs) (hm : xs.length ≤ 140737488351232) :
    Calls Tryz.prog 20 #[v] w fun e w' => ∃ lv, e = .returned (.tuple #[lv, .int .i64 (parErr xs)]) ∧ LinksAt w' lv (chX xs) ∧ Kept [] w w' := by
  have hpa := R3Parse_any v xs w hv ho hm
  obtain ⟨ao, cap, rfl, _⟩ := hv
  have hun := Tryz.underlying37
  go_enter Tryz.func20, Tryz.ntmps20
  go_wp2_with fail
  go_at_call 18
  refine hpa.mono ?_
  rintro e w1 ⟨o, rfl, hg, k1, z1, z2⟩
  have hoz : o.row.toArray.size = 76 := by rw [List.size_toArray]; exact objL_len hg.com.tree.1 hg.tag.target.1
  have hos : (Tryz.prog.info? 37).map (·.size) = some o.row.toArray.size := by rw [hoz]; kernel_rfl
  have hol : (Tryz.prog.info? 37).map (·.size) = some o.row.length := by rw [hos, List.size_toArray]
  have hozz : Tryz.zeroCells37.size = o.row.toArray.size := by rw [hoz]; kernel_rfl
  have ho1 : o.row.toArray.all (·.oneCell') = true := objL_one hg
  have kA : Kept [] w1 (w1.alloc (.cells o.row.toArray 37)) := (Kept.refl _ _).alloc _
  have hbx : (w1.alloc (.cells o.row.toArray 37)).rangeAt w1.heap.size 0 o.row := row_range (heap_alloc_new w1 _)
  have HK : Hid (Kept [] w (w1.alloc (.cells o.row.toArray 37))) := k1.alloc _
  by_cases her : parErr xs = 0
  · obtain ⟨bv, ev, pv, hoe⟩ := z1 her
    have hb := guess_bounds her bv ev pv
    rw [← hoe] at hb
    have hgA : ObjL.Good (w1.alloc (.cells o.row.toArray 37)) o := hg.kept kA
    have HC : Hid (chX xs = linksO o) := by show _ = _; unfold chX; rw [if_pos her, hoe, linksO_same xs bv ev pv]
    have HLI : Hid ((∀ k, k ∈ linksO o → k.id.length = 32) ∧ (linksO o).length ≤ 1024) := ⟨links_id hg, links_len hb.1 hb.2⟩
    have hln := R3Links_any o _ hgA hb.1 (by omega)
    have HPE : Hid (parErr xs = 0) := her
    rw [her]
    clear hpa z1 z2 hoe hg hgA k1 kA hoz her hb
    generalize linksO o = lo at *
    generalize o.row = orr at *
    go_wp2_with (first
      | (refine wpList_store_new (by rfl) 37 (.tmp 4) (.tmp 9) (by rfl) w1 _ orr.toArray (by rfl) (by rfl) hos hozz ho1 ?_)
      | (refine wpList_load_mid (by rfl) 37 (.tmp 4) (by rfl) w1.heap.size 0 (by rfl) orr _ hbx hun rfl hol ?_)
      | (go_at_call 38; refine hln.mono ?_; rintro e w2 ⟨lv, rfl, hl2, k2⟩
         have HK2 : Hid (Kept [] w w2) := HK.out.then k2
         have HL2 : Hid (LinksAt w2 lv lo) := hl2.rows HLI.out.1 (by have := HLI.out.2; omega)
         obtain ⟨la, lc, rfl⟩ := owns_form hl2
         clear hl2 k2))
    exact bodyPost_ret (v := .tuple #[.slice la lo.length lc, .int .i64 0]) (by simp [results, Tryz.results20, go_sem]) rfl ⟨_, by rw [HPE.out], by rw [HC.out]; exact HL2.out, HK2.out⟩
  · have HC : Hid (chX xs = []) := by show _ = _; unfold chX; rw [if_neg her]
    have hne0 : (parErr xs != 0) = true := bne_iff_ne.2 her
    clear hpa z1 z2 hg k1 hoz her kA
    generalize o.row = orr at *
    obtain ⟨er, hee⟩ : ∃ er, er = parErr xs := ⟨_, rfl⟩
    rw [← hee] at hne0 ⊢
    have HEE : Hid (er = parErr xs) := hee
    clear hee
    go_wp2_with (refine wpList_store_new (by rfl) 37 (.tmp 4) (.tmp 9) (by rfl) w1 _ orr.toArray (by rfl) (by rfl) hos hozz ho1 ?_)
    exact bodyPost_ret (v := .tuple #[.slice none 0 0, .int .i64 er]) (by simp [results, Tryz.results20, go_sem]) rfl ⟨_, by rw [HEE.out], by rw [HC.out]; exact LinksAt.nil _, HK.out⟩
end Go.Proofs.YtfcoeinhfdbcgaaGreatDoor

namespace Go.Proofs.YtfcoeinhfdbcgaaGreatDoor
open Go.RowKit

theorem LinksAt.of_rows {w : World} {b : Nat} {ks : List LinkL} (h : RowsIn w b 52 (ks.map LinkL.row)) (hg : ∀ k, k ∈ ks → k.id.length = 32) (hl : ks.length ≤ 1024) : LinksAt w (.slice (some ⟨b, 0, none⟩) ks.length ks.length) ks := by
  refine ⟨_, ks.length, by rw [List.length_map], by rw [List.length_map]; exact Nat.le_refl _, fun e => (by cases e), by rw [List.length_map]; omega, fun _ => ⟨b, 0, rfl, fun i cs hi => ?_⟩⟩
  rw [Nat.zero_add]
  exact h.range 33 (by decide) (fun r hr => by
    obtain ⟨e, he, rfl⟩ := List.mem_map.1 hr
    exact LinkL.row_len (hg e he)) i cs hi
/-- What a content's own method answers. -/
def ChM (w : World) (ks : List LinkL) (e : Ending) (w' : World) : Prop := ∃ la n lc, e = .returned (.slice la n lc) ∧ LinksAt w' (.slice la n lc) ks ∧ Kept [] w w'

set_option maxRecDepth 100000 in
theorem blobChildren (v : Value) (w : World) : Calls Tryz.prog 114 #[v] w (ChM w []) := by
  go_enter Tryz.func114, Tryz.ntmps114
  go_wp2
  go_ret
  exact ⟨none, 0, 0, rfl, LinksAt.nil _, Kept.refl _ _⟩
theorem treeChM (v : Value) (es : List EntL) (w : World) (hv : EntsAt w v es) (hg : ∀ e, e ∈ es → e.Good) (hn : es.length ≤ 1024) : Calls Tryz.prog 120 #[v] w (ChM w (es.map linkOf)) := by
  refine (treeChildren_any v es w hv hg hn).mono ?_
  rintro e w' ⟨b, rfl, hr, _, hk⟩
  refine ⟨_, _, _, rfl, ?_, hk⟩
  have h := LinksAt.of_rows hr (fun k hk => by
    obtain ⟨x, hx, rfl⟩ := List.mem_map.1 hk
    exact (hg x hx).id.1) (by simpa using hn)
  rw [List.length_map] at h
  exact h
theorem tagChM (t : TagL) (w : World) (hg : t.Good) : Calls Tryz.prog 134 #[.agg t.row.toArray] w (ChM w [LinkL.mk t.target t.kind]) := by
  refine (tagChildren_any t w hg).mono ?_
  rintro e w' ⟨b, rfl, hr, _, hk⟩
  exact ⟨_, _, _, rfl, LinksAt.of_rows (ks := [LinkL.mk t.target t.kind]) hr (fun k hk => by rw [List.mem_singleton.1 hk]; exact hg.target.1) (by simp), hk⟩
theorem comChM (c : ComL) (pv : Value) (w : World) (hp : IdsAt w pv c.parents) (hg : c.Good) (hn : c.parents.length ≤ 8) : Calls Tryz.prog 127 #[.agg (c.row pv).toArray] w (ChM w (linksC c)) := by
  refine (comChildren_any c pv w hp hg (by omega)).mono ?_
  rintro e w' ⟨v, rfl, hr, hk⟩
  obtain ⟨la, lc, rfl⟩ := owns_form hr
  refine ⟨_, _, _, rfl, hr.rows (fun k hk => ?_) ?_, hk⟩
  · rcases List.mem_cons.1 hk with rfl | hk
    · exact hg.tree.1
    · obtain ⟨p, hp, rfl⟩ := List.mem_map.1 hk
      exact (hg.parents p hp).1
  · unfold linksC
    simp
    omega

/-- What a Children answers. -/
def ChA (w : World) (xs : List Int) (e : Ending) (w' : World) : Prop := ∃ lv, e = .returned (.tuple #[lv, .int .i64 (parErr xs)]) ∧ LinksAt w' lv (chX xs) ∧ Kept [] w w'

set_option maxRecDepth 100000 in
set_option maxHeartbeats 2000000 in
theorem children1 (v : Value) (xs : List Int) (w : World) (hf : ∃ ao n c, v = .slice ao n c) (her : parErr xs = 0) (hk : xAt xs 0 = 1) (hrd : Calls Tryz.prog 29 #[v] w (ReadA w xs)) : Calls Tryz.prog 10 #[v] w (ChA w xs) := by
  have hm1 := meth_blob_children
  obtain ⟨ao, n, c, rfl⟩ := hf
  go_enter Tryz.func10, Tryz.ntmps10
  go_wp2_with fail
  go_at_call 29
  refine hrd.mono ?_
  rintro e w1 ⟨k1, _, hok⟩
  obtain ⟨bv, ev, pv, rfl, hg, _⟩ := hok her
  have hb := guess_bounds her bv ev pv
  have hok1 : (guessO xs bv ev pv).kind = 1 := by rw [guessO_kind (by omega)]; exact hk
  have HC : Hid (chX xs = ([] : List LinkL)) := by
    show _ = _
    unfold chX
    rw [if_pos her, ← linksO_same xs bv ev pv]
    unfold linksO
    rw [hok1]
    rfl
  have hcv : conV (guessO xs bv ev pv) = .iface 88 (guessO xs bv ev pv).bv := by
    unfold conV
    rw [hok1]
    rfl
  have hch : Calls Tryz.prog 114 #[(guessO xs bv ev pv).bv] w1 (ChM w1 ([] : List LinkL)) := blobChildren _ _
  have HK : Hid (Kept [] w w1) := k1
  have HPE : Hid (parErr xs = 0) := her
  rw [hcv]
  rw [← HC.out] at hch
  clear hrd hok hg hb hok1 hcv k1 her hk HC
  generalize (guessO xs bv ev pv).bv = cv at *
  go_wp2_with (go_at_call 114; refine hch.mono ?_; rintro e w2 ⟨la, ln, lc, rfl, hl2, k2⟩
               have HK2 : Hid (Kept [] w w2) := HK.out.then k2
               have HL2 : Hid (LinksAt w2 (.slice la ln lc) (chX xs)) := hl2
               clear hl2 k2)
  exact bodyPost_ret (v := .tuple #[.slice la ln lc, .int .i64 0]) (by simp [results, Tryz.results10, go_sem]) rfl ⟨_, by rw [HPE.out], HL2.out, HK2.out⟩
set_option maxRecDepth 100000 in
set_option maxHeartbeats 2000000 in
theorem children2 (v : Value) (xs : List Int) (w : World) (hf : ∃ ao n c, v = .slice ao n c) (her : parErr xs = 0) (hk : xAt xs 0 = 2) (hrd : Calls Tryz.prog 29 #[v] w (ReadA w xs)) : Calls Tryz.prog 10 #[v] w (ChA w xs) := by
  have hm1 := meth_tree_children
  obtain ⟨ao, n, c, rfl⟩ := hf
  go_enter Tryz.func10, Tryz.ntmps10
  go_wp2_with fail
  go_at_call 29
  refine hrd.mono ?_
  rintro e w1 ⟨k1, _, hok⟩
  obtain ⟨bv, ev, pv, rfl, hg, _⟩ := hok her
  have hb := guess_bounds her bv ev pv
  have hok1 : (guessO xs bv ev pv).kind = 2 := by rw [guessO_kind (by omega)]; exact hk
  have HC : Hid (chX xs = ((guessO xs bv ev pv).es.map linkOf)) := by
    show _ = _
    unfold chX
    rw [if_pos her, ← linksO_same xs bv ev pv]
    unfold linksO
    rw [hok1]
    rfl
  have hcv : conV (guessO xs bv ev pv) = .iface 89 (guessO xs bv ev pv).ev := by
    unfold conV
    rw [hok1]
    rfl
  have hch : Calls Tryz.prog 120 #[(guessO xs bv ev pv).ev] w1 (ChM w1 ((guessO xs bv ev pv).es.map linkOf)) := treeChM _ _ _ hg.ev hg.es hb.1
  have HK : Hid (Kept [] w w1) := k1
  have HPE : Hid (parErr xs = 0) := her
  rw [hcv]
  rw [← HC.out] at hch
  clear hrd hok hg hb hok1 hcv k1 her hk HC
  generalize (guessO xs bv ev pv).ev = cv at *
  go_wp2_with (go_at_call 120; refine hch.mono ?_; rintro e w2 ⟨la, ln, lc, rfl, hl2, k2⟩
               have HK2 : Hid (Kept [] w w2) := HK.out.then k2
               have HL2 : Hid (LinksAt w2 (.slice la ln lc) (chX xs)) := hl2
               clear hl2 k2)
  exact bodyPost_ret (v := .tuple #[.slice la ln lc, .int .i64 0]) (by simp [results, Tryz.results10, go_sem]) rfl ⟨_, by rw [HPE.out], HL2.out, HK2.out⟩
set_option maxRecDepth 100000 in
set_option maxHeartbeats 2000000 in
theorem children3 (v : Value) (xs : List Int) (w : World) (hf : ∃ ao n c, v = .slice ao n c) (her : parErr xs = 0) (hk : xAt xs 0 = 3) (hrd : Calls Tryz.prog 29 #[v] w (ReadA w xs)) : Calls Tryz.prog 10 #[v] w (ChA w xs) := by
  have hm1 := meth_commit_children
  obtain ⟨ao, n, c, rfl⟩ := hf
  go_enter Tryz.func10, Tryz.ntmps10
  go_wp2_with fail
  go_at_call 29
  refine hrd.mono ?_
  rintro e w1 ⟨k1, _, hok⟩
  obtain ⟨bv, ev, pv, rfl, hg, _⟩ := hok her
  have hb := guess_bounds her bv ev pv
  have hok1 : (guessO xs bv ev pv).kind = 3 := by rw [guessO_kind (by omega)]; exact hk
  have HC : Hid (chX xs = (linksC (guessO xs bv ev pv).com)) := by
    show _ = _
    unfold chX
    rw [if_pos her, ← linksO_same xs bv ev pv]
    unfold linksO
    rw [hok1]
    rfl
  have hcv : conV (guessO xs bv ev pv) = .iface 90 (Value.agg ((guessO xs bv ev pv).com.row (guessO xs bv ev pv).pv).toArray) := by
    unfold conV
    rw [hok1]
    rfl
  have hch : Calls Tryz.prog 127 #[(Value.agg ((guessO xs bv ev pv).com.row (guessO xs bv ev pv).pv).toArray)] w1 (ChM w1 (linksC (guessO xs bv ev pv).com)) := comChM _ _ _ hg.pv hg.com hb.2
  have HK : Hid (Kept [] w w1) := k1
  have HPE : Hid (parErr xs = 0) := her
  rw [hcv]
  rw [← HC.out] at hch
  clear hrd hok hg hb hok1 hcv k1 her hk HC
  generalize (Value.agg ((guessO xs bv ev pv).com.row (guessO xs bv ev pv).pv).toArray) = cv at *
  go_wp2_with (go_at_call 127; refine hch.mono ?_; rintro e w2 ⟨la, ln, lc, rfl, hl2, k2⟩
               have HK2 : Hid (Kept [] w w2) := HK.out.then k2
               have HL2 : Hid (LinksAt w2 (.slice la ln lc) (chX xs)) := hl2
               clear hl2 k2)
  exact bodyPost_ret (v := .tuple #[.slice la ln lc, .int .i64 0]) (by simp [results, Tryz.results10, go_sem]) rfl ⟨_, by rw [HPE.out], HL2.out, HK2.out⟩
set_option maxRecDepth 100000 in
set_option maxHeartbeats 2000000 in
theorem children4 (v : Value) (xs : List Int) (w : World) (hf : ∃ ao n c, v = .slice ao n c) (her : parErr xs = 0) (hk : xAt xs 0 = 4) (hrd : Calls Tryz.prog 29 #[v] w (ReadA w xs)) : Calls Tryz.prog 10 #[v] w (ChA w xs) := by
  have hm1 := meth_tag_children
  obtain ⟨ao, n, c, rfl⟩ := hf
  go_enter Tryz.func10, Tryz.ntmps10
  go_wp2_with fail
  go_at_call 29
  refine hrd.mono ?_
  rintro e w1 ⟨k1, _, hok⟩
  obtain ⟨bv, ev, pv, rfl, hg, _⟩ := hok her
  have hb := guess_bounds her bv ev pv
  have hok1 : (guessO xs bv ev pv).kind = 4 := by rw [guessO_kind (by omega)]; exact hk
  have HC : Hid (chX xs = [LinkL.mk (guessO xs bv ev pv).tag.target (guessO xs bv ev pv).tag.kind]) := by
    show _ = _
    unfold chX
    rw [if_pos her, ← linksO_same xs bv ev pv]
    unfold linksO
    rw [hok1]
    rfl
  have hcv : conV (guessO xs bv ev pv) = .iface 91 (Value.agg (guessO xs bv ev pv).tag.row.toArray) := by
    unfold conV
    rw [hok1]
    rfl
  have hch : Calls Tryz.prog 134 #[(Value.agg (guessO xs bv ev pv).tag.row.toArray)] w1 (ChM w1 [LinkL.mk (guessO xs bv ev pv).tag.target (guessO xs bv ev pv).tag.kind]) := tagChM _ _ hg.tag
  have HK : Hid (Kept [] w w1) := k1
  have HPE : Hid (parErr xs = 0) := her
  rw [hcv]
  rw [← HC.out] at hch
  clear hrd hok hg hb hok1 hcv k1 her hk HC
  generalize (Value.agg (guessO xs bv ev pv).tag.row.toArray) = cv at *
  go_wp2_with (go_at_call 134; refine hch.mono ?_; rintro e w2 ⟨la, ln, lc, rfl, hl2, k2⟩
               have HK2 : Hid (Kept [] w w2) := HK.out.then k2
               have HL2 : Hid (LinksAt w2 (.slice la ln lc) (chX xs)) := hl2
               clear hl2 k2)
  exact bodyPost_ret (v := .tuple #[.slice la ln lc, .int .i64 0]) (by simp [results, Tryz.results10, go_sem]) rfl ⟨_, by rw [HPE.out], HL2.out, HK2.out⟩

set_option maxRecDepth 100000 in
set_option maxHeartbeats 2000000 in
theorem Children_any (v : Value) (xs : List Int) (w : World) (hv : BytesAt w v xs) (ho : Octs xs) (hT : Tabs w) : Calls Tryz.prog 10 #[v] w (ChA w xs) := by
  have hrd := read_any v xs w hv ho hT
  obtain ⟨ao, cap, rfl, _⟩ := hv
  by_cases her : parErr xs = 0
  · obtain ⟨_, hk1, hk4⟩ := parErr_zero her
    rcases (by omega : xAt xs 0 = 1 ∨ xAt xs 0 = 2 ∨ xAt xs 0 = 3 ∨ xAt xs 0 = 4) with h | h | h | h
    · exact children1 _ xs w ⟨_, _, _, rfl⟩ her h hrd
    · exact children2 _ xs w ⟨_, _, _, rfl⟩ her h hrd
    · exact children3 _ xs w ⟨_, _, _, rfl⟩ her h hrd
    · exact children4 _ xs w ⟨_, _, _, rfl⟩ her h hrd
  · have hne0 : (parErr xs != 0) = true := bne_iff_ne.2 her
    have HC : Hid (chX xs = []) := by show _ = _; unfold chX; rw [if_neg her]
    clear ho hT
    go_enter Tryz.func10, Tryz.ntmps10
    go_wp2_with fail
    go_at_call 29
    refine hrd.mono ?_
    rintro e w1 ⟨k1, hbad, _⟩
    obtain rfl := hbad her
    have HK : Hid (Kept [] w w1) := k1
    obtain ⟨er, hee⟩ : ∃ er, er = parErr xs := ⟨_, rfl⟩
    rw [← hee] at hne0 ⊢
    have HEE : Hid (er = parErr xs) := hee
    clear hrd k1 hbad hee her
    go_wp2
    exact bodyPost_ret (v := .tuple #[.slice none 0 0, .int .i64 er]) (by simp [results, Tryz.results10, go_sem]) rfl ⟨_, by rw [HEE.out], by rw [HC.out]; exact LinksAt.nil _, HK.out⟩
end Go.Proofs.YtfcoeinhfdbcgaaGreatDoor

namespace Go.Proofs.YtfcoeinhfdbcgaaGreatDoor
open Go.RowKit

theorem part_id (xs : List Value) (ys : List Int) (off : Nat) (hx : (xs.drop off).take 32 = ys.map (Value.int .u8)) (W : World) : (part 29 xs.toArray off).run Tryz.prog W = .ok (.agg (idC ys)) W := by
  have hu := run_underlying (P := Tryz.prog) (w := W) Tryz.underlying29
  obtain ⟨i, hi, hs⟩ := Option.map_eq_some_iff.1 Tryz.infoID
  simp [part, isAgg, hu, sizeOf, typeInfo, hi, hs, hx, idC]
theorem idSelf (d : Nat) (xs : List Int) (W : World) (hx : xs.length = 32) : (Op.equalIn (d + 1 + 1) 29 (.agg (idC xs)) (.agg (idC xs))).run Tryz.prog W = .ok true W := by
  obtain ⟨i, hi⟩ := Option.isSome_iff_exists.1 Tryz.hasU8
  rw [run_equalIn_array W (d + 1) _ _ Tryz.underlying29 hi, Tryz.cellsU8, items_id xs xs W d (List.range 32) (fun j hj => by rw [hx]; have := List.mem_range.1 hj; omega)]
  simp
theorem eqF_step {P : Program} {d : Nat} {xs : Array Value} {f : Field} {fs : List Field} {W : World} {a : Value} (hn : f.name ≠ "_") (ha : (part f.type xs f.offset).run P W = .ok a W) (he : (Op.equalIn d f.type a a).run P W = .ok true W) :
    (Op.eqFields d xs xs (f :: fs)).run P W = (Op.eqFields d xs xs fs).run P W := by
  simp [Op.eqFields, hn, ha, he]
theorem plainInt : Tryz.prog.plainKey 3 = true := by kernel_rfl
theorem plainStr : Tryz.prog.plainKey 9 = true := by kernel_rfl
theorem plainU64 : Tryz.prog.plainKey 31 = true := by kernel_rfl
theorem selfInt (d : Nat) (n : Int) (W : World) : (Op.equalIn (d + 1) 3 (.int .i64 n) (.int .i64 n)).run Tryz.prog W = .ok true W := by rw [run_equalIn_int W d 3 .i64 .i64 n n Tryz.underlying3]; simp
theorem selfU64 (d : Nat) (n : Int) (W : World) : (Op.equalIn (d + 1) 31 (.int .u64 n) (.int .u64 n)).run Tryz.prog W = .ok true W := by rw [run_equalIn_int W d 31 .u64 .u64 n n Tryz.underlying31]; simp
theorem selfStr (d : Nat) (s : ByteArray) (W : World) : (Op.equalIn (d + 1) 9 (.string s) (.string s)).run Tryz.prog W = .ok true W := by rw [run_equalIn_string W d 9 s s Tryz.underlying9]; simp

set_option maxRecDepth 100000 in
theorem entEq (e : EntL) (h : e.id.length = 32) (W : World) : (Op.equalIn 10000 80 (.agg e.row.toArray) (.agg e.row.toArray)).run Tryz.prog W = .ok true W := by
  have hf : Tryz.prog.underlying 80 = some (.struct (Tryz.prog.fieldsOf 80)) := by kernel_rfl
  have hp : Tryz.prog.stoodInHeld 80 = false := by kernel_rfl
  have hfs := TypeDesc.struct.inj (Option.some.inj (hf.symm.trans Tryz.underlying80))
  rw [show (10000 : Nat) = 9997 + 1 + 1 + 1 from rfl, run_equalIn_struct W (9997 + 1 + 1) 80 _ _ hf hp, hfs]
  refine (eqF_step (by decide) (run_part_plain W plainInt (v := .int .i64 e.mode) rfl) (selfInt _ _ W)).trans ?_
  refine (eqF_step (by decide) (run_part_plain W plainStr (v := .string (strOfNums e.name)) rfl) (selfStr _ _ W)).trans ?_
  refine (eqF_step (by decide) (part_id e.row e.id 2 (by
    unfold EntL.row
    show ((e.id.map (Value.int .u8)).take 32) = _
    rw [List.take_of_length_le (by rw [List.length_map]; omega)]) W) (idSelf 9997 e.id W h)).trans ?_
  rfl
theorem tag_get (t : TagL) (h : t.target.length = 32) (i : Nat) (v : Value) (hv : [Value.int .i64 t.kind, .string (strOfNums t.name), .string (strOfNums t.who), .int .u64 t.time, .string (strOfNums t.text)][i]? = some v) : t.row.toArray[32 + i]? = some v := by
  rw [List.getElem?_toArray]
  unfold TagL.row
  rw [List.getElem?_append_right (by rw [List.length_map, h]; omega), List.length_map, h, Nat.add_sub_cancel_left]
  exact hv
set_option maxRecDepth 100000 in
theorem tagEq (t : TagL) (h : t.target.length = 32) (W : World) : (Op.equalIn 10000 35 (.agg t.row.toArray) (.agg t.row.toArray)).run Tryz.prog W = .ok true W := by
  have hf : Tryz.prog.underlying 35 = some (.struct (Tryz.prog.fieldsOf 35)) := by kernel_rfl
  have hp : Tryz.prog.stoodInHeld 35 = false := by kernel_rfl
  have hfs := TypeDesc.struct.inj (Option.some.inj (hf.symm.trans Tryz.underlying35))
  rw [show (10000 : Nat) = 9997 + 1 + 1 + 1 from rfl, run_equalIn_struct W (9997 + 1 + 1) 35 _ _ hf hp, hfs]
  refine (eqF_step (by decide) (part_id t.row t.target 0 (by
    unfold TagL.row
    rw [List.drop_zero, List.take_left' (by rw [List.length_map, h])]) W) (idSelf 9997 t.target W h)).trans ?_
  refine (eqF_step (by decide) (run_part_plain W plainInt (tag_get t h 0 _ rfl)) (selfInt _ _ W)).trans ?_
  refine (eqF_step (by decide) (run_part_plain W plainStr (tag_get t h 1 _ rfl)) (selfStr _ _ W)).trans ?_
  refine (eqF_step (by decide) (run_part_plain W plainStr (tag_get t h 2 _ rfl)) (selfStr _ _ W)).trans ?_
  refine (eqF_step (by decide) (run_part_plain W plainU64 (tag_get t h 3 _ rfl)) (selfU64 _ _ W)).trans ?_
  refine (eqF_step (by decide) (run_part_plain W plainStr (tag_get t h 4 _ rfl)) (selfStr _ _ W)).trans ?_
  rfl
end Go.Proofs.YtfcoeinhfdbcgaaGreatDoor

namespace Go.Proofs.YtfcoeinhfdbcgaaGreatDoor
open Go.RowKit

theorem run_ent_neq (x y : Operand) (A B : Array Value) (W : World) (r : Bool) (hr : (Op.equalIn 10000 80 (.agg A) (.agg B)).run Tryz.prog W = .ok r W) :
    Sem.run Tryz.prog (do eqGuard BinOp.neq 80 x y (Value.agg A) (Value.agg B); binOp BinOp.neq 80 (Value.agg A) (Value.agg B)) W = .ok (.bool !r) W := by
  have hm : Tryz.prog.eqGuardType Tryz.prog.depth 80 = false := by kernel_rfl
  rw [Sem.run_bind, run_eqGuard_agg W .neq 80 x y A B hm, Result.andThen_ok, run_neq_struct W 80 A B, hr]
  rfl
section
variable {ops : Array Oper} {C : World → Prop} {Q : Act → Prop} {rest : List Oper} {o : Oper} {a : Act}
theorem quiet_neqE (hw : Region.wanted o (yielded ops a.tmps) = true) (x y : Operand) (rt : TypeId) (ho : o.op = .binOp .neq 80 x y rt) (A B : Array Value) (hx : a.eval x = .agg A) (hy : a.eval y = .agg B) (r : Bool)
    (hr : ∀ W, (Op.equalIn 10000 80 (.agg A) (.agg B)).run Tryz.prog W = .ok r W) (h : wpQuiet Tryz.prog ops C Q rest (a.put o.dst (.bool !r))) : wpQuiet Tryz.prog ops C Q (o :: rest) a := by
  refine quiet_val hw (.bool !r) (fun W => ?_) h
  unfold execOp
  simp only [ho, hx, hy]
  rw [Sem.run_bind, run_ent_neq x y A B W r (hr W)]
  rfl
end
end Go.Proofs.YtfcoeinhfdbcgaaGreatDoor

namespace Go.Proofs.YtfcoeinhfdbcgaaGreatDoor
open Go.RowKit

set_option maxRecDepth 100000 in
theorem linkEq (k : LinkL) (h : k.id.length = 32) (W : World) : (Op.equalIn 10000 52 (.agg k.row.toArray) (.agg k.row.toArray)).run Tryz.prog W = .ok true W := by
  have hf : Tryz.prog.underlying 52 = some (.struct (Tryz.prog.fieldsOf 52)) := by kernel_rfl
  have hp : Tryz.prog.stoodInHeld 52 = false := by kernel_rfl
  have hfs := TypeDesc.struct.inj (Option.some.inj (hf.symm.trans Tryz.underlying52))
  rw [show (10000 : Nat) = 9997 + 1 + 1 + 1 from rfl, run_equalIn_struct W (9997 + 1 + 1) 52 _ _ hf hp, hfs]
  refine (eqF_step (by decide) (part_id k.row k.id 0 (by
    unfold LinkL.row
    rw [List.drop_zero, List.take_left' (by rw [List.length_map, h])]) W) (idSelf 9997 k.id W h)).trans ?_
  refine (eqF_step (by decide) (run_part_plain W plainInt (v := .int .i64 k.kind) (by
    show k.row.toArray[32]? = some (.int .i64 k.kind)
    rw [List.getElem?_toArray]
    unfold LinkL.row
    rw [List.getElem?_append_right (by rw [List.length_map, h]; omega), List.length_map, h]
    rfl)) (selfInt _ _ W)).trans ?_
  rfl
theorem run_link_neq (x y : Operand) (A B : Array Value) (W : World) (r : Bool) (hr : (Op.equalIn 10000 52 (.agg A) (.agg B)).run Tryz.prog W = .ok r W) :
    Sem.run Tryz.prog (do eqGuard BinOp.neq 52 x y (Value.agg A) (Value.agg B); binOp BinOp.neq 52 (Value.agg A) (Value.agg B)) W = .ok (.bool !r) W := by
  have hm : Tryz.prog.eqGuardType Tryz.prog.depth 52 = false := by kernel_rfl
  rw [Sem.run_bind, run_eqGuard_agg W .neq 52 x y A B hm, Result.andThen_ok, run_neq_struct W 52 A B, hr]
  rfl
section
variable {ops : Array Oper} {C : World → Prop} {Q : Act → Prop} {rest : List Oper} {o : Oper} {a : Act}
theorem quiet_neqK (hw : Region.wanted o (yielded ops a.tmps) = true) (x y : Operand) (rt : TypeId) (ho : o.op = .binOp .neq 52 x y rt) (A B : Array Value) (hx : a.eval x = .agg A) (hy : a.eval y = .agg B) (r : Bool)
    (hr : ∀ W, (Op.equalIn 10000 52 (.agg A) (.agg B)).run Tryz.prog W = .ok r W) (h : wpQuiet Tryz.prog ops C Q rest (a.put o.dst (.bool !r))) : wpQuiet Tryz.prog ops C Q (o :: rest) a := by
  refine quiet_val hw (.bool !r) (fun W => ?_) h
  unfold execOp
  simp only [ho, hx, hy]
  rw [Sem.run_bind, run_link_neq x y A B W r (hr W)]
  rfl
end
theorem LinksAt.form {w : World} {v : Value} {ks : List LinkL} (h : LinksAt w v ks) : ∃ ao cap, v = .slice ao ks.length cap ∧ ks.length ≤ cap ∧ ks.length ≤ 140737488351232 ∧ (ks ≠ [] → ∃ b off, ao = some ⟨b, off, none⟩ ∧ ∀ (i : Nat) (k : LinkL), ks[i]? = some k → w.rangeAt b (off + i * 33) k.row) := by
  obtain ⟨ao, cap, hv, h1, _, h3, h4⟩ := h
  rw [List.length_map] at hv h1 h3
  refine ⟨ao, cap, hv, h1, h3, fun hne => ?_⟩
  obtain ⟨b, off, hb, hh⟩ := h4 (by simpa using hne)
  exact ⟨b, off, hb, fun i k hk => hh i k.row (by rw [List.getElem?_map, hk]; rfl)⟩
theorem LinksAt.kept {w w' : World} {v : Value} {ks : List LinkL} (h : LinksAt w v ks) (k : Kept [] w w') : LinksAt w' v ks := RowsAt.keep h k (fun _ _ _ => by simp)

set_option maxRecDepth 100000 in
set_option maxHeartbeats 2000000 in
theorem sameLinks_eq (v1 v2 : Value) (ks : List LinkL) (w : World) (h1 : LinksAt w v1 ks) (h2 : LinksAt w v2 ks) (hg : ∀ k, k ∈ ks → k.id.length = 32) :
    Calls Tryz.prog 21 #[v1, v2] w fun e w' => e = .returned (.bool true) ∧ Kept [] w w' := by
  have HN1 : Hid (∀ W, Kept [] w W → LinksAt W v1 ks) := fun W k => h1.kept k
  have HN2 : Hid (∀ W, Kept [] w W → LinksAt W v2 ks) := fun W k => h2.kept k
  have HG : Hid (∀ k, k ∈ ks → k.id.length = 32) := hg
  obtain ⟨a1, c1, rfl, hc1, hl1, _⟩ := h1.form
  obtain ⟨a2, c2, rfl, hc2, hl2, _⟩ := h2.form
  have hue := Tryz.underlying52
  clear h1 h2 hg
  go_enter Tryz.func21, Tryz.ntmps21
  go_wp2
  go_loopw [5] (fun s5 wr => ∃ k : Nat, k ≤ ks.length ∧ s5 = .int .i64 k ∧ Hid (Kept [] w wr)) (fun s5 _ => ks.length - (intOf s5).toNat)
  case atStart => exact ⟨0, Nat.zero_le _, rfl, Kept.refl _ _⟩
  case round =>
    obtain ⟨k, hk, rfl, HK⟩ := hrel
    by_cases hlt : k < ks.length
    · obtain ⟨x, hx⟩ : ∃ x, ks[k]? = some x := ⟨_, List.getElem?_eq_getElem hlt⟩
      have hgx := HG.out x (List.mem_of_getElem? hx)
      obtain ⟨ao', cap', he, _, _, hc⟩ := (HN1.out wr HK.out).form
      injection he with e1 e2 e3
      subst e1 e3
      obtain ⟨b1', off1, rfl, hh1⟩ := hc (by intro e; rw [e] at hlt; simp at hlt)
      obtain ⟨ao', cap', he, _, _, hc⟩ := (HN2.out wr HK.out).form
      injection he with e1 e2 e3
      subst e1 e3
      obtain ⟨b2', off2, rfl, hh2⟩ := hc (by intro e; rw [e] at hlt; simp at hlt)
      have hso : (Tryz.prog.info? 52).map (·.size) = some x.row.length := by rw [LinkL.row_len hgx]; kernel_rfl
      have heqf := fun W => linkEq x hgx W
      have HR1 : Hid (∀ W, Kept [] wr W → W.rangeAt b1' (off1 + k * 33) x.row) := fun W hW => range_kept (hh1 k x hx) hW (by simp)
      have HR2 : Hid (∀ W, Kept [] wr W → W.rangeAt b2' (off2 + k * 33) x.row) := fun W hW => range_kept (hh2 k x hx) hW (by simp)
      have HKK : Hid (∀ W, Kept [] wr W → Kept [] w W) := fun W hW => HK.out.then hW
      clear hh1 hh2 hc hx hgx
      generalize x.row = xr at *
      go_wp2_with fail
      refine region_quiet (Kept [] wr) (by kernel_rfl) (by kernel_rfl) (Kept.refl [] wr).drew ?_
      refine quiet_move (by rfl) (.tmp 0) rfl (.slice (some ⟨b1', off1, none⟩) ks.length c1) rfl ?_
      simp only [Act.put, List.setIfInBounds_toArray, List.set_cons_zero, List.set_cons_succ]
      refine quiet_move (by rfl) (.tmp 5) rfl (.int .i64 k) rfl ?_
      simp only [Act.put, List.setIfInBounds_toArray, List.set_cons_zero, List.set_cons_succ]
      refine quiet_val (by rfl) (.pointer (some ⟨b1', off1 + k * 33, none⟩)) (fun W => by go_simp) ?_
      simp only [Act.put, List.setIfInBounds_toArray, List.set_cons_zero, List.set_cons_succ]
      refine quiet_row (by rfl) _ _ rfl b1' (off1 + k * 33) rfl xr _ HR1.out hue rfl hso ?_
      simp only [Act.put, List.setIfInBounds_toArray, List.set_cons_zero, List.set_cons_succ]
      refine quiet_move (by rfl) (.tmp 1) rfl (.slice (some ⟨b2', off2, none⟩) ks.length c2) rfl ?_
      simp only [Act.put, List.setIfInBounds_toArray, List.set_cons_zero, List.set_cons_succ]
      refine quiet_move (by rfl) (.tmp 5) rfl (.int .i64 k) rfl ?_
      simp only [Act.put, List.setIfInBounds_toArray, List.set_cons_zero, List.set_cons_succ]
      refine quiet_val (by rfl) (.pointer (some ⟨b2', off2 + k * 33, none⟩)) (fun W => by go_simp) ?_
      simp only [Act.put, List.setIfInBounds_toArray, List.set_cons_zero, List.set_cons_succ]
      refine quiet_row (by rfl) _ _ rfl b2' (off2 + k * 33) rfl xr _ HR2.out hue rfl hso ?_
      simp only [Act.put, List.setIfInBounds_toArray, List.set_cons_zero, List.set_cons_succ]
      refine quiet_neqK (by rfl) (.tmp 20) (.tmp 24) _ rfl _ _ rfl rfl true heqf ?_
      simp only [Act.put, List.setIfInBounds_toArray, List.set_cons_zero, List.set_cons_succ]
      refine wpQuiet_nil fun w3 hk3 => ?_
      have HK3 : Hid (Kept [] w w3) := HKK.out w3 hk3
      clear hk3 HR1 HR2 HKK
      go_wp2
      go_roundw
      case rel => exact ⟨k + 1, by omega, by go_num, HK3⟩
      case measure => simp [intOf]; omega
    · have tE : decide ((k : Int) < (ks.length : Int)) = false := decide_eq_false (by omega)
      have tE2 : ¬ k < ks.length := hlt
      go_wp2
      go_ret
      exact ⟨rfl, HK.out⟩
end Go.Proofs.YtfcoeinhfdbcgaaGreatDoor
