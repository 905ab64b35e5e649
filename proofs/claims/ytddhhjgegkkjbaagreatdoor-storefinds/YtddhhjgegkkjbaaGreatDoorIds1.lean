/-
  WALKS: (*store.Store).All, Ids.
-/
import Derived.Test.YtddhhjgegkkjbaaGreatDoorAll1
namespace Go.Proofs.YtddhhjgegkkjbaaGreatDoor
open Go.RowKit Go.Shelf Go.WideMaps
attribute [local go_sem] Oper.semAt_some

theorem All_any (s : Nat) (w : World) : Calls Tryz.prog 6 #[.pointer (some ⟨s, 0, none⟩)] w fun e w' => e = .returned (.func (.func 24) #[] #[.pointer (some ⟨w.heap.size, 0, none⟩)]) ∧ w' = w.alloc (.cells #[.pointer (some ⟨s, 0, none⟩)] 26) := by
  go_enter Tryz.func6, Tryz.ntmps6
  go_wp2
  go_ret
  exact ⟨rfl, rfl⟩
/-- The ids of a store: all, each once, the least first. -/
structure IdsOf (D : DataW Unit) (ids : List (List Int)) : Prop where
  sorted : SortedIds ids
  mem : ∀ id, id ∈ ids → GoodID id ∧ Maps.has D (idKey id) = true
  all : ∀ kl, Maps.has D kl = true → ∃ id, id ∈ ids ∧ kl = idKey id
  len : ids.length = Maps.size D
theorem SortedIds.apart {L : List (List Int)} (h : SortedIds L) : L.Pairwise (· ≠ ·) := List.Pairwise.imp (R := fun a b => cmpB a b < 0) (S := (· ≠ ·)) (fun {a b} hab e => by subst e; exact cmpB_self a hab) h
theorem TellsAll.ids {w : World} {s b n : Nat} {D : DataW Unit} (hst : St w s b n D) {xs : List RowE} (h : TellsAll D xs) : IdsOf D (xs.map (·.xs)) := by
  obtain ⟨L, hL, hs, he⟩ := h
  have m1 : ∀ id, id ∈ L.map (·.xs) → GoodID id ∧ Maps.has D (idKey id) = true := fun id hid => by
    obtain ⟨r, hr, rfl⟩ := List.mem_map.1 hid
    exact ⟨r.good, (hL.mem r hr).1⟩
  have m2 : ∀ kl, Maps.has D kl = true → ∃ id, id ∈ L.map (·.xs) ∧ kl = idKey id := fun kl hk => by
    obtain ⟨r, hr, rfl⟩ := hL.all kl hk
    exact ⟨r.xs, List.mem_map.2 ⟨r, hr, rfl⟩, rfl⟩
  rw [he]
  exact ⟨hs, m1, m2, keys_len hst.own _ (fun k hk => (m1 k hk).1) hs.apart (fun k hk => (m1 k hk).2) m2⟩
theorem Tryz.idInfo : (Tryz.prog.info? 36).map (fun i => (i.zero, i.size, i.bytes)) = some (some (.agg (zero32.map (Value.int .u8)).toArray), 32, 32) := by kernel_rfl
theorem Tryz.idZero : (Value.agg (zero32.map (Value.int .u8)).toArray).cells.size = 32 := by kernel_rfl
theorem setCell_box {w : World} {b : Nat} {u : Value} {t : TypeId} {fr : Nat × Nat} (h : w.heap[b]? = some (.cells #[u] t fr)) (v : Value) : (w.setCell ⟨b, 0, none⟩ v).heap[b]? = some (.cells #[v] t fr) := by
  rw [Go.Sort.setCell_eq]
  show (w.heap.modify b _)[b]? = _
  rw [Array.getElem?_modify, if_pos rfl, h]
  rfl
/-- A list of ids that one owns. -/
def IdOwn (w : World) (B : Nat) (v : Value) (ids : List (List Int)) : Prop := w.ownsRow B 36 32 v ids.length (ids.map fun id => id.map (Value.int .u8)).flatten
theorem KpS.of_kept {G : Nat → Prop} {S : List Nat} {W W' : World} (k : Kept S W W') (h1 : ∀ x, x ∈ S → ∀ c, W.heap[x]? ≠ some (Obj.cells c 68 (0, 0))) (h2 : ∀ x, x ∈ S → ¬ G x) (h3 : ∀ x, G x → x < W.heap.size) : KpS G W W' :=
  ⟨fun i c hi => k.block i (lt_of_block hi) (fun hm => h1 i hm c hi), fun i hi => k.block i (h3 i hi) (fun hm => h2 i hm hi)⟩
set_option maxRecDepth 100000 in
set_option maxHeartbeats 4000000 in
theorem Ids_any {w : World} {s b n : Nat} {D : DataW Unit} (h : St w s b n D) (hn : n ≤ 1000000) (hE : NonE D) :
    Calls Tryz.prog 7 #[.pointer (some ⟨s, 0, none⟩)] w fun e w' => ∃ v ids, e = .returned v ∧ IdOwn w' w.heap.size v ids ∧ IdsOf D ids ∧ Kept [] w w' := by
  have hlen := Len_st h
  have hsn : Maps.size D ≤ n := h.size
  have hmx : Maps.size D ≤ 1000000 := by omega
  obtain ⟨i0, hi, hz0, hz1, hz2⟩ := info_parts Tryz.idInfo
  have hmk : i0.bytes * Maps.size D ≤ 281474976710656 := by rw [hz2]; omega
  have hml : Maps.size D ≤ maxLen := by unfold maxLen; omega
  refine (callsIn_wide (n := 3)).1 ?_
  refine callsIn_of_wp_marks Tryz.func7 rfl trivial ?_ rfl
  simp only [Tryz.ntmps7, List.size_toArray, List.length_cons, List.length_nil, Nat.reduceAdd, Nat.reduceSub, Array.replicate_succ, Array.replicate_zero, List.push_toArray, List.append_toArray, List.nil_append, List.cons_append]
  gi_wp2_with fail
  refine ⟨trivial, ?_⟩
  refine (callsIn_wide.2 hlen).mono ?_
  rintro e wn ⟨rfl, hwn⟩
  subst wn
  clear hlen
  gi_wp2_with (first
    | (refine wpListIn_make_own _ (by rfl) _ _ 32 (by rfl) w.heap.size 36 i0 _ 32 Tryz.underlying32 hi hz0 hz1 _ _ _ (Maps.size D) (by rfl) (by rfl) rfl hmk hml (Nat.le_refl _) ?_
       intro w1 hown1 hgr1
       have HK1 : Hid (Kept [] w w1) := (Kept.refl _ _).grown hgr1 (fun _ e => by cases e)
       have HOW1 : Hid (w1.ownsRow w.heap.size 36 32 (.slice (some ⟨w.heap.size, 0, none⟩) 0 (Maps.size D)) 0 []) := hown1
       clear hown1 hgr1))
  obtain ⟨wA, hwA⟩ : ∃ wA, wA = w1.alloc (.cells #[.slice (some ⟨w.heap.size, 0, none⟩) 0 (Maps.size D)] 32) := ⟨_, rfl⟩
  obtain ⟨wB, hwB⟩ : ∃ wB, wB = wA.alloc (.cells #[.pointer (some ⟨s, 0, none⟩)] 26) := ⟨_, rfl⟩
  have HWA : Hid (wA = w1.alloc (.cells #[.slice (some ⟨w.heap.size, 0, none⟩) 0 (Maps.size D)] 32)) := hwA
  have HWB : Hid (wB = wA.alloc (.cells #[.pointer (some ⟨s, 0, none⟩)] 26)) := hwB
  have kA : Kept [] w1 wA := by rw [hwA]; exact (Kept.refl _ _).alloc _
  have kB : Kept [] wA wB := by rw [hwB]; exact (Kept.refl _ _).alloc _
  have hall := All_any s wA
  have bBox : wB.heap[w1.heap.size]? = some (.cells #[.slice (some ⟨w.heap.size, 0, none⟩) 0 (Maps.size D)] 32 (0, 0)) := kB.heap (by rw [hwA]; exact heap_alloc_new w1 _) (by simp)
  have bSelf : wB.cell? ⟨wA.heap.size, 0, none⟩ = some (.pointer (some ⟨s, 0, none⟩)) := by
    rw [cell_of_row _ _ _ _ _ _ (show wB.heap[wA.heap.size]? = _ by rw [hwB]; exact heap_alloc_new wA _)]; rfl
  have kwB : Kept [] w wB := (HK1.out.then kA).then kB
  have hstB := h.on kwB
  have hstop := all_stops hstB hn hE wA.heap.size bSelf 2
  have hsz1 : w.heap.size ≤ w1.heap.size := HK1.out.size
  have hszB : w1.heap.size < wB.heap.size := lt_of_block bBox
  have HI0 : Hid (IdOwn wB w.heap.size (.slice (some ⟨w.heap.size, 0, none⟩) 0 (Maps.size D)) []) := ownsK_on (ownsK_on HOW1.out kA (fun _ _ => by simp)) kB (fun _ _ => by simp)
  have HGW : Hid (∀ k, Gof D k → k < w.heap.size) := fun k hk => hk.lt h
  have HST : Hid (St wB s b n D) := hstB
  rw [← HWA.out]
  refine ⟨trivial, ?_⟩
  refine (callsIn_wide.2 hall).mono ?_
  rintro e wq ⟨rfl, hwq⟩
  rw [← HWB.out] at hwq
  subst wq
  clear hwA hwB hall hstB kA kB
  gi_wp2_with fail
  refine wpIn_rangeFunc_ownH rfl (by omega) (gf := 24) (lb := #[.pointer (some ⟨wA.heap.size, 0, none⟩)]) rfl trivial (enters_of Tryz.func24 (by kernel_rfl) rfl) hstop KpS.trans ?hKb (Below.refl _ _) (fun _ => rfl)
    (fun pre W => (∃ g cap, W.heap[w1.heap.size]? = some (.cells #[.slice (some ⟨g, 0, none⟩) pre.length cap] 32 (0, 0)) ∧ IdOwn W w.heap.size (.slice (some ⟨g, 0, none⟩) pre.length cap) (pre.map (·.xs))) ∧ Kept [] w W ∧ wB.heap.size ≤ W.heap.size)
    (fun _ _ _ => False)
    ?hI (fun _ _ _ _ _ hs _ _ => hs)
    ?h0
    (fun x a' W => ∃ Bx, wB.heap.size ≤ Bx ∧ W.heap[Bx]? = some (.cells (idC x.xs) 36 (0, 0)) ∧ a' = { tmps := #[.pointer (some ⟨s, 0, none⟩), undef, .slice none 0 0, .pointer (some ⟨w1.heap.size, 0, none⟩), .pointer (some ⟨Bx, 0, none⟩), .pointer (some ⟨s, 0, none⟩), .int .i64 (Maps.size D : Nat), .slice (some ⟨w.heap.size, 0, none⟩) 0 (Maps.size D), .pointer (some ⟨s, 0, none⟩), .func (.func 24) #[] #[.pointer (some ⟨wA.heap.size, 0, none⟩)], .agg (idC x.xs), .slice x.p x.l x.c, undef, undef, undef, undef, undef], defers := [] })
    ?hAx ?assign ?body ?done ?stop
  case hKb =>
    intro W l o o' hl ho hc _
    refine ⟨fun k c hk => ?_, fun k hk => ?_⟩
    · refine World.putObj_heap_other (fun e => ?_)
      rw [e, ho] at hk
      injection hk with hk
      subst hk
      cases hc
    · exact World.putObj_heap_other (fun e => by have := HGW.out k hk; omega)
  case hI =>
    intro pre W W' row ⟨⟨g, cap, h1, h2⟩, h3, h4⟩ hg hr
    have ht : TurnsNone wB.heap.size W W' row := ⟨hg, hr⟩
    exact ⟨⟨g, cap, ht.cells h1, ht.owns h2⟩, ht.kept h3 (by omega), Nat.le_trans h4 hg.size⟩
  case h0 => exact ⟨⟨_, _, bBox, HI0.out⟩, kwB, Nat.le_refl _⟩
  case hAx =>
    intro x a' _ W W' row ⟨Bx, h1, h2, h3⟩ hg hr
    exact ⟨Bx, h1, TurnsNone.cells (B := wB.heap.size) ⟨hg, hr⟩ h2, h3⟩
  case assign =>
    rintro l pre x W K ⟨⟨g, cap, h1, h2⟩, h3, h4⟩ hK
    obtain ⟨W2, hW2⟩ : ∃ W2, W2 = W.alloc (.cells (idC x.xs) 36) := ⟨_, rfl⟩
    have HW2 : Hid (W2 = W.alloc (.cells (idC x.xs) 36)) := hW2
    have k2 : Kept [] W W2 := by rw [hW2]; exact (Kept.refl _ _).alloc _
    have hsz : (Tryz.prog.info? 36).map (·.size) = some (idC x.xs).size := by rw [idC_size x.good.1]; exact Tryz.infoID
    have hzz : (idC zid).size = (idC x.xs).size := by rw [idC_size x.good.1]; rfl
    have hone : (idC x.xs).all (·.oneCell') = true := all_oneCell_toArray (map_oneCell _)
    have HF : Hid (KeepsFrom wB.heap.size W W2 ∧ KpS (Gof D) W W2 ∧ ((∃ g cap, W2.heap[w1.heap.size]? = some (.cells #[.slice (some ⟨g, 0, none⟩) pre.length cap] 32 (0, 0)) ∧ IdOwn W2 w.heap.size (.slice (some ⟨g, 0, none⟩) pre.length cap) (pre.map (·.xs))) ∧ Kept [] w W2 ∧ wB.heap.size ≤ W2.heap.size) ∧ W2.heap[W.heap.size]? = some (.cells (idC x.xs) 36 (0, 0)) ∧ wB.heap.size ≤ W.heap.size) := by
      refine ⟨k2.others (by simp) _, KpS.of_kept k2 (by simp) (by simp) (fun k hk => by have := HGW.out k hk; have := h3.size; omega), ⟨⟨g, cap, k2.heap h1 (by simp), ownsK_on h2 k2 (fun _ _ => by simp)⟩, h3.then k2, Nat.le_trans h4 k2.size⟩, by rw [hW2]; exact heap_alloc_new W _, h4⟩
    clear h1 h2 h3 h4 k2 hW2
    simp only [encsR]
    gi_wp2_with (refine listIn_store_new (by rfl) 36 (.tmp 4) (.tmp 10) (by rfl) W _ (idC x.xs) (by rfl) (by rfl) hsz hzz hone ?_)
    rw [← HW2.out]
    exact hK _ _ HF.out.1 HF.out.2.1 HF.out.2.2.1 ⟨W.heap.size, HF.out.2.2.2.2, HF.out.2.2.2.1, rfl⟩
  case body =>
    rintro l pre x a' W hl ⟨r, hr⟩ ⟨⟨g, cap, h1, h2⟩, h3, h4⟩ ⟨Bx, hBx, hbx, rfl⟩ hlt
    have hcell : W.cell? ⟨w1.heap.size, 0, none⟩ = some (.slice (some ⟨g, 0, none⟩) pre.length cap) := by rw [cell_of_row _ _ _ _ _ _ h1]; rfl
    have hrng : W.rangeAt Bx 0 (x.xs.map (Value.int .u8)) := row_range hbx
    have hui := Tryz.underlying36
    have hsi : (Tryz.prog.info? 36).map (·.size) = some (x.xs.map (Value.int .u8)).length := by rw [List.length_map, x.good.1]; exact Tryz.infoID
    have hul : (x.xs.map (Value.int .u8)).length = 1 * 32 := by rw [List.length_map, x.good.1]
    have huo : ∀ u, u ∈ x.xs.map (Value.int .u8) → u.oneCell' = true := map_oneCell _
    have hbs := fun W => run_build_k (t := 32) Tryz.underlying32 Tryz.idInfo (by decide) (by decide) (x.xs.map (Value.int .u8)) (by rw [List.length_map, x.good.1]) W
    obtain ⟨W5, hW5⟩ : ∃ W5, W5 = W.alloc (.cells (x.xs.map (Value.int .u8)).toArray 36) := ⟨_, rfl⟩
    have HW5 : Hid (W5 = W.alloc (.cells (x.xs.map (Value.int .u8)).toArray 36)) := hW5
    have k5 : Kept [] W W5 := by rw [hW5]; exact (Kept.refl _ _).alloc _
    have own5 : W5.ownsRow w.heap.size 36 32 (.slice (some ⟨g, 0, none⟩) pre.length cap) pre.length ((pre.map (·.xs)).map fun id => id.map (Value.int .u8)).flatten := by
      have h := ownsK_on h2 k5 (fun _ _ => by simp)
      rw [List.length_map] at h
      exact h
    have cells5 : ∀ j u, (x.xs.map (Value.int .u8))[j]? = some u → W5.cell? ((⟨W.heap.size, 0, none⟩ : Addr).add j) = some u := fun j u hu => by
      rw [Addr.add_mid]
      exact (row_range (show W5.heap[W.heap.size]? = _ by rw [hW5]; exact heap_alloc_new W _)) j u hu
    have hb1 : pre.length + 1 ≤ maxLen := by unfold maxLen; omega
    have hb2 : (pre.length + 1) * 32 ≤ 140737488355328 := by omega
    have hb3 : w.heap.size ≤ W5.heap.size := Nat.le_trans h3.size k5.size
    have hbox5 : W5.heap[w1.heap.size]? = some (.cells #[.slice (some ⟨g, 0, none⟩) pre.length cap] 32 (0, 0)) := k5.heap h1 (by simp)
    have HALL : Hid (Kept [] W W5 ∧ Kept [] w W ∧ W5.heap[w1.heap.size]? = some (.cells #[.slice (some ⟨g, 0, none⟩) pre.length cap] 32 (0, 0)) ∧ W.heap[w1.heap.size]? = some (.cells #[.slice (some ⟨g, 0, none⟩) pre.length cap] 32 (0, 0)) ∧ (∃ c, W.heap[g]? = some (.cells c 36 (0, 0))) ∧ w.heap.size ≤ g) := by
      refine ⟨k5, h3, hbox5, h1, ?_, own_base h2⟩
      obtain ⟨_, ⟨hv, _⟩ | ⟨g', _, c, hv, _, hc, _⟩⟩ := h2
      · cases hv
      · injection hv with hv _ _
        injection hv with hv
        injection hv with hv _ _
        rw [hv]
        exact ⟨c, hc⟩
    have HSW : Hid (wB.heap.size ≤ W.heap.size) := h4
    clear h1 h2 h3 h4 hbx hW5 k5 hbox5 hr hl
    generalize hus : x.xs.map (Value.int .u8) = us at *
    gi_wp2_with (first
      | (refine listIn_load_mid (by rfl) 36 (.tmp 4) (by rfl) Bx 0 (by rfl) us _ hrng hui rfl hsi ?_)
      | (refine listIn_slice_k (by rfl) 32 36 (.tmp 13) (by rfl) us (by rfl) hbs ?_; rw [← HW5.out])
      | (gi_at_builtin; refine wpListIn_append_own _ (by rfl) _ _ 32 (by rfl) w.heap.size 36 i0 _ 32 32 Tryz.underlying32 hi hz0 hz1 hz2 Tryz.idZero (by decide) _ _ _ (by rfl) own5 ⟨W.heap.size, 0, none⟩ 1 1 us (by rfl) hul cells5 huo hb1 hb2 hb3 ?_
         intro v6 w6 own6 hgr6 _
         have HOWN : Hid (w6.ownsRow w.heap.size 36 32 v6 (pre.length + 1) (((pre.map (·.xs)).map fun id => id.map (Value.int .u8)).flatten ++ us)) := own6
         have HK6 : Hid (Kept [g] W5 w6) := (Kept.refl _ _).grown hgr6 (fun k e => Or.inl (by simpa [Value.ownBlock] using e.symm))
         obtain ⟨g6, cap6, rfl⟩ := own_succ own6
         have HB6 : Hid (w1.heap.size ≠ g ∧ w6.heap[w1.heap.size]? = some (.cells #[.slice (some ⟨g, 0, none⟩) pre.length cap] 32 (0, 0))) := by
           obtain ⟨_, _, hbox5, hbox, ⟨cg, hg⟩, _⟩ := HALL.out
           have hgne : w1.heap.size ≠ g := fun e => by
             rw [e, hg] at hbox
             injection hbox with hbox
             injection hbox with _ hbox _
             exact absurd hbox (by decide)
           exact ⟨hgne, HK6.out.heap hbox5 (by simpa using hgne)⟩
         have hc6 : w6.cell? ⟨w1.heap.size, 0, none⟩ = some (.slice (some ⟨g, 0, none⟩) pre.length cap) := by rw [cell_of_row _ _ _ _ _ _ HB6.out.2]; rfl
         have hf6 : w6.frozen? ⟨w1.heap.size, 0, none⟩ = false := frozen_of_row _ _ _ _ _ HB6.out.2
         clear own6 hgr6))
    obtain ⟨kW5, kwW, hbox5, hbox, ⟨cg, hg⟩, hgw⟩ := HALL.out
    obtain ⟨hgne, hbox6⟩ := HB6.out
    have hbox7 := setCell_box hbox6 (.slice (some ⟨g6, 0, none⟩) (pre.length + 1) cap6)
    have k7 : Kept [w1.heap.size] w6 (w6.setCell ⟨w1.heap.size, 0, none⟩ (.slice (some ⟨g6, 0, none⟩) (pre.length + 1) cap6)) := (Kept.refl _ _).setCell (p := ⟨w1.heap.size, 0, none⟩) (Or.inl (by simp)) _
    have kAll : Kept [g, w1.heap.size] W (w6.setCell ⟨w1.heap.size, 0, none⟩ (.slice (some ⟨g6, 0, none⟩) (pre.length + 1) cap6)) := (((kW5.more (by simp)).trans HK6.out (fun y hy => Or.inl (by simp at hy; simp [hy]))).trans k7 (fun y hy => Or.inl (by simp at hy; simp [hy])))
    have hg6 : g6 ≠ w1.heap.size := fun e => by
      obtain ⟨_, ⟨hv, _⟩ | ⟨g', _, c, hv, _, hc, _⟩⟩ := HOWN.out
      · cases hv
      · injection hv with hv _ _
        injection hv with hv
        injection hv with hv _ _
        rw [← hv, e, hbox6] at hc
        injection hc with hc
        injection hc with _ hc _
        exact absurd hc (by decide)
    refine ⟨kAll.others (fun y hy => ?_) _, KpS.of_kept kAll (fun y hy c hc => ?_) (fun y hy hG => ?_) (fun y hG => ?_), ⟨g6, cap6, ?_, ?_⟩, ?_, ?_⟩
    · rcases List.mem_cons.1 hy with rfl | hy
      · exact ⟨_, _, _, hg⟩
      · rw [List.mem_singleton.1 hy]
        exact ⟨_, _, _, hbox⟩
    · rcases List.mem_cons.1 hy with rfl | hy
      · rw [hg] at hc
        injection hc with hc
        injection hc with _ hc _
        exact absurd hc (by decide)
      · rw [List.mem_singleton.1 hy, hbox] at hc
        injection hc with hc
        injection hc with _ hc _
        exact absurd hc (by decide)
    · have := HGW.out y hG
      rcases List.mem_cons.1 hy with rfl | hy
      · omega
      · rw [List.mem_singleton.1 hy] at this
        omega
    · have := HGW.out y hG
      have := kwW.size
      omega
    · rw [List.length_append, List.length_singleton]
      exact hbox7
    · have h := ownsK_on HOWN.out k7 (fun q hq => by
        have : q = g6 := by simpa [Value.ownBlock] using hq.symm
        rw [this]
        simpa using hg6)
      unfold IdOwn
      rw [List.length_map, List.length_append, List.length_singleton, List.map_append, List.map_append, List.flatten_append]
      simp only [List.map_cons, List.map_nil, List.flatten_cons, List.flatten_nil, List.append_nil]
      rw [hus]
      exact h
    · exact kwW.trans kAll (fun y hy => Or.inr (by
        rcases List.mem_cons.1 hy with rfl | hy
        · exact hgw
        · rw [List.mem_singleton.1 hy]; exact hsz1))
    · exact Nat.le_trans HSW.out kAll.size
  case done =>
    rintro Dn xs W hD hS ⟨⟨g, cap, h1, h2⟩, h3, h4⟩ hK
    have hcell : W.cell? ⟨w1.heap.size, 0, none⟩ = some (.slice (some ⟨g, 0, none⟩) xs.length cap) := by rw [cell_of_row _ _ _ _ _ _ h1]; rfl
    gi_wp2
    refine ⟨by simp, .inl ⟨_, _, rfl, run_takeDeferred hK, ?_⟩⟩
    have ht : TurnsNone wB.heap.size W (W.putObj Dn (.deferred none)) (some Dn) := ⟨grownBy_putObj' W Dn _, fun r e => by cases e; exact ⟨hD, _, hK, rfl⟩⟩
    exact ⟨_, results_tmp rfl _ _ _, _, xs.map (·.xs), rfl, by have := ht.owns h2; exact this, hS.ids HST.out, ht.kept h3 (by omega)⟩
  case stop =>
    rintro D c pre W _ _ h _
    exact h.elim
end Go.Proofs.YtddhhjgegkkjbaaGreatDoor
