/-
  WALKS: the comparison that digest.Match sorts by; slices.SortFunc at lists of ids; slices.Compact at a list of unlike ids.
-/
import Derived.Test.YtlljiipmkjjhhaaDoorRgG
import Derived.Test.YtlljiipmkjjhhaaDoorIq0
import Derived.Shelf.SlSortCmp.WholeK
import Derived.Shelf.SlSortCmp.NoneTotal
namespace Go.Proofs.YtlljiipmkjjhhaaDoor
open Go.RowKit Go.Shelf Go.Lib Go.Sort

theorem idC_cell {w : World} {g : Nat} {xs : List Int} {t : TypeId} {fr : Nat × Nat} (h : w.heap[g]? = some (.cells (idC xs) t fr)) (i : Nat) (x : Int) (hx : xs[i]? = some x) : w.cell? ((⟨g, 0, none⟩ : Addr).add i) = some (.int .u8 x) := by
  have e : (⟨g, 0, none⟩ : Addr).add i = ⟨g, 0 + i, none⟩ := by unfold Addr.add; split <;> simp_all
  rw [e, cell_of_row _ _ _ _ _ _ h, Nat.zero_add, ← Array.getElem?_toList]
  show (xs.map (Value.int .u8))[i]? = _
  rw [List.getElem?_map, hx]
  rfl
set_option maxHeartbeats 1000000 in
set_option maxRecDepth 100000 in
/-- Ids are held against each other by their bytes. -/
theorem idCmp_any (xs ys : List Int) (W : World) (hx : GoodID xs) (hy : GoodID ys) :
    Calls Tryd.prog 21 #[.agg (idC xs), .agg (idC ys)] W fun e w' => e = .returned (.int .i64 (cmpB xs ys)) ∧ ∃ n, w' = ((W.alloc (.cells (idC xs) 24)).alloc (.cells (idC ys) 24)).drewN n := by
  have hcmp : ∀ n, Calls Tryd.prog 22 #[.slice (some ⟨W.heap.size, 0, none⟩) 32 32, .slice (some ⟨W.heap.size + 1, 0, none⟩) 32 32] (((W.alloc (.cells (idC xs) 24)).alloc (.cells (idC ys) 24)).drewN n) fun e w' => e = .returned (.int .i64 (cmpB xs ys)) ∧ w' = ((W.alloc (.cells (idC xs) 24)).alloc (.cells (idC ys) 24)).drewN n := fun n => by
    have h := Compare_any ⟨W.heap.size, 0, none⟩ ⟨W.heap.size + 1, 0, none⟩ 32 32 xs ys (((W.alloc (.cells (idC xs) 24)).alloc (.cells (idC ys) 24)).drewN n)
      (idC_cell (xs := xs) (t := 24) (fr := (0, 0)) (by
        show ((W.alloc _).alloc _).heap[W.heap.size]? = _
        rw [Below.heap_alloc _ _ _ (by rw [World.size_alloc]; omega)]
        exact heap_alloc_new W _))
      (idC_cell (xs := ys) (t := 24) (fr := (0, 0)) (by
        have := heap_alloc_new (W.alloc (.cells (idC xs) 24)) (.cells (idC ys) 24)
        rw [World.size_alloc] at this
        exact this))
      (fun x h => hx.2 x h) (fun x h => hy.2 x h)
    rw [hx.1, hy.1] at h
    exact h
  have s1 : (idC xs).size = 32 := idC_size hx.1
  have s2 : (idC ys).size = 32 := idC_size hy.1
  clear hx hy
  generalize idC xs = c1 at *
  generalize idC ys = c2 at *
  generalize cmpB xs ys = z at *
  go_enter Tryd.func21, Tryd.ntmps21
  go_wp2
  go_quiet (first | (go_at_call 22; exact Calls.quiet_of_same (hcmp _)))
  go_wp2
  go_ret
  exact ⟨rfl, _, rfl⟩
/-- An id as the library's sort takes it. -/
structure IdE where
  xs : List Int
  good : GoodID xs
instance : Inhabited IdE := ⟨⟨zero32, by simp [zero32], fun x h => by rw [List.eq_of_mem_replicate h]; decide⟩⟩
def encId (x : IdE) : List Value := x.xs.map (Value.int .u8)
theorem encId_len (x : IdE) : (encId x).length = 32 := by simp [encId, x.good.1]
theorem encId_one (x : IdE) (v : Value) (hv : v ∈ encId x) : v.oneCell' = true := by
  simp only [encId, List.mem_map] at hv
  obtain ⟨y, _, rfl⟩ := hv
  rfl
theorem idLays (blk off size : Nat) (w : World) : CmpLays Tryd.prog 21 #[] encId 32 (fun x y => cmpB x.xs y.xs) blk off size w :=
  fun _ _ _ _ x y => (idCmp_any x.xs y.xs _ x.good y.good).mono fun _ _ ⟨he, n, hn⟩ => ⟨he, n, #[.cells (idC x.xs) 24, .cells (idC y.xs) 24], by rw [hn, alloc_eq_grow, alloc_eq_grow, grow_grow]; rfl⟩
theorem idSWO : SWO (ltOf fun x y : IdE => cmpB x.xs y.xs) where
  irrefl x := by simp only [ltOf, decide_eq_false_iff_not]; exact cmpB_self x.xs
  trans x y z h1 h2 := by
    simp only [ltOf, decide_eq_true_eq] at *
    exact cmpB_trans _ _ _ h1 h2
  ntrans x y z h1 h2 := by
    simp only [ltOf, decide_eq_false_iff_not] at *
    intro h
    rcases cmpB_ge h1 with g | g
    · exact h2 (cmpB_trans _ _ _ g h)
    · exact h2 (g ▸ h)
theorem Tryd.aggId (w : World) : (isAgg 24).run Tryd.prog w = .ok true w := Tryd.isAgg24 w
theorem Tryd.sizeId (w : World) : (Go.sizeOf 24).run Tryd.prog w = .ok 32 w := Tryd.sizeOf24 w
theorem ids_lift : ∀ ids : List (List Int), (∀ id, id ∈ ids → GoodID id) → ∃ L : List IdE, L.map (·.xs) = ids
  | [], _ => ⟨[], rfl⟩
  | x :: ids, h => by
    obtain ⟨L, hL⟩ := ids_lift ids (fun id hid => h id (by simp [hid]))
    exact ⟨⟨x, h x (by simp)⟩ :: L, by rw [List.map_cons, hL]⟩
/-- A list of ids of one's own, sorted. -/
theorem SortIds_any {w : World} {B : Nat} {v : Value} {ids : List (List Int)} (hown : IdOwn w B v ids) (hg : ∀ id, id ∈ ids → GoodID id) (hl : ids.length ≤ 1000000) :
    Calls Tryd.prog 20 #[v, .func (.func 21) #[] #[]] w fun e w' => e = .returned (.tuple #[]) ∧ ∃ M, M.Perm ids ∧ M.Pairwise (fun a c => ¬ cmpB c a < 0) ∧ IdsAt w' v M ∧ ∃ S, Kept S w w' ∧ ∀ y, y ∈ S → B ≤ y := by
  by_cases h0 : ids = []
  · subst h0
    have hv : ∃ p cap, v = .slice p 0 cap ∧ (p = none → cap = 0) := by
      obtain ⟨_, ⟨h, _⟩ | ⟨g, cap, _, h, _⟩⟩ := hown
      · exact ⟨none, 0, h, fun _ => rfl⟩
      · exact ⟨_, cap, h, fun h => by cases h⟩
    obtain ⟨p, cap, rfl, hp⟩ := hv
    refine (AnyF.slices_SortFunc_none Tryd.sortId p cap _ w).mono fun e w' ⟨he, hw⟩ => ⟨he, [], List.Perm.nil, List.Pairwise.nil, ⟨p, cap, rfl, Nat.zero_le _, hp, by simp, fun h => absurd rfl h⟩, [], ?_, by simp⟩
    rw [hw]
    exact Kept.refl _ _
  · obtain ⟨L, rfl⟩ := ids_lift ids hg
    have hLn : (L.map (·.xs)).length = L.length := List.length_map _
    have hv : ∃ g cap, v = .slice (some ⟨g, 0, none⟩) L.length cap ∧ B ≤ g ∧ L.length ≤ cap := by
      obtain ⟨_, ⟨_, h⟩ | ⟨g, cap, _, h, h1, _, h2, _⟩⟩ := hown
      · exact absurd (List.eq_nil_of_length_eq_zero h) h0
      · rw [hLn] at h h2
        exact ⟨g, cap, h, h1, h2⟩
    obtain ⟨g, cap, rfl, hB, hcap⟩ := hv
    have hown2 : w.ownsRow B 24 32 (.slice (some ⟨g, 0, none⟩) L.length cap) L.length (L.map encId).flatten := by
      have h := hown
      unfold IdOwn at h
      rw [hLn, List.map_map] at h
      exact h
    obtain ⟨hH, c, hc⟩ := holdsK_own encId_len (by decide) hown2
    have hs := AnyQ.slices_SortFunc Tryd.sortId 32 Tryd.aggId Tryd.sizeId encId encId_len encId_one (fun x y => cmpB x.xs y.xs) idSWO 21 #[] g 0 cap L.toArray w
      (enters_of Tryd.func21 (by kernel_rfl) rfl) (idLays g 0 L.toArray.size w) hH (lt_of_block hc) (by rw [List.size_toArray]; omega)
    rw [List.size_toArray] at hs
    refine hs.mono ?_
    rintro e w' ⟨rfl, d', m, os, hp, hso, rfl⟩
    have hperm : d'.toList.Perm L := by have := perm_of_in (d := L.toArray) (d' := d') (by rw [List.size_toArray]; exact hp); simpa using this
    have hrows := rows_of_holdsK encId_len (holdsK_sortWorldK_c (enc := encId) (k := 32) (w := w) (blk := g) (off := 0) L.toArray d' m os hH (lt_of_block hc) hp.1)
    have h1 := sorted_of_in (d := d') (n := L.length) (by have := hp.1; simpa using this.symm) hso
    have hlen : (d'.toList.map (·.xs)).length = L.length := by rw [List.length_map]; exact hperm.length_eq
    refine ⟨rfl, d'.toList.map (·.xs), hperm.map _, ?_, ⟨some ⟨g, 0, none⟩, cap, by rw [hlen], by rw [hlen]; exact hcap, (fun h => by cases h), by rw [hlen]; omega, fun _ => ⟨g, 0, rfl, fun i xs hi => ?_⟩⟩, [g], sortK_kept encId 32 w g m d' os, fun y hy => by rw [List.mem_singleton.1 hy]; exact hB⟩
    · rw [List.pairwise_map]
      refine h1.imp fun {a c} hh => ?_
      simpa only [ltOf, decide_eq_false_iff_not] using hh
    · rw [List.getElem?_map] at hi
      cases hx : d'.toList[i]? with
      | none => rw [hx] at hi; cases hi
      | some x =>
        rw [hx] at hi
        simp only [Option.map_some, Option.some.injEq] at hi
        subst hi
        rw [Nat.zero_add]
        exact hrows i x hx
set_option maxRecDepth 100000 in
set_option maxHeartbeats 2000000 in
/-- slices.Compact: of unlike ids nothing goes. -/
theorem Compact_any {v : Value} {M : List (List Int)} {w : World} (hv : IdsAt w v M) (hg : ∀ id, id ∈ M → GoodID id) (hn : M.Nodup) :
    Calls Tryd.prog 23 #[v] w fun e w' => e = .returned v ∧ Kept [] w w' := by
  have HV : Hid (∀ W, Kept [] w W → IdsAt W v M) := fun W k => hv.onK k
  have HG : Hid (∀ id, id ∈ M → GoodID id) := hg
  have HN : Hid M.Nodup := hn
  obtain ⟨ao, cap, rfl, hcap, _, hlen, _⟩ := hv
  have hue := Tryd.underlying24
  clear hg hn
  by_cases h2 : M.length < 2
  · have t1 : decide ((M.length : Int) < 2) = true := decide_eq_true (by omega)
    go_enter Tryd.func23, Tryd.ntmps23
    go_wp2
    go_ret
    exact ⟨rfl, Kept.refl _ _⟩
  · have t1 : decide ((M.length : Int) < 2) = false := decide_eq_false (by omega)
    go_enter Tryd.func23, Tryd.ntmps23
    go_wp2
    go_loopw [3] (fun s3 wr => ∃ k : Nat, 1 ≤ k ∧ k ≤ M.length ∧ s3 = .int .i64 k ∧ Hid (Kept [] w wr)) (fun s3 _ => M.length - (intOf s3).toNat)
    case atStart => exact ⟨1, Nat.le_refl _, by omega, rfl, Kept.refl _ _⟩
    case round =>
      obtain ⟨k, hk1, hk, rfl, HK⟩ := hrel
      by_cases hlt : k < M.length
      · obtain ⟨x, hx⟩ : ∃ x, M[k]? = some x := ⟨_, List.getElem?_eq_getElem hlt⟩
        obtain ⟨y, hy⟩ : ∃ y, M[k - 1]? = some y := ⟨_, List.getElem?_eq_getElem (by omega)⟩
        have hgx := HG.out x (List.mem_of_getElem? hx)
        have hgy := HG.out y (List.mem_of_getElem? hy)
        have hne : x ≠ y := fun e => by
          have h := (List.getElem?_inj (by omega) HN.out).1 (hx.trans (e ▸ hy.symm))
          omega
        obtain ⟨ao', cap', he, _, _, _, hc⟩ := HV.out wr HK.out
        injection he with e1 e2 e3
        subst e1 e3
        obtain ⟨b1, off1, rfl, hh⟩ := hc (by intro e; rw [e] at hlt; simp at hlt)
        have hso : (Tryd.prog.info? 24).map (·.size) = some (x.map (Value.int .u8)).length := by rw [List.length_map, hgx.1]; exact Tryd.infoID
        have hsy : (Tryd.prog.info? 24).map (·.size) = some (y.map (Value.int .u8)).length := by rw [List.length_map, hgy.1]; exact Tryd.infoID
        have heqf : ∀ W, (Op.equalIn 10000 24 (.agg (x.map (Value.int .u8)).toArray) (.agg (y.map (Value.int .u8)).toArray)).run Tryd.prog W = .ok false W := fun W => by
          have h := idEq x y W hgx.1 hgy.1
          rw [decide_eq_false hne] at h
          exact h
        obtain ⟨q, hq⟩ : ∃ q, k = q + 1 := ⟨k - 1, by omega⟩
        have HR1 : Hid (∀ W, Kept [] wr W → W.rangeAt b1 (off1 + k * 32) (x.map (Value.int .u8))) := fun W hW => range_kept (hh k x hx) hW (by simp)
        have HR2 : Hid (∀ W, Kept [] wr W → W.rangeAt b1 (off1 + q * 32) (y.map (Value.int .u8))) := fun W hW => by
          have h := range_kept (hh (k - 1) y hy) hW (by simp)
          rw [show k - 1 = q by omega] at h
          exact h
        have hwq : IntKind.i64.wrap ((k : Int) - 1) = (q : Int) := by rw [hq]; simp [IntKind.wrap, IntKind.bits, IntKind.signed]; omega
        have hql : q < M.length := by omega
        have HKK : Hid (∀ W, Kept [] wr W → Kept [] w W) := fun W hW => HK.out.then hW
        clear hh hc hx hy hgx hgy hne hq
        generalize x.map (Value.int .u8) = xr at *
        generalize y.map (Value.int .u8) = yr at *
        go_wp2_with fail
        refine region_quiet (Kept [] wr) (by kernel_rfl) (by kernel_rfl) (Kept.refl [] wr).drew ?_
        refine quiet_move (by rfl) (.tmp 0) rfl (.slice (some ⟨b1, off1, none⟩) M.length cap) rfl ?_
        simp only [Act.put, List.setIfInBounds_toArray, List.set_cons_zero, List.set_cons_succ]
        refine quiet_move (by rfl) (.tmp 3) rfl (.int .i64 k) rfl ?_
        simp only [Act.put, List.setIfInBounds_toArray, List.set_cons_zero, List.set_cons_succ]
        refine quiet_val (by rfl) (.pointer (some ⟨b1, off1 + k * 32, none⟩)) (fun W => by go_simp) ?_
        simp only [Act.put, List.setIfInBounds_toArray, List.set_cons_zero, List.set_cons_succ]
        refine quiet_row (by rfl) _ _ rfl b1 (off1 + k * 32) rfl xr _ HR1.out hue rfl hso ?_
        simp only [Act.put, List.setIfInBounds_toArray, List.set_cons_zero, List.set_cons_succ]
        refine quiet_move (by rfl) (.tmp 0) rfl (.slice (some ⟨b1, off1, none⟩) M.length cap) rfl ?_
        simp only [Act.put, List.setIfInBounds_toArray, List.set_cons_zero, List.set_cons_succ]
        refine quiet_move (by rfl) (.tmp 3) rfl (.int .i64 k) rfl ?_
        simp only [Act.put, List.setIfInBounds_toArray, List.set_cons_zero, List.set_cons_succ]
        refine quiet_val (by rfl) (.int .i64 q) (fun W => by go_simp) ?_
        simp only [Act.put, List.setIfInBounds_toArray, List.set_cons_zero, List.set_cons_succ]
        refine quiet_val (by rfl) (.pointer (some ⟨b1, off1 + q * 32, none⟩)) (fun W => by go_simp) ?_
        simp only [Act.put, List.setIfInBounds_toArray, List.set_cons_zero, List.set_cons_succ]
        refine quiet_row (by rfl) _ _ rfl b1 (off1 + q * 32) rfl yr _ HR2.out hue rfl hsy ?_
        simp only [Act.put, List.setIfInBounds_toArray, List.set_cons_zero, List.set_cons_succ]
        refine quiet_eql (by rfl) (.tmp 19) (.tmp 24) _ rfl _ _ rfl rfl false heqf ?_
        simp only [Act.put, List.setIfInBounds_toArray, List.set_cons_zero, List.set_cons_succ]
        refine wpQuiet_nil fun w3 hk3 => ?_
        have HK3 : Hid (Kept [] w w3) := HKK.out w3 hk3
        clear hk3 HR1 HR2 HKK
        go_wp2
        go_roundw
        case rel => exact ⟨k + 1, by omega, by omega, by go_num, HK3⟩
        case measure => simp [intOf]; omega
      · have tE : decide ((k : Int) < (M.length : Int)) = false := decide_eq_false (by omega)
        have tE2 : ¬ k < M.length := hlt
        go_wp2
        go_ret
        exact ⟨rfl, HK.out⟩
end Go.Proofs.YtlljiipmkjjhhaaDoor
