/-
  WALK: digest.Match at any list of ids: just those that begin so, sorted, each once, in new memory.
-/
import Derived.Test.YtlljiipmkjjhhaaDoorFd6
import Derived.Test.YtlljiipmkjjhhaaDoorFd8
namespace Go.Proofs.YtlljiipmkjjhhaaDoor
open Go.RowKit Go.Shelf

/-- What Match answers. -/
structure MatchGo (w : World) (ids : List (List Int)) (p : List Int) (e : Ending) (w' : World) : Prop where
  kept : Kept [] w w'
  good : (4 ≤ p.length ∧ p.length ≤ 64 ∧ ∀ c, c ∈ p → isDigit c) → ∃ v M, e = .returned (.tuple #[v, .int .i64 0]) ∧ SortedIds M ∧ (∀ id, id ∈ M ↔ id ∈ ids.filter (hitL p)) ∧ IdsAt w' v M ∧ (M = [] → v = .slice none 0 0) ∧ (M ≠ [] → ∃ g cap, v = .slice (some ⟨g, 0, none⟩) M.length cap ∧ w.heap.size ≤ g ∧ IdIn w' g cap M)
  bad : ¬ (4 ≤ p.length ∧ p.length ≤ 64 ∧ ∀ c, c ∈ p → isDigit c) → ∃ v, e = .returned (.tuple #[v, .int .i64 20]) ∧ v = .slice none 0 0
theorem ddL_len (A : List (List Int)) : (ddL A).length ≤ A.length := by
  have key : ∀ (A acc : List (List Int)), (A.foldl (fun acc x => if acc.getLast? = some x then acc else acc ++ [x]) acc).length ≤ acc.length + A.length := fun A => by
    induction A with
    | nil => exact fun acc => Nat.le_refl _
    | cons x A ih =>
      intro acc
      rw [List.foldl_cons]
      refine Nat.le_trans (ih _) ?_
      split
      · simp
      · simp
        omega
  have h := key A []
  simpa [ddL] using h
set_option maxRecDepth 100000 in
set_option maxHeartbeats 4000000 in
theorem Match_gen (v : Value) (ids : List (List Int)) (p : List Int) (w : World) (hv : IdsAt w v ids) (hg : ∀ o, o ∈ ids → GoodID o) (hl : ids.length ≤ 100000) (hp : Octs p) (hpl : p.length ≤ 1000000000) :
    Calls Tryd.prog 5 #[v, .string (strOfNums p)] w (MatchGo w ids p) := by
  have HV : Hid (∀ W, Kept [] w W → IdsAt W v ids) := fun W k => hv.onK k
  have HG : Hid (∀ o, o ∈ ids → GoodID o) := hg
  obtain ⟨ao, cap, rfl, hcap, _, hlen, _⟩ := hv
  have hps : (strOfNums p).size = p.length := strOfNums_size p
  clear hg
  obtain ⟨S, hS⟩ : ∃ S, S = strOfNums p := ⟨_, rfl⟩
  have HS : Hid (S = strOfNums p) := hS
  rw [← hS] at hps ⊢
  clear hS
  by_cases hb : 4 ≤ p.length ∧ p.length ≤ 64
  · have t1 : decide ((p.length : Int) < 4) = false := decide_eq_false (by omega)
    have t2 : decide ((64 : Int) < (p.length : Int)) = false := decide_eq_false (by omega)
    have t1' : ¬ (p.length < 4) := by omega
    have t2' : ¬ (64 < p.length) := by omega
    have hbeg := beginning_any p w hp hb.2
    rw [← HS.out] at hbeg
    by_cases hd : ∀ c, c ∈ p → isDigit c
    · obtain ⟨st, hst⟩ : ∃ st, st = begL p p.length := ⟨_, rfl⟩
      have hgs : GoodID st := by rw [hst]; exact begL_good p
      have hbeg2 : Calls Tryd.prog 18 #[.string S] w fun e w' => e = .returned (.tuple #[.agg (idC st), .int .i64 0]) ∧ Kept [] w w' := hbeg.mono fun e w' ⟨h1, h2, _⟩ => ⟨by rw [hst]; exact h2 hd, h1⟩
      have HIT : Hid (∀ o, hitL p o = decide (p.length ≤ comL o st)) := fun o => by rw [hst]; rfl
      have HD : Hid (4 ≤ p.length ∧ p.length ≤ 64 ∧ ∀ c, c ∈ p → isDigit c) := ⟨hb.1, hb.2, hd⟩
      have hsst : (Tryd.prog.info? 24).map (·.size) = some (idC st).size := by rw [idC_size hgs.1]; exact Tryd.infoID
      have hast : (idC st).all (·.oneCell') = true := all_oneCell_toArray (map_oneCell _)
      have hs32 : (idC st).size = 32 := idC_size hgs.1
      obtain ⟨i0, hi0, hz0, hz1, hz2⟩ := info_parts Tryd.idInfo
      have hui := Tryd.underlying24
      clear hbeg hd hst hp
      obtain ⟨sc, hsc⟩ : ∃ sc, sc = idC st := ⟨_, rfl⟩
      have HSC : Hid (sc = idC st) := hsc
      rw [← hsc] at hbeg2 hsst hast hs32
      clear hsc
      go_enter Tryd.func5, Tryd.ntmps5
      go_wp2_with (first
        | (go_at_call 18; refine hbeg2.mono ?_; rintro e w1 ⟨rfl, hk1⟩
           have HK1 : Hid (Kept [] w w1) := hk1
           clear hk1)
        | (refine wpList_store_row (by rfl) 24 (.tmp 6) (.tmp 22) (by rfl) w1.heap.size sc (by rfl) (by rfl) 24 _ (heap_alloc_new w1 _) hsst hs32.symm hast ?_; rw [World.setRow_alloc_new]))
      go_loopw [8, 29] (fun s8 s29 wr => ∃ k : Nat, k ≤ ids.length ∧ s29 = .int .i64 k ∧ Hid (IdOwn wr w.heap.size s8 ((ids.take k).filter (hitL p))) ∧ Hid (wr.heap[w1.heap.size]? = some (.cells sc 24 (0, 0))) ∧ Hid (Kept [] w wr) ∧ Hid (s8.ownBlock ≠ some w1.heap.size) ∧ Hid ((ids.take k).filter (hitL p) = [] → s8 = .slice none 0 0)) (fun _ s29 _ => ids.length - (intOf s29).toNat)
      case atStart => exact ⟨0, Nat.zero_le _, rfl, ⟨rfl, Or.inl ⟨rfl, rfl⟩⟩, heap_alloc_new w1 _, HK1.out.alloc _, (fun h => by cases h), fun _ => rfl⟩
      case round =>
        obtain ⟨k, hk, rfl, HO, HB, HK, HAPT, HNIL⟩ := hrel
        by_cases hlt : k < ids.length
        · obtain ⟨o, ho⟩ : ∃ o, ids[k]? = some o := ⟨_, List.getElem?_eq_getElem hlt⟩
          have hgo := HG.out o (List.mem_of_getElem? ho)
          obtain ⟨ao', cap', he, _, _, _, hc⟩ := HV.out wr HK.out
          injection he with e1 e2 e3
          subst e1 e3
          obtain ⟨b, off, rfl, hh⟩ := hc (by rintro rfl; simp at hlt)
          have hr := hh k o ho
          have hso : (Tryd.prog.info? 24).map (·.size) = some (o.map (Value.int .u8)).length := by rw [List.length_map, hgo.1]; exact Tryd.infoID
          have hsoc : (Tryd.prog.info? 24).map (·.size) = some (idC o).size := by rw [idC_size hgo.1]; exact Tryd.infoID
          have hao : (idC o).all (·.oneCell') = true := all_oneCell_toArray (map_oneCell _)
          have ho32 : (idC o).size = 32 := idC_size hgo.1
          have hoc : (o.map (Value.int .u8)).toArray = idC o := rfl
          have hcom := fun W => common_any o st W hgo.1 hgo.2 hgs.1 hgs.2
          rw [← HSC.out] at hcom
          have hb0 := lt_of_block HB.out
          have hco := (comL_spec o st).1
          have HFS : Hid _ := filter_succ (hitL p) ids k o ho
          have HIO : Hid (hitL p o = decide (p.length ≤ comL o st)) := HIT.out o
          obtain ⟨Fk, hFk⟩ : ∃ Fk, Fk = (ids.take k).filter (hitL p) := ⟨_, rfl⟩
          have hFl : Fk.length ≤ 100000 := by
            rw [hFk]
            have h1 := List.length_filter_le (hitL p) (ids.take k)
            rw [List.length_take] at h1
            omega
          rw [← hFk] at HO HFS HNIL
          have hus : (o.map (Value.int .u8)).length = 1 * 32 := by rw [List.length_map, hgo.1]
          have huo : ∀ u, u ∈ o.map (Value.int .u8) → u.oneCell' = true := map_oneCell _
          have hbs := fun W => run_build_k (t := 22) Tryd.underlying22 Tryd.idInfo (by decide) (by decide) (o.map (Value.int .u8)) (by rw [List.length_map, hgo.1]) W
          have hmx1 : Fk.length + 1 ≤ maxLen := by unfold maxLen; omega
          have hmx2 : (Fk.length + 1) * 32 ≤ 140737488355328 := by omega
          have hbw : w.heap.size ≤ wr.heap.size := HK.out.size
          clear hh hc ho hFk
          by_cases hit : p.length ≤ comL o st
          · have t3 : decide ((p.length : Int) ≤ (comL o st : Int)) = true := decide_eq_true (by omega)
            have HF2 : Hid ((ids.take (k + 1)).filter (hitL p) = Fk ++ [o]) := by
              have h := HFS.out
              rw [HIO.out, if_pos (by simpa using hit)] at h
              exact h
            obtain ⟨us, hus0⟩ : ∃ us, us = o.map (Value.int .u8) := ⟨_, rfl⟩
            have HUS : Hid (us = o.map (Value.int .u8)) := hus0
            rw [← hus0] at hr hso hoc hus huo hbs
            clear hgo hus0
            generalize comL o st = ck at *
            generalize idC o = oc at *
            go_wp2_with (first
              | (refine wpList_load_mid (by rfl) 24 (.tmp 31) (by rfl) b (off + k * 32) (by rfl) us _ hr hui rfl hso ?_; rw [hoc])
              | (refine wpList_store_row (by rfl) 24 (.tmp 10) (.tmp 32) (by rfl) wr.heap.size oc (by rfl) (by rfl) 24 _ (heap_alloc_new wr _) hsoc ho32.symm hao ?_; rw [World.setRow_alloc_new]
                 have H1 : Hid ((wr.alloc (.cells oc 24)).heap[w1.heap.size]? = some (.cells sc 24 (0, 0))) := (Below.heap_alloc _ _ _ hb0).trans HB.out)
              | (refine wpList_load_row (by rfl) 24 (.tmp 10) (by rfl) wr.heap.size (by rfl) 24 oc (0, 0) _ (heap_alloc_new wr _) hui rfl hsoc ?_)
              | (refine wpList_load_row (by rfl) 24 (.tmp 6) (by rfl) w1.heap.size (by rfl) 24 sc (0, 0) _ H1.out hui rfl hsst ?_)
              | (go_at_call 19; refine (hcom _).mono ?_; rintro e w2 ⟨rfl, hk2⟩
                 have H2 : Hid (w2.heap[w1.heap.size]? = some (.cells sc 24 (0, 0))) := hk2.heap H1.out (by simp)
                 have HB2 : Hid (w2.heap[wr.heap.size]? = some (.cells oc 24 (0, 0))) := hk2.heap (heap_alloc_new wr _) (by simp)
                 have HK2 : Hid (Kept [] w w2) := (HK.out.alloc _).then hk2
                 have HO2 : Hid (IdOwn w2 w.heap.size u8 Fk) := ownsK_on HO.out (((Kept.refl [] wr).alloc _).then hk2) (fun _ _ => by simp)
                 obtain ⟨Z5, hZ5⟩ : ∃ Z5, Z5 = w2.alloc (.cells us.toArray 24) := ⟨_, rfl⟩
                 have HZ5 : Hid (Z5 = w2.alloc (.cells us.toArray 24)) := hZ5
                 have k5 : Kept [] w2 Z5 := by rw [hZ5]; exact (Kept.refl _ _).alloc _
                 have HK5 : Hid (Kept [] w2 Z5) := k5
                 have own5 : Z5.ownsRow w.heap.size 24 32 u8 Fk.length (Fk.map fun id => id.map (Value.int .u8)).flatten := ownsK_on HO2.out k5 (fun _ _ => by simp)
                 have cells5 : ∀ j u, us[j]? = some u → Z5.cell? ((⟨w2.heap.size, 0, none⟩ : Addr).add j) = some u := fun j u hu => by
                   rw [Addr.add_mid]
                   exact (row_range (show Z5.heap[w2.heap.size]? = _ by rw [hZ5]; exact heap_alloc_new w2 _)) j u hu
                 have hb3 : w.heap.size ≤ Z5.heap.size := Nat.le_trans HK2.out.size k5.size
                 clear hk2 k5 hZ5)
              | (refine wpList_load_row (by rfl) 24 (.tmp 10) (by rfl) wr.heap.size (by rfl) 24 oc (0, 0) _ HB2.out hui rfl hsoc ?_; rw [← hoc])
              | (refine wpList_slice_k (by rfl) 22 24 (.tmp 40) (by rfl) us (by rfl) hbs ?_; rw [← HZ5.out])
              | (at_builtin; refine wpList_append_own_at _ rfl (.tmp 39) (.tmp 41) 22 rfl w.heap.size 24 i0 _ 32 32 Tryd.underlying22 hi0 hz0 hz1 hz2 Tryd.idZero (by decide) u8 Fk.length _ rfl own5 ⟨w2.heap.size, 0, none⟩ 1 1 us rfl hus cells5 huo hmx1 hmx2 hb3 ?_
                 intro v6 w6 own6 hgr6 _ hor6
                 have HK6 : Hid (Kept [] w w6) := by
                   have h1 : Kept [] w Z5 := HK2.out.then HK5.out
                   refine h1.grown hgr6 (fun q e => Or.inr ?_)
                   obtain ⟨_, ⟨hv, _⟩ | ⟨g', _, _, hv, hB', _⟩⟩ := own5
                   · rw [hv] at e; cases e
                   · rw [hv] at e; cases e; exact hB'
                 have HB6 : Hid (w6.heap[w1.heap.size]? = some (.cells sc 24 (0, 0))) := by
                   refine (hgr6.block _ (lt_of_block (HK5.out.heap H2.out (by simp))) (fun e => ?_)).trans (HK5.out.heap H2.out (by simp))
                   obtain ⟨_, ⟨hv, _⟩ | ⟨g', _, cur, hv, hB', hc', _⟩⟩ := own5
                   · rw [hv] at e; cases e
                   · rw [hv] at e
                     cases e
                     exact HAPT.out (by rw [hv]; rfl)
                 have HO6 : Hid (IdOwn w6 w.heap.size v6 (Fk ++ [o])) := by
                   show w6.ownsRow w.heap.size 24 32 v6 (Fk ++ [o]).length ((Fk ++ [o]).map fun id => id.map (Value.int .u8)).flatten
                   rw [List.length_append, List.length_singleton, List.map_append, List.flatten_append]
                   simp only [List.map_cons, List.map_nil, List.flatten_cons, List.flatten_nil, List.append_nil]
                   rw [HUS.out] at own6
                   exact own6
                 have HAP6 : Hid (v6.ownBlock ≠ some w1.heap.size) := by
                   rcases hor6 with e | e
                   · rw [e]; exact HAPT.out
                   · rw [e]
                     have q1 := lt_of_block (HK5.out.heap H2.out (by simp))
                     intro h
                     injection h with h
                     omega
                 clear own6 hgr6 hor6))
            go_roundw
            case rel => exact ⟨k + 1, by omega, by go_num, by rw [HF2.out]; exact HO6.out, HB6, HK6, HAP6, fun h => by rw [HF2.out] at h; simp at h⟩
            case measure => simp [intOf]; omega
          · have t3 : decide ((p.length : Int) ≤ (comL o st : Int)) = false := decide_eq_false (by omega)
            have HF2 : Hid ((ids.take (k + 1)).filter (hitL p) = Fk) := by
              have h := HFS.out
              rw [HIO.out, if_neg (by simpa using hit), List.append_nil] at h
              exact h
            clear hgo hbs hus huo
            generalize comL o st = ck at *
            generalize idC o = oc at *
            go_wp2_with (first
              | (refine wpList_load_mid (by rfl) 24 (.tmp 31) (by rfl) b (off + k * 32) (by rfl) (o.map (Value.int .u8)) _ hr hui rfl hso ?_; rw [hoc])
              | (refine wpList_store_row (by rfl) 24 (.tmp 10) (.tmp 32) (by rfl) wr.heap.size oc (by rfl) (by rfl) 24 _ (heap_alloc_new wr _) hsoc ho32.symm hao ?_; rw [World.setRow_alloc_new]
                 have H1 : Hid ((wr.alloc (.cells oc 24)).heap[w1.heap.size]? = some (.cells sc 24 (0, 0))) := (Below.heap_alloc _ _ _ hb0).trans HB.out)
              | (refine wpList_load_row (by rfl) 24 (.tmp 10) (by rfl) wr.heap.size (by rfl) 24 oc (0, 0) _ (heap_alloc_new wr _) hui rfl hsoc ?_)
              | (refine wpList_load_row (by rfl) 24 (.tmp 6) (by rfl) w1.heap.size (by rfl) 24 sc (0, 0) _ H1.out hui rfl hsst ?_)
              | (go_at_call 19; refine (hcom _).mono ?_; rintro e w2 ⟨rfl, hk2⟩
                 have H2 : Hid (w2.heap[w1.heap.size]? = some (.cells sc 24 (0, 0))) := hk2.heap H1.out (by simp)
                 have HK2 : Hid (Kept [] w w2) := (HK.out.alloc _).then hk2
                 have HO2 : Hid (IdOwn w2 w.heap.size u8 Fk) := ownsK_on HO.out (((Kept.refl [] wr).alloc _).then hk2) (fun _ _ => by simp)
                 clear hk2))
            go_roundw
            case rel => exact ⟨k + 1, by omega, by go_num, by rw [HF2.out]; exact HO2.out, H2, HK2, HAPT, fun h => HNIL.out (by rw [HF2.out] at h; exact h)⟩
            case measure => simp [intOf]; omega
        · have hkk : k = ids.length := by omega
          have HO2 : Hid (IdOwn wr w.heap.size u8 (ids.filter (hitL p))) := by
            have h := HO.out
            rw [hkk, List.take_length] at h
            exact h
          have tE : decide ((k : Int) < (ids.length : Int)) = false := decide_eq_false (by omega)
          have tE2 : ¬ k < ids.length := hlt
          have hgF : ∀ id, id ∈ ids.filter (hitL p) → GoodID id := fun id h => HG.out id (List.mem_filter.1 h).1
          have hlF : (ids.filter (hitL p)).length ≤ 1000000 := Nat.le_trans (List.length_filter_le _ _) (by omega)
          have HNL : Hid (ids.filter (hitL p) = [] → u8 = .slice none 0 0) := by
            have h := HNIL.out
            rw [hkk, List.take_length] at h
            exact h
          by_cases hF0 : ids.filter (hitL p) = []
          · have HF0 : Hid (ids.filter (hitL p) = []) := hF0
            clear hF0
            have hsort := SortIds_any HO2.out hgF hlF
            have hcomp : ∀ W, IdsAt W u8 [] → Calls Tryd.prog 23 #[u8] W fun e w' => e = .returned u8 ∧ Kept [] W w' := fun W hi => Compact_any hi (fun id h => by cases h) List.nodup_nil
            clear hkk hlt hgF hlF
            go_wp2_with (first
              | (go_at_call 20; refine hsort.mono ?_; rintro e w2 ⟨rfl, M, hpm, _, hat, S1, hk2, hS1⟩
                 obtain rfl : M = [] := by have h := hpm; rw [HF0.out] at h; exact h.eq_nil
                 have HM : Hid (IdsAt w2 u8 []) := hat
                 have HK2 : Hid (Kept [] w w2) := HK.out.trans hk2 (fun y hy => Or.inr (hS1 y hy))
                 have hcm := hcomp w2 hat
                 clear hpm hat hk2 hS1)
              | (go_at_call 23; refine hcm.mono ?_; rintro e w3 ⟨rfl, hk3⟩
                 have HK3 : Hid (Kept [] w2 w3) := hk3
                 clear hk3))
            refine bodyPost_ret (v := .tuple #[u8, .int .i64 0]) (by simp [results, Tryd.results5, go_sem]) rfl ?_
            exact ⟨HK2.out.then HK3.out, fun _ => ⟨u8, [], rfl, List.Pairwise.nil, fun id => by rw [HF0.out], HM.out.onK HK3.out, fun _ => HNL.out HF0.out, fun h => absurd rfl h⟩, fun h => absurd HD.out h⟩
          · have HF0 : Hid (¬ ids.filter (hitL p) = []) := hF0
            clear hF0
            by_cases h2F : 2 ≤ (ids.filter (hitL p)).length
            · obtain ⟨g, gc, hu8, hBg, hsort⟩ := SortIds_in HO2.out hgF hlF (fun e => HF0.out e)
              have hcomp : ∀ M W, M.Perm (ids.filter (hitL p)) → IdIn W g gc M → Calls Tryd.prog 23 #[u8] W fun e w' => e = .returned (.slice (some ⟨g, 0, none⟩) (ddL M).length gc) ∧ IdIn w' g gc (ddL M) ∧ Kept [g] W w' := fun M W hp hi => by
                rw [hu8, ← hp.length_eq]
                exact Compact_gen hi (by rw [hp.length_eq]; exact hlF) (by rw [hp.length_eq]; exact h2F)
              have HLF : Hid ((ids.filter (hitL p)).length ≤ 1000000) := hlF
              clear hkk hlt hgF hlF hu8
              go_wp2_with (first
                | (go_at_call 20; refine hsort.mono ?_; rintro e w2 ⟨rfl, M, hpm, hpw, hin, hk2⟩
                   have HM : Hid (M.Perm (ids.filter (hitL p)) ∧ SortedIds (ddL M) ∧ ∀ id, id ∈ ddL M ↔ id ∈ M) := ⟨hpm, ddL_sorted M hpw⟩
                   have HK2 : Hid (Kept [] w w2) := HK.out.trans hk2 (fun y hy => Or.inr (by rw [List.mem_singleton.1 hy]; exact hBg))
                   have hcm := hcomp M w2 hpm hin
                   clear hpm hpw hin hk2)
                | (go_at_call 23; refine hcm.mono ?_; rintro e w3 ⟨rfl, hin3, hk3⟩
                   have HK3 : Hid (Kept [] w w3 ∧ IdIn w3 g gc (ddL M)) := ⟨HK2.out.trans hk3 (fun y hy => Or.inr (by rw [List.mem_singleton.1 hy]; exact hBg)), hin3⟩
                   clear hk3 hin3))
              refine bodyPost_ret (v := .tuple #[.slice (some ⟨g, 0, none⟩) (ddL M).length gc, .int .i64 0]) (by simp [results, Tryd.results5, go_sem]) rfl ?_
              have hdd := HM.out.2
              have hle : (ddL M).length ≤ 1000000 := by
                have h1 := ddL_len M
                have h2 := HM.out.1.length_eq
                have h3 := HLF.out
                omega
              refine ⟨HK3.out.1, fun _ => ⟨_, ddL M, rfl, hdd.1, fun id => by rw [hdd.2, HM.out.1.mem_iff], ?_, fun h => ?_, fun _ => ⟨g, gc, rfl, hBg, HK3.out.2⟩⟩, fun h => absurd HD.out h⟩
              · have h := HK3.out.2.at hle (Nat.le_refl _)
                rw [List.take_length] at h
                exact h
              · exfalso
                obtain ⟨z, hz⟩ := List.exists_mem_of_ne_nil _ HF0.out
                have h9 := (hdd.2 z).2 (HM.out.1.mem_iff.2 hz)
                rw [h] at h9
                cases h9
            · obtain ⟨z, hz⟩ : ∃ z, ids.filter (hitL p) = [z] := by
                match hq : ids.filter (hitL p), HF0.out with
                | [z], _ => exact ⟨z, rfl⟩
                | _ :: _ :: _, _ => rw [hq] at h2F; simp at h2F
              have HF1 : Hid (ids.filter (hitL p)).Nodup := by
                show (ids.filter (hitL p)).Nodup
                rw [hz]; simp
              have HS1 : Hid (SortedIds (ids.filter (hitL p))) := by
                show SortedIds (ids.filter (hitL p))
                rw [hz]; exact List.pairwise_singleton _ _
              have HP1 : Hid (∀ M, M.Perm (ids.filter (hitL p)) → M = ids.filter (hitL p)) := fun M hM => by
                rw [hz] at hM ⊢
                exact List.perm_singleton.1 hM
              clear hz h2F
              obtain ⟨g, gc, hu8, hBg, hsort⟩ := SortIds_in HO2.out hgF hlF (fun e => HF0.out e)
              have hcomp : ∀ W, IdIn W g gc (ids.filter (hitL p)) → Calls Tryd.prog 23 #[u8] W fun e w' => e = .returned u8 ∧ Kept [] W w' := fun W hi => by
                have h := hi.at hlF (Nat.le_refl _)
                rw [List.take_length, ← hu8] at h
                exact Compact_any h hgF (HF1.out)
              have HU8 : Hid (u8 = .slice (some ⟨g, 0, none⟩) (ids.filter (hitL p)).length gc ∧ w.heap.size ≤ g ∧ (ids.filter (hitL p)).length ≤ 1000000) := ⟨hu8, hBg, hlF⟩
              clear hkk hlt hgF hlF hu8
              go_wp2_with (first
                | (go_at_call 20; refine hsort.mono ?_; rintro e w2 ⟨rfl, M, hpm, _, hin, hk2⟩
                   obtain rfl : M = ids.filter (hitL p) := HP1.out M hpm
                   have HM : Hid (IdIn w2 g gc (ids.filter (hitL p))) := hin
                   have HK2 : Hid (Kept [] w w2) := HK.out.trans hk2 (fun y hy => Or.inr (by rw [List.mem_singleton.1 hy]; exact hBg))
                   have hcm := hcomp w2 hin
                   clear hpm hin hk2)
                | (go_at_call 23; refine hcm.mono ?_; rintro e w3 ⟨rfl, hk3⟩
                   have HK3 : Hid (Kept [] w2 w3) := hk3
                   clear hk3))
              refine bodyPost_ret (v := .tuple #[u8, .int .i64 0]) (by simp [results, Tryd.results5, go_sem]) rfl ?_
              have hI3 := HM.out.on HK3.out
              refine ⟨HK2.out.then HK3.out, fun _ => ⟨u8, ids.filter (hitL p), rfl, HS1.out, fun id => Iff.rfl, ?_, fun h => absurd h HF0.out, fun _ => ⟨g, gc, HU8.out.1, HU8.out.2.1, hI3⟩⟩, fun h => absurd HD.out h⟩
              have h := hI3.at HU8.out.2.2 (Nat.le_refl _)
              rw [List.take_length, ← HU8.out.1] at h
              exact h
    · have hbeg2 : Calls Tryd.prog 18 #[.string S] w fun e w' => e = .returned (.tuple #[.agg (idC zero32), .int .i64 20]) ∧ Kept [] w w' := hbeg.mono fun e w' ⟨h1, _, h2⟩ => ⟨h2 hd, h1⟩
      have HD : Hid (¬ (4 ≤ p.length ∧ p.length ≤ 64 ∧ ∀ c, c ∈ p → isDigit c)) := fun h => hd h.2.2
      have hsst : (Tryd.prog.info? 24).map (·.size) = some (idC zero32).size := Tryd.infoID
      have hast : (idC zero32).all (·.oneCell') = true := all_oneCell_toArray (map_oneCell _)
      have hs32 : (idC zero32).size = 32 := rfl
      clear hbeg hd
      generalize idC zero32 = sc at *
      go_enter Tryd.func5, Tryd.ntmps5
      go_wp2_with (first
        | (go_at_call 18; refine hbeg2.mono ?_; rintro e w1 ⟨rfl, hk1⟩
           have HK1 : Hid (Kept [] w w1) := hk1
           clear hk1)
        | (refine wpList_store_row (by rfl) 24 (.tmp 6) (.tmp 22) (by rfl) w1.heap.size sc (by rfl) (by rfl) 24 _ (heap_alloc_new w1 _) hsst hs32.symm hast ?_; rw [World.setRow_alloc_new]))
      refine bodyPost_ret (v := .tuple #[.slice none 0 0, .int .i64 20]) (by simp [results, Tryd.results5, go_sem]) rfl ?_
      exact ⟨HK1.out.alloc _, fun h => absurd h HD.out, fun _ => ⟨_, rfl, rfl⟩⟩
  · have HD : Hid (¬ (4 ≤ p.length ∧ p.length ≤ 64 ∧ ∀ c, c ∈ p → isDigit c)) := fun h => hb ⟨h.1, h.2.1⟩
    by_cases h4 : p.length < 4
    · have t1 : decide ((p.length : Int) < 4) = true := decide_eq_true (by omega)
      clear hb
      go_enter Tryd.func5, Tryd.ntmps5
      go_wp2
      refine bodyPost_ret (v := .tuple #[.slice none 0 0, .int .i64 20]) (by simp [results, Tryd.results5, go_sem]) rfl ?_
      exact ⟨Kept.refl _ _, fun h => absurd h HD.out, fun _ => ⟨_, rfl, rfl⟩⟩
    · have t1 : decide ((p.length : Int) < 4) = false := decide_eq_false (by omega)
      have t2 : decide ((64 : Int) < (p.length : Int)) = true := decide_eq_true (by omega)
      have t2' : 64 < p.length := by omega
      clear hb
      go_enter Tryd.func5, Tryd.ntmps5
      go_wp2
      refine bodyPost_ret (v := .tuple #[.slice none 0 0, .int .i64 20]) (by simp [results, Tryd.results5, go_sem]) rfl ?_
      exact ⟨Kept.refl _ _, fun h => absurd h HD.out, fun _ => ⟨_, rfl, rfl⟩⟩
end Go.Proofs.YtlljiipmkjjhhaaDoor
