/-
  WALK: satchelref0.SortIDs.
-/
import Derived.Test.YtlljiipmkjjhhaaDoorDm1
import Derived.Test.YtlljiipmkjjhhaaDoorAppH
namespace Go.Proofs.YtlljiipmkjjhhaaDoor
open Go.RowKit

theorem IdOwn.push1 {W : World} {B : Nat} {v : Value} {out : List (List Int)} {x : List Int} (h : W.ownsRow B 24 32 v (out.length + [x.map (Value.int .u8)].length) ((out.map fun id => id.map (Value.int .u8)).flatten ++ [x.map (Value.int .u8)].flatten)) : IdOwn W B v (out ++ [x]) := by
  unfold IdOwn
  rw [List.length_append, List.map_append, List.flatten_append]
  exact h
theorem setRowI_heap {W : World} {g : Nat} {cs cs' : Array Value} {t : TypeId} {fr : Nat × Nat} (h : W.heap[g]? = some (.cells cs t fr)) : (W.setRow g cs').heap[g]? = some (.cells cs' t fr) := by
  show (W.heap.modify g _)[g]? = _
  rw [Array.getElem?_modify, if_pos rfl, h]
  rfl
theorem IdOwn.above {w : World} {B : Nat} {v : Value} {ids : List (List Int)} (h : IdOwn w B v ids) (b : Nat) (hb : v.ownBlock = some b) : B ≤ b := (World.ownsRow.lt h b hb).1
theorem IdsAt.pick {w : World} {a : Option Addr} {n c : Nat} {A : List (List Int)} (h : IdsAt w (.slice a n c) A) {i : Nat} (hi : i < A.length) : ∃ b off, a = some ⟨b, off, none⟩ ∧ ∀ W, Kept [] w W → ∀ (i : Nat) (x : List Int), A[i]? = some x → W.rangeAt b (off + i * 32) (x.map (Value.int .u8)) := by
  obtain ⟨ao, cap, he, _, _, _, hc⟩ := h
  injection he with e1 _ _
  subst e1
  obtain ⟨b, off, rfl, hh⟩ := hc (by rintro rfl; simp at hi)
  exact ⟨b, off, rfl, fun W k i x hx => range_kept (hh i x hx) k (by simp)⟩
theorem IdsAt.half {w : World} {b off n cap : Nat} {ids : List (List Int)} (h : IdsAt w (.slice (some ⟨b, off, none⟩) n cap) ids) (m : Nat) (hm : m ≤ ids.length) : IdsAt w (.slice (some ⟨b, off, none⟩) m cap) (ids.take m) ∧ IdsAt w (.slice (some ⟨b, off + m * 32, none⟩) (ids.length - m) (cap - m)) (ids.drop m) := by
  obtain ⟨ao, cap', he, h1, h2, h3, hc⟩ := h
  injection he with e1 e2 e3
  subst e1 e2 e3
  refine ⟨⟨_, cap, by rw [List.length_take, Nat.min_eq_left hm], by rw [List.length_take]; omega, (fun h => by cases h), by rw [List.length_take]; omega, fun hne => ⟨b, off, rfl, fun i x hx => ?_⟩⟩, ⟨_, cap - m, by rw [List.length_drop], by rw [List.length_drop]; omega, (fun h => by cases h), by rw [List.length_drop]; omega, fun hne => ⟨b, off + m * 32, rfl, fun i x hx => ?_⟩⟩⟩
  · obtain ⟨b', o', hb, hh⟩ := hc (by rintro rfl; simp at hne)
    cases hb
    rw [List.getElem?_take] at hx
    split at hx
    · exact hh i x hx
    · cases hx
  · obtain ⟨b', o', hb, hh⟩ := hc (by rintro rfl; simp at hne)
    cases hb
    rw [List.getElem?_drop] at hx
    have := hh (m + i) x hx
    rwa [Nat.add_mul, ← Nat.add_assoc] at this
set_option maxRecDepth 100000 in
set_option maxHeartbeats 8000000 in
theorem SortIDs_any (n : Nat) : ∀ (v : Value) (ids : List (List Int)) (w : World), ids.length ≤ n → IdsAt w v ids → (∀ o, o ∈ ids → GoodID o) → ids.length ≤ 400000 → Calls Tryd.prog 57 #[v] w (SortTo w ids) := by
  induction n with
  | zero => exact fun v ids w hn hv hg _ => SortIDs_few v ids w hv hg (by omega)
  | succ n ih =>
    intro v ids w hn hv hg hl
    by_cases h2 : ids.length < 2
    · exact SortIDs_few v ids w hv hg h2
    · have HV : Hid (∀ W, Kept [] w W → IdsAt W v ids) := fun W k => hv.onK k
      have HG : Hid (∀ o, o ∈ ids → GoodID o) := hg
      obtain ⟨ao, cap, rfl, hcap, _, hlen, hc⟩ := hv
      obtain ⟨b, off, hb, _⟩ := hc (by rintro rfl; simp at h2)
      subst hb
      obtain ⟨m, hm⟩ : ∃ m, m = ids.length / 2 := ⟨_, rfl⟩
      have hq : (ids.length : Int).tdiv 2 = (m : Int) := by rw [hm]; exact (Int.ofNat_tdiv ids.length 2).symm
      have HA : Hid (∀ W, Kept [] w W → Calls Tryd.prog 57 #[.slice (some ⟨b, off, none⟩) m cap] W (SortTo W (ids.take m))) := fun W k => ih _ _ W (by rw [List.length_take]; omega) ((HV.out W k).half m (by omega)).1 (fun o ho => HG.out o (List.mem_of_mem_take ho)) (by rw [List.length_take]; omega)
      have HB : Hid (∀ W, Kept [] w W → Calls Tryd.prog 57 #[.slice (some ⟨b, off + m * 32, none⟩) (ids.length - m) (cap - m)] W (SortTo W (ids.drop m))) := fun W k => ih _ _ W (by rw [List.length_drop]; omega) ((HV.out W k).half m (by omega)).2 (fun o ho => HG.out o (List.mem_of_mem_drop ho)) (by rw [List.length_drop]; omega)
      have HML : Hid (m ≤ ids.length ∧ 2 ≤ ids.length) := ⟨by omega, by omega⟩
      have hui := Tryd.underlying24
      have m0 : (0 : Int) ≤ (m : Int) := by omega
      have m1 : (m : Int) ≤ (ids.length : Int) := by omega
      have m2 : (m : Int) ≤ (cap : Int) := by omega
      have m3 : ¬ (cap = m) := by omega
      have m4 : ¬ (m = cap) := by omega
      clear hc hm hg ih
      go_enter Tryd.func57, Tryd.ntmps57
      go_wp2_with fail
      go_at_call 57
      refine (HA.out _ (Kept.refl _ _)).mono ?_
      rintro e w1 ⟨va, A, rfl, sA, mA, lA, iA, k1⟩
      have HK1 : Hid (Kept [] w w1) := k1
      go_wp2_with fail
      go_at_call 57
      refine (HB.out _ HK1.out).mono ?_
      rintro e w2 ⟨vb, L, rfl, sL, mL, lL, iL, k2⟩
      have HK2 : Hid (Kept [] w w2) := HK1.out.then k2
      have iA2 := iA.onK k2
      have HGA : Hid (∀ o, o ∈ A → GoodID o) := fun o ho => HG.out o (List.mem_of_mem_take ((mA o).1 ho))
      have HGL : Hid (∀ o, o ∈ L → GoodID o) := fun o ho => HG.out o (List.mem_of_mem_drop ((mL o).1 ho))
      have HSA : Hid (SortedIds A) := sA
      have HSL : Hid (SortedIds L) := sL
      have HMM : Hid (∀ x, x ∈ ids ↔ x ∈ A ∨ x ∈ L) := fun x => by
        rw [mA x, mL x, ← List.mem_append, List.take_append_drop]
      have HLL : Hid (A.length + L.length ≤ ids.length) := by
        rw [List.length_take] at lA
        rw [List.length_drop] at lL
        show A.length + L.length ≤ ids.length
        have := HML.out
        omega
      have HIA : Hid (IdsAt w2 va A) := iA2
      have HIL : Hid (IdsAt w2 vb L) := iL
      obtain ⟨aa, ca, hva, hca, _, _, _⟩ := iA2
      subst hva
      obtain ⟨ab, cb, hvb, hcb, _, _, _⟩ := iL
      subst hvb
      have HAI : Hid (∀ {i : Nat}, i < A.length → ∃ ba oa, aa = some ⟨ba, oa, none⟩ ∧ ∀ W, Kept [] w2 W → ∀ (i : Nat) (x : List Int), A[i]? = some x → W.rangeAt ba (oa + i * 32) (x.map (Value.int .u8))) := fun hi => IdsAt.pick HIA.out hi
      have HLI : Hid (∀ {j : Nat}, j < L.length → ∃ bb ob, ab = some ⟨bb, ob, none⟩ ∧ ∀ W, Kept [] w2 W → ∀ (i : Nat) (x : List Int), L[i]? = some x → W.rangeAt bb (ob + i * 32) (x.map (Value.int .u8))) := fun hi => IdsAt.pick HIL.out hi
      clear iA mA lA sA mL lL sL k1 k2
      go_wp2
      go_loopw [6, 7, 8, 9] (fun s6 s7 s8 _ wr => ∃ (i j : Nat) (out : List (List Int)), s7 = .int .i64 i ∧ s8 = .int .i64 j ∧ i ≤ A.length ∧ j ≤ L.length ∧ Hid (IdOwn wr w2.heap.size s6 out) ∧ Hid (Kept [] w2 wr) ∧ Hid (MrgTo A L i j out) ∧ out.length ≤ i + j) (fun _ s7 s8 _ _ => (A.length - (intOf s7).toNat) + (L.length - (intOf s8).toNat))
      case atStart => exact ⟨0, 0, [], rfl, rfl, Nat.zero_le _, Nat.zero_le _, ⟨rfl, Or.inl ⟨rfl, rfl⟩⟩, Kept.refl _ _, MrgTo.start A L, Nat.le_refl _⟩
      case round =>
        obtain ⟨i, j, out, rfl, rfl, hi, hj, HO, HK, HM, hol⟩ := hrel
        have hLL := HLL.out
        have HOB : Hid (∀ y, u6.ownBlock = some y → w2.heap.size ≤ y) := fun y hy => IdOwn.above HO.out y hy
        by_cases hil : i < A.length
        · have ti : decide ((i : Int) < (A.length : Int)) = true := decide_eq_true (by omega)
          have i0 : (0 : Int) ≤ (i : Int) := by omega
          have i1 : (i : Int) < (A.length : Int) := by omega
          have i2 : (i : Int) < (ca : Int) := by omega
          obtain ⟨x, hxx⟩ : ∃ x, A[i]? = some x := ⟨_, List.getElem?_eq_getElem hil⟩
          have hgx := HGA.out x (List.mem_of_getElem? hxx)
          obtain ⟨X, hXX⟩ : ∃ X, X = x.map (Value.int .u8) := ⟨_, rfl⟩
          have HX : Hid (X = x.map (Value.int .u8)) := hXX
          have hXl : X.length = 32 := by rw [hXX, List.length_map]; exact hgx.1
          have hX1 : ∀ v, v ∈ X → v.oneCell' = true := by rw [hXX]; exact map_oneCell _
          have hsX : (Tryd.prog.info? 24).map (·.size) = some X.length := by rw [hXl]; exact Tryd.infoID
          have hsXa : (Tryd.prog.info? 24).map (·.size) = some X.toArray.size := by rw [List.size_toArray, hXl]; exact Tryd.infoID
          have hXA : X.toArray.all (·.oneCell') = true := all_oneCell_toArray hX1
          have HXx : Hid (A[i]? = some x) := hxx
          obtain ⟨ba, oa, rfl, HQA⟩ := HAI.out hil
          have hrX : (wr.alloc (.cells (idC zero32) 24)).rangeAt ba (oa + i * 32) X := by rw [hXX]; exact HQA _ ((HK.out.alloc _)) i x hxx
          by_cases hjl : j < L.length
          · have tj : decide ((j : Int) < (L.length : Int)) = true := decide_eq_true (by omega)
            have tje : decide ((j : Int) = (L.length : Int)) = false := decide_eq_false (by omega)
            have tje2 : ((j : Int) == (L.length : Int)) = false := by simp; omega
            have tie : decide ((i : Int) = (A.length : Int)) = false := decide_eq_false (by omega)
            have tie2 : ((i : Int) == (A.length : Int)) = false := by simp; omega
            have j0 : (0 : Int) ≤ (j : Int) := by omega
            have j1 : (j : Int) < (L.length : Int) := by omega
            have j2 : (j : Int) < (cb : Int) := by omega
            obtain ⟨y, hxy⟩ : ∃ x, L[j]? = some x := ⟨_, List.getElem?_eq_getElem hjl⟩
            have hgy := HGL.out y (List.mem_of_getElem? hxy)
            obtain ⟨Y, hXY⟩ : ∃ X, X = y.map (Value.int .u8) := ⟨_, rfl⟩
            have HY : Hid (Y = y.map (Value.int .u8)) := hXY
            have hYl : Y.length = 32 := by rw [hXY, List.length_map]; exact hgy.1
            have hY1 : ∀ v, v ∈ Y → v.oneCell' = true := by rw [hXY]; exact map_oneCell _
            have hsY : (Tryd.prog.info? 24).map (·.size) = some Y.length := by rw [hYl]; exact Tryd.infoID
            have hsYa : (Tryd.prog.info? 24).map (·.size) = some Y.toArray.size := by rw [List.size_toArray, hYl]; exact Tryd.infoID
            have hYA : Y.toArray.all (·.oneCell') = true := all_oneCell_toArray hY1
            have HXy : Hid (L[j]? = some y) := hxy
            obtain ⟨bb, ob, rfl, HQL⟩ := HLI.out hjl
            have hrY : (wr.alloc (.cells (idC zero32) 24)).rangeAt bb (ob + j * 32) Y := by rw [hXY]; exact HQL _ ((HK.out.alloc _)) j y hxy
            have HRA : Hid (∀ W, Kept [] (wr.alloc (.cells (idC zero32) 24)) W → W.rangeAt ba (oa + i * 32) X) := fun W k => range_kept hrX k (by simp)
            have HRB : Hid (∀ W, Kept [] (wr.alloc (.cells (idC zero32) 24)) W → W.rangeAt bb (ob + j * 32) Y) := fun W k => range_kept hrY k (by simp)
            obtain ⟨cz, hcz⟩ : ∃ c, c = cmpB x y := ⟨_, rfl⟩
            have HCZ : Hid (cz = cmpB x y) := hcz
            have HCM : Hid (∀ W, Kept [] (wr.alloc (.cells (idC zero32) 24)) W → Calls Tryd.prog 13 #[.agg X.toArray, .agg Y.toArray] W fun e w' => e = .returned (.int .i64 cz) ∧ Kept [] (wr.alloc (.cells (idC zero32) 24)) w') := fun W k => by
              have h := CmpID_any x y W hgx hgy
              rw [cmpZ_cmpB, ← hcz, show idC x = X.toArray by rw [hXX]; rfl, show idC y = Y.toArray by rw [hXY]; rfl] at h
              exact h.mono fun e w' h => ⟨h.1, k.then h.2⟩
            clear hcz
            by_cases hle : cz ≤ 0
            · have tc : decide (cz ≤ 0) = true := decide_eq_true hle
              have heqv : ∀ W, (Op.equalIn 10000 24 (.agg X.toArray) (.agg Y.toArray)).run Tryd.prog W = .ok (decide (x = y)) W := fun W => by
                have h := idEq x y W hgx.1 hgy.1
                rwa [show idC x = X.toArray by rw [hXX]; rfl, show idC y = Y.toArray by rw [hXY]; rfl] at h
              have HLE : Hid (cmpB x y < 0 ∨ x = y) := cmpB_le (by rw [← HCZ.out]; exact hle)
              clear hgx hgy hxx hxy hXX hXY
              go_wp2_with fail
              refine region_quiet (Kept [] (wr.alloc (.cells (idC zero32) 24))) (by kernel_rfl) (by kernel_rfl) (Kept.refl [] (wr.alloc (.cells (idC zero32) 24))).drew ?_
              with_reducible refine wpQuiet_step ?_
              intro K hK
              rw [if_pos (by go_simp)]
              refine move_at (.tmp 4) rfl (.slice (some ⟨ba, oa, none⟩) A.length ca) rfl (hK _ ?_)
              clear hK K
              simp only [Act.put, List.setIfInBounds_toArray, List.set_cons_zero, List.set_cons_succ]
              with_reducible refine wpQuiet_step ?_
              intro K hK
              rw [if_pos (by go_simp)]
              refine move_at (.tmp 7) rfl (.int .i64 i) rfl (hK _ ?_)
              clear hK K
              simp only [Act.put, List.setIfInBounds_toArray, List.set_cons_zero, List.set_cons_succ]
              with_reducible refine wpQuiet_step ?_
              intro K hK
              rw [if_pos (by go_simp)]
              refine val_at (.pointer (some ⟨ba, oa + i * 32, none⟩)) (fun W => by go_simp) (hK _ ?_)
              clear hK K
              simp only [Act.put, List.setIfInBounds_toArray, List.set_cons_zero, List.set_cons_succ]
              with_reducible refine wpQuiet_step ?_
              intro K hK
              rw [if_pos (by go_simp)]
              refine row_at 24 (.tmp 73) rfl ba (oa + i * 32) rfl X _ HRA.out hui rfl hsX (hK _ ?_)
              clear hK K
              simp only [Act.put, List.setIfInBounds_toArray, List.set_cons_zero, List.set_cons_succ]
              with_reducible refine wpQuiet_step ?_
              intro K hK
              rw [if_pos (by go_simp)]
              refine move_at (.tmp 5) rfl (.slice (some ⟨bb, ob, none⟩) L.length cb) rfl (hK _ ?_)
              clear hK K
              simp only [Act.put, List.setIfInBounds_toArray, List.set_cons_zero, List.set_cons_succ]
              with_reducible refine wpQuiet_step ?_
              intro K hK
              rw [if_pos (by go_simp)]
              refine move_at (.tmp 8) rfl (.int .i64 j) rfl (hK _ ?_)
              clear hK K
              simp only [Act.put, List.setIfInBounds_toArray, List.set_cons_zero, List.set_cons_succ]
              with_reducible refine wpQuiet_step ?_
              intro K hK
              rw [if_pos (by go_simp)]
              refine val_at (.pointer (some ⟨bb, ob + j * 32, none⟩)) (fun W => by go_simp) (hK _ ?_)
              clear hK K
              simp only [Act.put, List.setIfInBounds_toArray, List.set_cons_zero, List.set_cons_succ]
              with_reducible refine wpQuiet_step ?_
              intro K hK
              rw [if_pos (by go_simp)]
              refine row_at 24 (.tmp 77) rfl bb (ob + j * 32) rfl Y _ HRB.out hui rfl hsY (hK _ ?_)
              clear hK K
              simp only [Act.put, List.setIfInBounds_toArray, List.set_cons_zero, List.set_cons_succ]
              with_reducible refine wpQuiet_step ?_
              intro K hK
              rw [if_pos (by go_simp)]
              refine call_at 13 #[.agg X.toArray, .agg Y.toArray] (.int .i64 cz) (fun W => by go_simp) HCM.out (hK _ ?_)
              clear hK K
              simp only [Act.put, List.setIfInBounds_toArray, List.set_cons_zero, List.set_cons_succ]
              with_reducible refine wpQuiet_step ?_
              intro K hK
              rw [if_pos (by go_simp)]
              refine val_at (.bool true) (fun W => by go_simp) (hK _ ?_)
              clear hK K
              simp only [Act.put, List.setIfInBounds_toArray, List.set_cons_zero, List.set_cons_succ]
              with_reducible refine wpQuiet_step ?_
              intro K hK
              rw [if_pos (by go_simp)]
              refine val_at (.bool true) (fun W => by go_simp) (hK _ ?_)
              clear hK K
              simp only [Act.put, List.setIfInBounds_toArray, List.set_cons_zero, List.set_cons_succ]
              refine wpQuiet_nil ?_
              intro wz hkz
              have HKZ : Hid (Kept [] (wr.alloc (.cells (idC zero32) 24)) wz) := hkz
              clear hkz
              obtain ⟨V, hV⟩ : ∃ V, V = wz.setRow wr.heap.size X.toArray := ⟨_, rfl⟩
              have HV : Hid (V = wz.setRow wr.heap.size X.toArray) := hV
              have hbz : wz.heap[wr.heap.size]? = some (.cells (idC zero32) 24 (0, 0)) := HKZ.out.heap (heap_alloc_new wr _) (by simp)
              have kV : Kept [wr.heap.size] wz V := by rw [hV]; exact ⟨rfl, rfl, rfl, by simp, fun q _ hq => setRow_other wz wr.heap.size q _ (by simpa using hq)⟩
              have kV0 : Kept [] wr V := (((Kept.refl [] wr).alloc _).then HKZ.out).trans kV (fun y hy => Or.inr (by rw [List.mem_singleton.1 hy]; exact Nat.le_refl _))
              have HBX : Hid (V.heap[wr.heap.size]? = some (.cells X.toArray 24 (0, 0))) := by rw [hV]; exact setRowI_heap hbz
              have HKV : Hid (Kept [] w2 V) := HK.out.then kV0
              have HKW : Hid (Kept [] wr V) := kV0
              have HOV : Hid (IdOwn V w2.heap.size u6 out) := ownsK_on HO.out kV0 (fun _ _ => by simp)
              have hrX9 := HRA.out wz HKZ.out
              clear kV kV0 hV hrX
              go_wp2_with (first
                | (refine wpList_load_mid (by rfl) 24 (.tmp 83) (by rfl) ba (oa + i * 32) (by rfl) X _ hrX9 hui rfl hsX ?_)
                | (refine wpList_store_row (by rfl) 24 (.tmp 9) (.tmp 84) (by rfl) wr.heap.size X.toArray (by rfl) (by rfl) 24 (idC zero32) hbz hsXa (by simp [hXl]; rfl) hXA ?_
                   rw [← HV.out]))
              have HRA2 : Hid (∀ W, Kept [] V W → W.rangeAt ba (oa + i * 32) X) := fun W k => by rw [HX.out]; exact HQA W (HKV.out.then k) i x HXx.out
              have HRB2 : Hid (∀ W, Kept [] V W → W.rangeAt bb (ob + j * 32) Y) := fun W k => by rw [HY.out]; exact HQL W (HKV.out.then k) j y HXy.out
              clear hrX9 hrY hbz
              by_cases hxy : x = y
              · have heq : ∀ W, (Op.equalIn 10000 24 (.agg X.toArray) (.agg Y.toArray)).run Tryd.prog W = .ok true W := fun W => by have h := heqv W; rwa [decide_eq_true hxy] at h
                have HST : Hid (MrgTo A L (i + 1) (j + 1) (out ++ [x])) := HM.out.both HSA.out HSL.out HXx.out (by rw [hxy]; exact HXy.out)
                clear heqv hxy
                go_wp2_with fail
                refine region_quiet (Kept [] V) (by kernel_rfl) (by kernel_rfl) (Kept.refl [] V).drew ?_
                with_reducible refine wpQuiet_step ?_
                intro K hK
                rw [if_pos (by go_simp)]
                refine move_at (.tmp 4) rfl (.slice (some ⟨ba, oa, none⟩) A.length ca) rfl (hK _ ?_)
                clear hK K
                simp only [Act.put, List.setIfInBounds_toArray, List.set_cons_zero, List.set_cons_succ]
                with_reducible refine wpQuiet_step ?_
                intro K hK
                rw [if_pos (by go_simp)]
                refine move_at (.tmp 7) rfl (.int .i64 i) rfl (hK _ ?_)
                clear hK K
                simp only [Act.put, List.setIfInBounds_toArray, List.set_cons_zero, List.set_cons_succ]
                with_reducible refine wpQuiet_step ?_
                intro K hK
                rw [if_pos (by go_simp)]
                refine val_at (.pointer (some ⟨ba, oa + i * 32, none⟩)) (fun W => by go_simp) (hK _ ?_)
                clear hK K
                simp only [Act.put, List.setIfInBounds_toArray, List.set_cons_zero, List.set_cons_succ]
                with_reducible refine wpQuiet_step ?_
                intro K hK
                rw [if_pos (by go_simp)]
                refine row_at 24 (.tmp 87) rfl ba (oa + i * 32) rfl X _ HRA2.out hui rfl hsX (hK _ ?_)
                clear hK K
                simp only [Act.put, List.setIfInBounds_toArray, List.set_cons_zero, List.set_cons_succ]
                with_reducible refine wpQuiet_step ?_
                intro K hK
                rw [if_pos (by go_simp)]
                refine move_at (.tmp 5) rfl (.slice (some ⟨bb, ob, none⟩) L.length cb) rfl (hK _ ?_)
                clear hK K
                simp only [Act.put, List.setIfInBounds_toArray, List.set_cons_zero, List.set_cons_succ]
                with_reducible refine wpQuiet_step ?_
                intro K hK
                rw [if_pos (by go_simp)]
                refine move_at (.tmp 8) rfl (.int .i64 j) rfl (hK _ ?_)
                clear hK K
                simp only [Act.put, List.setIfInBounds_toArray, List.set_cons_zero, List.set_cons_succ]
                with_reducible refine wpQuiet_step ?_
                intro K hK
                rw [if_pos (by go_simp)]
                refine val_at (.pointer (some ⟨bb, ob + j * 32, none⟩)) (fun W => by go_simp) (hK _ ?_)
                clear hK K
                simp only [Act.put, List.setIfInBounds_toArray, List.set_cons_zero, List.set_cons_succ]
                with_reducible refine wpQuiet_step ?_
                intro K hK
                rw [if_pos (by go_simp)]
                refine row_at 24 (.tmp 91) rfl bb (ob + j * 32) rfl Y _ HRB2.out hui rfl hsY (hK _ ?_)
                clear hK K
                simp only [Act.put, List.setIfInBounds_toArray, List.set_cons_zero, List.set_cons_succ]
                with_reducible refine wpQuiet_step ?_
                intro K hK
                rw [if_pos (by go_simp)]
                refine eql_at (.tmp 88) (.tmp 92) _ rfl X.toArray Y.toArray rfl rfl true heq (hK _ ?_)
                clear hK K
                simp only [Act.put, List.setIfInBounds_toArray, List.set_cons_zero, List.set_cons_succ]
                refine wpQuiet_nil ?_
                intro V2 hk2
                have HBX2 : Hid (V2.heap[wr.heap.size]? = some (.cells X.toArray 24 (0, 0))) := hk2.heap HBX.out (by simp)
                have HOV2 : Hid (IdOwn V2 w2.heap.size u6 out) := ownsK_on HOV.out hk2 (fun _ _ => by simp)
                have HKV2 : Hid (Kept [] w2 V2) := HKV.out.then hk2
                clear hk2
                go_wp2_with (first
                  | (refine wpList_load_row (by rfl) 24 (.tmp 9) (by rfl) wr.heap.size (by rfl) 24 X.toArray (0, 0) _ HBX2.out hui rfl hsXa ?_)
                  | (refine wpList_build_k (by rfl) Tryd.underlying22 Tryd.idInfo (by decide) (by decide) (.tmp 99) (by rfl) X (by rfl) hXl ?_)
                  | (at_builtin; refine wpList_append_rows rfl (.tmp 98) (.tmp 100) 22 24 _ 32 32 Tryd.underlying22 Tryd.idInfo Tryd.idZero (by decide) rfl (B := w2.heap.size) (v := u6) (n := out.length) (xs := (out.map (fun (id : List Int) => id.map (Value.int .u8))).flatten) rfl (ownsK_on HOV2.out ((Kept.refl [] V2).alloc _) (fun _ _ => by simp)) (rows := [X]) rfl (row_at_new _ _ _ _) (by rintro y hy; rw [List.mem_singleton.1 hy]; exact hXl) (by rintro y hy; rw [List.mem_singleton.1 hy]; exact hX1) (by simp; omega) (by decide) (Nat.le_trans HKV2.out.size (by simp)) ?_
                     intro v6 w6 own6 k6
                     rw [HX.out] at own6
                     have HO6 : Hid (IdOwn w6 w2.heap.size v6 (out ++ [x])) := IdOwn.push1 own6
                     have HK6 : Hid (Kept [] w2 w6) := (HKV2.out.alloc _).trans k6 (fun y hy => Or.inr (HOB.out y (by simpa using hy)))
                     clear own6 k6))
                go_roundw
                case rel => exact ⟨i + 1, j + 1, out ++ [x], by go_num, by go_num, by omega, by omega, HO6, HK6, HST, by rw [List.length_append, List.length_singleton]; omega⟩
                case measure => simp [intOf]; omega
              · have heq : ∀ W, (Op.equalIn 10000 24 (.agg X.toArray) (.agg Y.toArray)).run Tryd.prog W = .ok false W := fun W => by have h := heqv W; rwa [decide_eq_false hxy] at h
                have HST : Hid (MrgTo A L (i + 1) j (out ++ [x])) := HM.out.left HSA.out HXx.out (fun z hz => by
                  obtain ⟨e, hn⟩ := sorted_drop HSL.out HXy.out
                  have hlt : cmpB x y < 0 := HLE.out.resolve_right hxy
                  rw [e] at hz
                  rcases List.mem_cons.1 hz with rfl | hz
                  · exact hlt
                  · exact cmpB_trans _ _ _ hlt (hn z hz))
                clear heqv hxy
                go_wp2_with fail
                refine region_quiet (Kept [] V) (by kernel_rfl) (by kernel_rfl) (Kept.refl [] V).drew ?_
                with_reducible refine wpQuiet_step ?_
                intro K hK
                rw [if_pos (by go_simp)]
                refine move_at (.tmp 4) rfl (.slice (some ⟨ba, oa, none⟩) A.length ca) rfl (hK _ ?_)
                clear hK K
                simp only [Act.put, List.setIfInBounds_toArray, List.set_cons_zero, List.set_cons_succ]
                with_reducible refine wpQuiet_step ?_
                intro K hK
                rw [if_pos (by go_simp)]
                refine move_at (.tmp 7) rfl (.int .i64 i) rfl (hK _ ?_)
                clear hK K
                simp only [Act.put, List.setIfInBounds_toArray, List.set_cons_zero, List.set_cons_succ]
                with_reducible refine wpQuiet_step ?_
                intro K hK
                rw [if_pos (by go_simp)]
                refine val_at (.pointer (some ⟨ba, oa + i * 32, none⟩)) (fun W => by go_simp) (hK _ ?_)
                clear hK K
                simp only [Act.put, List.setIfInBounds_toArray, List.set_cons_zero, List.set_cons_succ]
                with_reducible refine wpQuiet_step ?_
                intro K hK
                rw [if_pos (by go_simp)]
                refine row_at 24 (.tmp 87) rfl ba (oa + i * 32) rfl X _ HRA2.out hui rfl hsX (hK _ ?_)
                clear hK K
                simp only [Act.put, List.setIfInBounds_toArray, List.set_cons_zero, List.set_cons_succ]
                with_reducible refine wpQuiet_step ?_
                intro K hK
                rw [if_pos (by go_simp)]
                refine move_at (.tmp 5) rfl (.slice (some ⟨bb, ob, none⟩) L.length cb) rfl (hK _ ?_)
                clear hK K
                simp only [Act.put, List.setIfInBounds_toArray, List.set_cons_zero, List.set_cons_succ]
                with_reducible refine wpQuiet_step ?_
                intro K hK
                rw [if_pos (by go_simp)]
                refine move_at (.tmp 8) rfl (.int .i64 j) rfl (hK _ ?_)
                clear hK K
                simp only [Act.put, List.setIfInBounds_toArray, List.set_cons_zero, List.set_cons_succ]
                with_reducible refine wpQuiet_step ?_
                intro K hK
                rw [if_pos (by go_simp)]
                refine val_at (.pointer (some ⟨bb, ob + j * 32, none⟩)) (fun W => by go_simp) (hK _ ?_)
                clear hK K
                simp only [Act.put, List.setIfInBounds_toArray, List.set_cons_zero, List.set_cons_succ]
                with_reducible refine wpQuiet_step ?_
                intro K hK
                rw [if_pos (by go_simp)]
                refine row_at 24 (.tmp 91) rfl bb (ob + j * 32) rfl Y _ HRB2.out hui rfl hsY (hK _ ?_)
                clear hK K
                simp only [Act.put, List.setIfInBounds_toArray, List.set_cons_zero, List.set_cons_succ]
                with_reducible refine wpQuiet_step ?_
                intro K hK
                rw [if_pos (by go_simp)]
                refine eql_at (.tmp 88) (.tmp 92) _ rfl X.toArray Y.toArray rfl rfl false heq (hK _ ?_)
                clear hK K
                simp only [Act.put, List.setIfInBounds_toArray, List.set_cons_zero, List.set_cons_succ]
                refine wpQuiet_nil ?_
                intro V2 hk2
                have HBX2 : Hid (V2.heap[wr.heap.size]? = some (.cells X.toArray 24 (0, 0))) := hk2.heap HBX.out (by simp)
                have HOV2 : Hid (IdOwn V2 w2.heap.size u6 out) := ownsK_on HOV.out hk2 (fun _ _ => by simp)
                have HKV2 : Hid (Kept [] w2 V2) := HKV.out.then hk2
                clear hk2
                go_wp2_with (first
                  | (refine wpList_load_row (by rfl) 24 (.tmp 9) (by rfl) wr.heap.size (by rfl) 24 X.toArray (0, 0) _ HBX2.out hui rfl hsXa ?_)
                  | (refine wpList_build_k (by rfl) Tryd.underlying22 Tryd.idInfo (by decide) (by decide) (.tmp 99) (by rfl) X (by rfl) hXl ?_)
                  | (at_builtin; refine wpList_append_rows rfl (.tmp 98) (.tmp 100) 22 24 _ 32 32 Tryd.underlying22 Tryd.idInfo Tryd.idZero (by decide) rfl (B := w2.heap.size) (v := u6) (n := out.length) (xs := (out.map (fun (id : List Int) => id.map (Value.int .u8))).flatten) rfl (ownsK_on HOV2.out ((Kept.refl [] V2).alloc _) (fun _ _ => by simp)) (rows := [X]) rfl (row_at_new _ _ _ _) (by rintro y hy; rw [List.mem_singleton.1 hy]; exact hXl) (by rintro y hy; rw [List.mem_singleton.1 hy]; exact hX1) (by simp; omega) (by decide) (Nat.le_trans HKV2.out.size (by simp)) ?_
                     intro v6 w6 own6 k6
                     rw [HX.out] at own6
                     have HO6 : Hid (IdOwn w6 w2.heap.size v6 (out ++ [x])) := IdOwn.push1 own6
                     have HK6 : Hid (Kept [] w2 w6) := (HKV2.out.alloc _).trans k6 (fun y hy => Or.inr (HOB.out y (by simpa using hy)))
                     clear own6 k6))
                go_roundw
                case rel => exact ⟨i + 1, j, out ++ [x], by go_num, by go_num, by omega, by omega, HO6, HK6, HST, by rw [List.length_append, List.length_singleton]; omega⟩
                case measure => simp [intOf]; omega
            · have tc : decide (cz ≤ 0) = false := decide_eq_false hle
              have HST : Hid (MrgTo A L i (j + 1) (out ++ [y])) := HM.out.right HSL.out HXy.out (fun z hz => by
                obtain ⟨e, hn⟩ := sorted_drop HSA.out HXx.out
                have hlt : cmpB y x < 0 := cmpB_pos x y (by rw [← HCZ.out]; omega)
                rw [e] at hz
                rcases List.mem_cons.1 hz with rfl | hz
                · exact hlt
                · exact cmpB_trans _ _ _ hlt (hn z hz))
              clear hgx hgy hxx hxy hXX hXY
              go_wp2_with fail
              refine region_quiet (Kept [] (wr.alloc (.cells (idC zero32) 24))) (by kernel_rfl) (by kernel_rfl) (Kept.refl [] (wr.alloc (.cells (idC zero32) 24))).drew ?_
              with_reducible refine wpQuiet_step ?_
              intro K hK
              rw [if_pos (by go_simp)]
              refine move_at (.tmp 4) rfl (.slice (some ⟨ba, oa, none⟩) A.length ca) rfl (hK _ ?_)
              clear hK K
              simp only [Act.put, List.setIfInBounds_toArray, List.set_cons_zero, List.set_cons_succ]
              with_reducible refine wpQuiet_step ?_
              intro K hK
              rw [if_pos (by go_simp)]
              refine move_at (.tmp 7) rfl (.int .i64 i) rfl (hK _ ?_)
              clear hK K
              simp only [Act.put, List.setIfInBounds_toArray, List.set_cons_zero, List.set_cons_succ]
              with_reducible refine wpQuiet_step ?_
              intro K hK
              rw [if_pos (by go_simp)]
              refine val_at (.pointer (some ⟨ba, oa + i * 32, none⟩)) (fun W => by go_simp) (hK _ ?_)
              clear hK K
              simp only [Act.put, List.setIfInBounds_toArray, List.set_cons_zero, List.set_cons_succ]
              with_reducible refine wpQuiet_step ?_
              intro K hK
              rw [if_pos (by go_simp)]
              refine row_at 24 (.tmp 73) rfl ba (oa + i * 32) rfl X _ HRA.out hui rfl hsX (hK _ ?_)
              clear hK K
              simp only [Act.put, List.setIfInBounds_toArray, List.set_cons_zero, List.set_cons_succ]
              with_reducible refine wpQuiet_step ?_
              intro K hK
              rw [if_pos (by go_simp)]
              refine move_at (.tmp 5) rfl (.slice (some ⟨bb, ob, none⟩) L.length cb) rfl (hK _ ?_)
              clear hK K
              simp only [Act.put, List.setIfInBounds_toArray, List.set_cons_zero, List.set_cons_succ]
              with_reducible refine wpQuiet_step ?_
              intro K hK
              rw [if_pos (by go_simp)]
              refine move_at (.tmp 8) rfl (.int .i64 j) rfl (hK _ ?_)
              clear hK K
              simp only [Act.put, List.setIfInBounds_toArray, List.set_cons_zero, List.set_cons_succ]
              with_reducible refine wpQuiet_step ?_
              intro K hK
              rw [if_pos (by go_simp)]
              refine val_at (.pointer (some ⟨bb, ob + j * 32, none⟩)) (fun W => by go_simp) (hK _ ?_)
              clear hK K
              simp only [Act.put, List.setIfInBounds_toArray, List.set_cons_zero, List.set_cons_succ]
              with_reducible refine wpQuiet_step ?_
              intro K hK
              rw [if_pos (by go_simp)]
              refine row_at 24 (.tmp 77) rfl bb (ob + j * 32) rfl Y _ HRB.out hui rfl hsY (hK _ ?_)
              clear hK K
              simp only [Act.put, List.setIfInBounds_toArray, List.set_cons_zero, List.set_cons_succ]
              with_reducible refine wpQuiet_step ?_
              intro K hK
              rw [if_pos (by go_simp)]
              refine call_at 13 #[.agg X.toArray, .agg Y.toArray] (.int .i64 cz) (fun W => by go_simp) HCM.out (hK _ ?_)
              clear hK K
              simp only [Act.put, List.setIfInBounds_toArray, List.set_cons_zero, List.set_cons_succ]
              with_reducible refine wpQuiet_step ?_
              intro K hK
              rw [if_pos (by go_simp)]
              refine val_at (.bool false) (fun W => by go_simp) (hK _ ?_)
              clear hK K
              simp only [Act.put, List.setIfInBounds_toArray, List.set_cons_zero, List.set_cons_succ]
              with_reducible refine wpQuiet_step ?_
              intro K hK
              rw [if_pos (by go_simp)]
              refine val_at (.bool false) (fun W => by go_simp) (hK _ ?_)
              clear hK K
              simp only [Act.put, List.setIfInBounds_toArray, List.set_cons_zero, List.set_cons_succ]
              refine wpQuiet_nil ?_
              intro wz hkz
              have HKZ : Hid (Kept [] (wr.alloc (.cells (idC zero32) 24)) wz) := hkz
              clear hkz
              obtain ⟨V, hV⟩ : ∃ V, V = wz.setRow wr.heap.size Y.toArray := ⟨_, rfl⟩
              have HV : Hid (V = wz.setRow wr.heap.size Y.toArray) := hV
              have hbz : wz.heap[wr.heap.size]? = some (.cells (idC zero32) 24 (0, 0)) := HKZ.out.heap (heap_alloc_new wr _) (by simp)
              have kV : Kept [wr.heap.size] wz V := by rw [hV]; exact ⟨rfl, rfl, rfl, by simp, fun q _ hq => setRow_other wz wr.heap.size q _ (by simpa using hq)⟩
              have kV0 : Kept [] wr V := (((Kept.refl [] wr).alloc _).then HKZ.out).trans kV (fun y hy => Or.inr (by rw [List.mem_singleton.1 hy]; exact Nat.le_refl _))
              have HBX : Hid (V.heap[wr.heap.size]? = some (.cells Y.toArray 24 (0, 0))) := by rw [hV]; exact setRowI_heap hbz
              have HKV : Hid (Kept [] w2 V) := HK.out.then kV0
              have HKW : Hid (Kept [] wr V) := kV0
              have HOV : Hid (IdOwn V w2.heap.size u6 out) := ownsK_on HO.out kV0 (fun _ _ => by simp)
              have hrY9 := HRB.out wz HKZ.out
              clear kV kV0 hV hrY
              go_wp2_with (first
                | (refine wpList_load_mid (by rfl) 24 (.tmp 44) (by rfl) bb (ob + j * 32) (by rfl) Y _ hrY9 hui rfl hsY ?_)
                | (refine wpList_store_row (by rfl) 24 (.tmp 9) (.tmp 45) (by rfl) wr.heap.size Y.toArray (by rfl) (by rfl) 24 (idC zero32) hbz hsYa (by simp [hYl]; rfl) hYA ?_
                   rw [← HV.out])
                | (refine wpList_load_row (by rfl) 24 (.tmp 9) (by rfl) wr.heap.size (by rfl) 24 Y.toArray (0, 0) _ HBX.out hui rfl hsYa ?_)
                | (refine wpList_build_k (by rfl) Tryd.underlying22 Tryd.idInfo (by decide) (by decide) (.tmp 99) (by rfl) Y (by rfl) hYl ?_)
                | (at_builtin; refine wpList_append_rows rfl (.tmp 98) (.tmp 100) 22 24 _ 32 32 Tryd.underlying22 Tryd.idInfo Tryd.idZero (by decide) rfl (B := w2.heap.size) (v := u6) (n := out.length) (xs := (out.map (fun (id : List Int) => id.map (Value.int .u8))).flatten) rfl (ownsK_on HOV.out ((Kept.refl [] V).alloc _) (fun _ _ => by simp)) (rows := [Y]) rfl (row_at_new _ _ _ _) (by rintro y hy; rw [List.mem_singleton.1 hy]; exact hYl) (by rintro y hy; rw [List.mem_singleton.1 hy]; exact hY1) (by simp; omega) (by decide) (Nat.le_trans HKV.out.size (by simp)) ?_
                   intro v6 w6 own6 k6
                   rw [HY.out] at own6
                   have HO6 : Hid (IdOwn w6 w2.heap.size v6 (out ++ [y])) := IdOwn.push1 own6
                   have HK6 : Hid (Kept [] w2 w6) := (HKV.out.alloc _).trans k6 (fun y hy => Or.inr (HOB.out y (by simpa using hy)))
                   clear own6 k6))
              go_roundw
              case rel => exact ⟨i, j + 1, out ++ [y], by go_num, by go_num, by omega, by omega, HO6, HK6, HST, by rw [List.length_append, List.length_singleton]; omega⟩
              case measure => simp [intOf]; omega
          · have tj : decide ((j : Int) < (L.length : Int)) = false := decide_eq_false (by omega)
            obtain rfl : j = L.length := by omega
            have HST : Hid (MrgTo A L (i + 1) L.length (out ++ [x])) := HM.out.left HSA.out HXx.out (fun z hz => by rw [List.drop_length] at hz; cases hz)
            clear hgx hxx hXX
            obtain ⟨V, hV⟩ : ∃ V, V = wr.alloc (.cells X.toArray 24) := ⟨_, rfl⟩
            have HV : Hid (V = wr.alloc (.cells X.toArray 24)) := hV
            have kV : Kept [] wr V := by rw [hV]; exact (Kept.refl _ _).alloc _
            have HBX : Hid (V.heap[wr.heap.size]? = some (.cells X.toArray 24 (0, 0))) := by rw [hV]; exact heap_alloc_new wr _
            have HKV : Hid (Kept [] w2 V) := HK.out.then kV
            have HOV : Hid (IdOwn V w2.heap.size u6 out) := ownsK_on HO.out kV (fun _ _ => by simp)
            clear kV hV
            go_wp2_with (first
              | (refine wpList_load_mid (by rfl) 24 (.tmp 55) (by rfl) ba (oa + i * 32) (by rfl) X _ hrX hui rfl hsX ?_)
              | (refine wpList_store_row (by rfl) 24 (.tmp 9) (.tmp 56) (by rfl) wr.heap.size X.toArray (by rfl) (by rfl) 24 _ (heap_alloc_new wr _) hsXa (by simp [hXl]) hXA ?_
                 rw [World.setRow_alloc_new, ← HV.out])
              | (refine wpList_load_row (by rfl) 24 (.tmp 9) (by rfl) wr.heap.size (by rfl) 24 X.toArray (0, 0) _ HBX.out hui rfl hsXa ?_)
              | (refine wpList_build_k (by rfl) Tryd.underlying22 Tryd.idInfo (by decide) (by decide) (.tmp 99) (by rfl) X (by rfl) hXl ?_)
              | (at_builtin; refine wpList_append_rows rfl (.tmp 98) (.tmp 100) 22 24 _ 32 32 Tryd.underlying22 Tryd.idInfo Tryd.idZero (by decide) rfl (B := w2.heap.size) (v := u6) (n := out.length) (xs := (out.map (fun (id : List Int) => id.map (Value.int .u8))).flatten) rfl (ownsK_on HOV.out ((Kept.refl [] V).alloc _) (fun _ _ => by simp)) (rows := [X]) rfl (row_at_new _ _ _ _) (by rintro y hy; rw [List.mem_singleton.1 hy]; exact hXl) (by rintro y hy; rw [List.mem_singleton.1 hy]; exact hX1) (by simp; omega) (by decide) (Nat.le_trans HKV.out.size (by simp)) ?_
                 intro v6 w6 own6 k6
                 rw [HX.out] at own6
                 have HO6 : Hid (IdOwn w6 w2.heap.size v6 (out ++ [x])) := IdOwn.push1 own6
                 have HK6 : Hid (Kept [] w2 w6) := (HKV.out.alloc _).trans k6 (fun y hy => Or.inr (HOB.out y (by simpa using hy)))
                 clear own6 k6))
            go_roundw
            case rel => exact ⟨i + 1, L.length, out ++ [x], by go_num, by go_num, by omega, by omega, HO6, HK6, HST, by rw [List.length_append, List.length_singleton]; omega⟩
            case measure => simp [intOf]; omega
        · have ti : decide ((i : Int) < (A.length : Int)) = false := decide_eq_false (by omega)
          obtain rfl : i = A.length := by omega
          by_cases hjl : j < L.length
          · have tj : decide ((j : Int) < (L.length : Int)) = true := decide_eq_true (by omega)
            have tje : decide ((j : Int) = (L.length : Int)) = false := decide_eq_false (by omega)
            have tje2 : ((j : Int) == (L.length : Int)) = false := by simp; omega
            have j0 : (0 : Int) ≤ (j : Int) := by omega
            have j1 : (j : Int) < (L.length : Int) := by omega
            have j2 : (j : Int) < (cb : Int) := by omega
            obtain ⟨y, hxy⟩ : ∃ x, L[j]? = some x := ⟨_, List.getElem?_eq_getElem hjl⟩
            have hgy := HGL.out y (List.mem_of_getElem? hxy)
            obtain ⟨Y, hXY⟩ : ∃ X, X = y.map (Value.int .u8) := ⟨_, rfl⟩
            have HY : Hid (Y = y.map (Value.int .u8)) := hXY
            have hYl : Y.length = 32 := by rw [hXY, List.length_map]; exact hgy.1
            have hY1 : ∀ v, v ∈ Y → v.oneCell' = true := by rw [hXY]; exact map_oneCell _
            have hsY : (Tryd.prog.info? 24).map (·.size) = some Y.length := by rw [hYl]; exact Tryd.infoID
            have hsYa : (Tryd.prog.info? 24).map (·.size) = some Y.toArray.size := by rw [List.size_toArray, hYl]; exact Tryd.infoID
            have hYA : Y.toArray.all (·.oneCell') = true := all_oneCell_toArray hY1
            have HXy : Hid (L[j]? = some y) := hxy
            obtain ⟨bb, ob, rfl, HQL⟩ := HLI.out hjl
            have hrY : (wr.alloc (.cells (idC zero32) 24)).rangeAt bb (ob + j * 32) Y := by rw [hXY]; exact HQL _ ((HK.out.alloc _)) j y hxy
            have HST : Hid (MrgTo A L A.length (j + 1) (out ++ [y])) := HM.out.right HSL.out HXy.out (fun z hz => by rw [List.drop_length] at hz; cases hz)
            clear hgy hxy hXY
            obtain ⟨V, hV⟩ : ∃ V, V = wr.alloc (.cells Y.toArray 24) := ⟨_, rfl⟩
            have HV : Hid (V = wr.alloc (.cells Y.toArray 24)) := hV
            have kV : Kept [] wr V := by rw [hV]; exact (Kept.refl _ _).alloc _
            have HBX : Hid (V.heap[wr.heap.size]? = some (.cells Y.toArray 24 (0, 0))) := by rw [hV]; exact heap_alloc_new wr _
            have HKV : Hid (Kept [] w2 V) := HK.out.then kV
            have HOV : Hid (IdOwn V w2.heap.size u6 out) := ownsK_on HO.out kV (fun _ _ => by simp)
            clear kV hV
            go_wp2_with (first
              | (refine wpList_load_mid (by rfl) 24 (.tmp 66) (by rfl) bb (ob + j * 32) (by rfl) Y _ hrY hui rfl hsY ?_)
              | (refine wpList_store_row (by rfl) 24 (.tmp 9) (.tmp 67) (by rfl) wr.heap.size Y.toArray (by rfl) (by rfl) 24 _ (heap_alloc_new wr _) hsYa (by simp [hYl]) hYA ?_
                 rw [World.setRow_alloc_new, ← HV.out])
              | (refine wpList_load_row (by rfl) 24 (.tmp 9) (by rfl) wr.heap.size (by rfl) 24 Y.toArray (0, 0) _ HBX.out hui rfl hsYa ?_)
              | (refine wpList_build_k (by rfl) Tryd.underlying22 Tryd.idInfo (by decide) (by decide) (.tmp 99) (by rfl) Y (by rfl) hYl ?_)
              | (at_builtin; refine wpList_append_rows rfl (.tmp 98) (.tmp 100) 22 24 _ 32 32 Tryd.underlying22 Tryd.idInfo Tryd.idZero (by decide) rfl (B := w2.heap.size) (v := u6) (n := out.length) (xs := (out.map (fun (id : List Int) => id.map (Value.int .u8))).flatten) rfl (ownsK_on HOV.out ((Kept.refl [] V).alloc _) (fun _ _ => by simp)) (rows := [Y]) rfl (row_at_new _ _ _ _) (by rintro y hy; rw [List.mem_singleton.1 hy]; exact hYl) (by rintro y hy; rw [List.mem_singleton.1 hy]; exact hY1) (by simp; omega) (by decide) (Nat.le_trans HKV.out.size (by simp)) ?_
                 intro v6 w6 own6 k6
                 rw [HY.out] at own6
                 have HO6 : Hid (IdOwn w6 w2.heap.size v6 (out ++ [y])) := IdOwn.push1 own6
                 have HK6 : Hid (Kept [] w2 w6) := (HKV.out.alloc _).trans k6 (fun y hy => Or.inr (HOB.out y (by simpa using hy)))
                 clear own6 k6))
            go_roundw
            case rel => exact ⟨A.length, j + 1, out ++ [y], by go_num, by go_num, by omega, by omega, HO6, HK6, HST, by rw [List.length_append, List.length_singleton]; omega⟩
            case measure => simp [intOf]; omega
          · have tj : decide ((j : Int) < (L.length : Int)) = false := decide_eq_false (by omega)
            obtain rfl : j = L.length := by omega
            obtain ⟨d1, d2⟩ := HM.out.done (Nat.le_refl _) (Nat.le_refl _)
            have HF : Hid (SortTo w ids (.returned u6) wr) := ⟨u6, out, rfl, d1, fun x => by rw [d2 x, HMM.out x], by omega, IdOwn.at HO.out (fun o ho => ((d2 o).1 ho).elim (HGA.out o) (HGL.out o)) (by omega), HK2.out.then HK.out⟩
            clear d1 d2
            go_wp2
            refine bodyPost_ret (v := u6) (by simp [results, Tryd.results57, go_sem]) rfl ?_
            exact HF.out
end Go.Proofs.YtlljiipmkjjhhaaDoor
