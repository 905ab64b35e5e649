/-
  WALK: satchelref14.Clash.
-/
import Derived.Test.YtmjbaficdoehfaaDoorRm12
namespace Go.Proofs.YtmjbaficdoehfaaDoor
open Go.RowKit Go.Sort

theorem ownsK_onT {w w' : World} {B : Nat} {e : TypeId} {k : Nat} {v : Value} {n : Nat} {xs : List Value} {T : List Nat} (h : w.ownsRow B e k v n xs) (q : Kept T w w') (hn : ∀ g, v.ownBlock = some g → g ∉ T) : w'.ownsRow B e k v n xs := by
  obtain ⟨hl, h | ⟨g, cap, cur, hv, hB, hg, h1, h2, h3, h4⟩⟩ := h
  · exact ⟨hl, Or.inl h⟩
  · exact ⟨hl, Or.inr ⟨g, cap, cur, hv, hB, q.heap hg (hn g (by rw [hv]; rfl)), h1, h2, h3, h4⟩⟩
theorem mapU_bytes {rs : List RuleL} {p : List Int} (h : Octs p) : mapU rs (bytesU p) = (mapL rs p).map fun x => bytesU x.1 := by unfold mapU; rw [nums_bytes h]
set_option maxRecDepth 100000 in
set_option maxHeartbeats 8000000 in
theorem RClash_any (v nv : Value) (rs : List RuleL) (L : List (List Int)) (w : World) (hv : RulesAt w v rs) (hg : ∀ r, r ∈ rs → r.Good) (hn : StrsAt w nv L) (ho : ∀ p, p ∈ L → Octs p ∧ p.length ≤ 50000000000000000) (hl : L.length ≤ 100000) :
    Calls Tryd.prog 20 #[v, nv] w fun e w' => ∃ r, e = .returned (strV r) ∧ ClashTo (mapU rs) (L.map bytesU) r ∧ Kept [] w w' := by
  have HMP : Hid (∀ p, p ∈ L → ∀ W, Kept [] w W → Calls Tryd.prog 17 #[v, .string (strOfNums p)] W fun e w' => e = .returned (mapV (mapL rs p)) ∧ Kept [] W w') := fun p hp W k => RMap_any v rs p W (hv.kept k) hg (ho p hp).1 (ho p hp).2
  have HO0 : Hid (∀ p, p ∈ L → Octs p) := fun p hp => (ho p hp).1
  have HN0 : Hid (∀ W, Kept [] w W → StrsAt W nv L) := fun W k => hn.kept k
  obtain ⟨ao, cap, rfl, hcap, _, _⟩ := hn
  obtain ⟨U, hU⟩ : ∃ U, U = L.map bytesU := ⟨_, rfl⟩
  have HU : Hid (∀ (j : Nat) p, L[j]? = some p → U[j]? = some (bytesU p)) := fun j p hp => by rw [hU, List.getElem?_map, hp]; rfl
  have HUL : Hid (U.length = L.length) := by
    have h : U.length = L.length := by rw [hU, List.length_map]
    exact h
  have HEQ : Hid (∀ (x y : List UInt8) , ((⟨x.toArray⟩ : ByteArray).toList == (⟨y.toArray⟩ : ByteArray).toList) = decide (x = y)) := fun x y => by
    rw [Lib.toList_data, Lib.toList_data, Bool.eq_iff_iff, beq_iff_eq, decide_eq_true_eq]
  have HLT : Hid (∀ (x y : List UInt8), Op.bytesLess (⟨x.toArray⟩ : ByteArray).toList (⟨y.toArray⟩ : ByteArray).toList = decide (x < y)) := fun x y => by
    rw [Lib.toList_data, Lib.toList_data, bytesLess_eq]
  rw [← hU]
  clear hv hg ho hU
  go_enter Tryd.func20, Tryd.ntmps20
  go_wp2
  go_loopw [6, 7, 8, 9, 10] (fun s6 s7 s8 s9 s10 wr => ∃ (i : Nat) (r : Option (List UInt8)) (tv hv : Value) (TT : List (List UInt8)) (HH : List Bool), tv = s8 ∧ hv = s9 ∧ i ≤ L.length ∧ s10 = .int .i64 i ∧ s6 = .string ⟨(r.getD []).toArray⟩ ∧ s7 = .bool r.isSome ∧ TT.length = i ∧ HH.length = i ∧ Hid (TT = (U.take i).map (fun u => (mapU rs u).getD [])) ∧ Hid (HH = (U.take i).map (fun u => (mapU rs u).isSome)) ∧ Hid (wr.ownsRow w.heap.size 9 1 tv (TT.map encStr).length (TT.map encStr)) ∧ Hid (wr.ownsRow w.heap.size 4 1 hv (HH.map Value.bool).length (HH.map Value.bool)) ∧ Hid (Kept [] w wr) ∧ Hid (BestTo (PairK (mapU rs) U i 0) r)) (fun _ _ _ _ s10 _ => L.length - (intOf s10).toNat)
  case atStart => exact ⟨0, none, _, _, [], [], rfl, rfl, Nat.zero_le _, rfl, rfl, rfl, rfl, rfl, rfl, rfl, World.ownsRow_nil _ _ _ _, World.ownsRow_nil _ _ _ _, Kept.refl _ _, ⟨(fun t h => by cases h), fun _ t => pair_start _ _ t⟩⟩
  case round =>
    obtain ⟨i, r, tv, hv, TT, HH, rfl, rfl, hi, rfl, rfl, rfl, hTl, hHl, HTT, HHH, HO, HHO, HK, HBE⟩ := hrel
    by_cases hlt : i < L.length
    · have t0 : decide ((i : Int) < (L.length : Int)) = true := by simp; omega
      obtain ⟨p, hp⟩ : ∃ p, L[i]? = some p := ⟨_, List.getElem?_eq_getElem hlt⟩
      obtain ⟨ao', cap', he, _, _, hcc⟩ := HN0.out wr HK.out
      injection he with e1 e2 e3
      subst e1 e3
      obtain ⟨b, off, rfl, hh⟩ := hcc (by rintro rfl; simp at hlt)
      have hcell := hh i p hp
      have HCN : Hid (∀ W, Kept [] wr W → ∀ j q, L[j]? = some q → W.cell? ⟨b, off + j, none⟩ = some (.string ⟨(bytesU q).toArray⟩)) := fun W kW j q hq => by rw [← str_of_bytes]; exact kW.cell (hh j q hq) (by simp)
      have hmap := HMP.out p (List.mem_of_getElem? hp) wr HK.out
      have hUi := HU.out i p hp
      have hmu : mapU rs (bytesU p) = (mapL rs p).map fun x => bytesU x.1 := mapU_bytes (HO0.out p (List.mem_of_getElem? hp))
      have i0 : (0 : Int) ≤ (i : Int) := by omega
      have i1 : (i : Int) < (L.length : Int) := by omega
      clear hh hcc e2
      cases hm : mapL rs p with
      | none =>
        have hfn : mapU rs (bytesU p) = none := by rw [hmu, hm]; rfl
        rw [hm, mapV_none] at hmap
        obtain ⟨tb, htb⟩ : ∃ tb : List UInt8, tb = [] := ⟨_, rfl⟩
        obtain ⟨OK, hOK⟩ : ∃ OK, OK = false := ⟨_, rfl⟩
        obtain ⟨ST, hST⟩ : ∃ ST : ByteArray, ST = ⟨#[]⟩ := ⟨_, rfl⟩
        have HST : Hid (encStr tb = Value.string ST) := by
          have h : encStr tb = Value.string ST := by rw [htb, hST]
          exact h
        have HB9 : Hid (BestTo (PairK (mapU rs) U (i + 1) 0) r) := HBE.out.iff (fun t => pair_idle hUi hfn t)
        have hml : (TT.map encStr).length ≤ 1000000 := by rw [List.length_map]; omega
        have hml2 : (HH.map Value.bool).length ≤ 1000000 := by rw [List.length_map]; omega
        have HB : Hid (∀ x, tv.ownBlock = some x → w.heap.size ≤ x) := fun x hx => (World.ownsRow.lt HO.out x hx).1
        have HBH : Hid (∀ x, hv.ownBlock = some x → w.heap.size ≤ x) := fun x hx => (World.ownsRow.lt HHO.out x hx).1
        have HNE : Hid (∀ g, hv.ownBlock = some g → tv.ownBlock ≠ some g) := fun g h1 h2 => by
          obtain ⟨c1, e1⟩ := owns_row HHO.out h1
          obtain ⟨c2, e2⟩ := owns_row HO.out h2
          rw [e1] at e2
          injection e2 with e2
          injection e2 with _ e
          exact absurd e (by decide)
        have HAP : Hid (∀ (W : World) (vv : Value), W.ownsRow w.heap.size 9 1 vv ((TT.map encStr) ++ [encStr tb]).length ((TT.map encStr) ++ [encStr tb]) → W.ownsRow w.heap.size 9 1 vv ((TT ++ [tb]).map encStr).length ((TT ++ [tb]).map encStr)) := fun W vv h => by
          rw [List.map_append]
          exact h
        have HAPH : Hid (∀ (W : World) (vv : Value), W.ownsRow w.heap.size 4 1 vv ((HH.map Value.bool) ++ [Value.bool OK]).length ((HH.map Value.bool) ++ [Value.bool OK]) → W.ownsRow w.heap.size 4 1 vv ((HH ++ [OK]).map Value.bool).length ((HH ++ [OK]).map Value.bool)) := fun W vv h => by
          rw [List.map_append]
          exact h
        have HT9 : Hid (TT ++ [tb] = (U.take (i + 1)).map (fun u => (mapU rs u).getD [])) := by
          have h : TT ++ [tb] = (U.take (i + 1)).map (fun u => (mapU rs u).getD []) := by rw [List.take_add_one, hUi, List.map_append, HTT.out, htb]; simp [hfn]
          exact h
        have HH9 : Hid (HH ++ [OK] = (U.take (i + 1)).map (fun u => (mapU rs u).isSome)) := by
          have h : HH ++ [OK] = (U.take (i + 1)).map (fun u => (mapU rs u).isSome) := by rw [List.take_add_one, hUi, List.map_append, HHH.out, hOK]; simp [hfn]
          exact h
        clear hm hmu hfn hp hUi htb
        rw [← hST] at hmap
        subst hOK
        clear hST
        go_wp2_with fail
        go_at_call 17
        refine hmap.mono ?_
        rintro e w4 ⟨rfl, k4⟩
        have HOA : Hid (∀ o, (w4.alloc o).ownsRow w.heap.size 9 1 tv (TT.map encStr).length (TT.map encStr)) := fun o => ownsK_on' (ownsK_on' HO.out k4) ((Kept.refl _ _).alloc _)
        have HHA : Hid (∀ o, (w4.alloc o).ownsRow w.heap.size 4 1 hv (HH.map Value.bool).length (HH.map Value.bool)) := fun o => ownsK_on' (ownsK_on' HHO.out k4) ((Kept.refl _ _).alloc _)
        have HKA : Hid (∀ o, Kept [] w (w4.alloc o)) := fun o => (HK.out.then k4).alloc o
        have hszA : w.heap.size ≤ w4.heap.size := (HK.out.then k4).size
        have HCA : Hid ((w4.alloc (.cells #[.string ST] 9)).cell? ⟨w4.heap.size, 0, none⟩ = some (encStr tb)) := by
          rw [cell_of_row _ _ _ _ _ _ (heap_alloc_new w4 _), HST.out]
          rfl
        clear k4 hmap
        go_wp2
        refine wp_loop_rounds 1 ?_
        rw [rounds_succ]
        by_cases h0 : 0 < i
        · go_wp2_with (first
            | (at_builtin; refine wpList_append_one rfl (.tmp 72) (.tmp 74) 23 9 (.string ⟨#[]⟩) 16 Tryd.underlying23 Tryd.info_str rfl rfl rfl (HOA.out _) rfl HCA.out rfl hml (by decide) (by simp; omega) ?_
               intro v6 w6 h6 k6 at6
               have HO6 : Hid (∀ o, (w6.alloc o).ownsRow w.heap.size 9 1 v6 ((TT ++ [tb]).map encStr).length ((TT ++ [tb]).map encStr)) := fun o => ownsK_on' (HAP.out _ _ h6) ((Kept.refl _ _).alloc _)
               have hq : ∀ y, y ∈ tv.ownBlock.toList → w.heap.size ≤ y := fun y hy => HB.out y (by simpa using hy)
               have hd6 : ∀ g, hv.ownBlock = some g → g ∉ tv.ownBlock.toList := fun g hg hm => HNE.out g hg (by simpa using hm)
               have HH6 : Hid (∀ o, (w6.alloc o).ownsRow w.heap.size 4 1 hv (HH.map Value.bool).length (HH.map Value.bool)) := fun o => ownsK_on' (ownsK_onT (HHA.out _) k6 hd6) ((Kept.refl _ _).alloc _)
               have HK6 : Hid (∀ o, Kept [] w (w6.alloc o)) := fun o => ((HKA.out _).trans k6 (fun y hy => Or.inr (hq y hy))).alloc o
               have HC6 : Hid ((w6.alloc (.cells #[.bool false] 4)).cell? ⟨w6.heap.size, 0, none⟩ = some (.bool false)) := by
                 rw [cell_of_row _ _ _ _ _ _ (heap_alloc_new w6 _)]
                 rfl
               have hsz6 : w.heap.size ≤ w6.heap.size := Nat.le_trans hszA (Nat.le_trans (by simp) k6.size)
               have HNE6 : Hid (∀ g, v6.ownBlock = some g → ∃ c, w6.heap[g]? = some (.cells c 9 (0, 0))) := fun g hg => owns_row (HAP.out _ _ h6) hg
               clear h6 k6 at6 hq hd6)
            | (at_builtin; refine wpList_append_one rfl (.tmp 76) (.tmp 78) 67 4 (.bool false) 1 Tryd.underlying67 Tryd.info_bool rfl rfl rfl (HH6.out _) rfl HC6.out rfl hml2 (by decide) (by simp; omega) ?_
               intro v7 w7 h7 k7 _
               have HH7 : Hid (w7.ownsRow w.heap.size 4 1 v7 ((HH ++ [false]).map Value.bool).length ((HH ++ [false]).map Value.bool)) := HAPH.out _ _ h7
               have hq7 : ∀ y, y ∈ hv.ownBlock.toList → w.heap.size ≤ y := fun y hy => HBH.out y (by simpa using hy)
               have hd7 : ∀ g, v6.ownBlock = some g → g ∉ hv.ownBlock.toList := fun g hg hm => by
                 obtain ⟨c, hc⟩ := HNE6.out g hg
                 have hm2 : hv.ownBlock = some g := by simpa using hm
                 obtain ⟨c2, hc2⟩ := owns_row (HH6.out (.cells #[.bool false] 4)) hm2
                 have h3 := ((Kept.refl [] w6).alloc (.cells #[.bool false] 4)).heap hc (by simp)
                 rw [h3] at hc2
                 injection hc2 with hc2
                 injection hc2 with _ e
                 exact absurd e (by decide)
               have HO7 : Hid (w7.ownsRow w.heap.size 9 1 v6 ((TT ++ [tb]).map encStr).length ((TT ++ [tb]).map encStr)) := ownsK_onT (HO6.out _) k7 hd7
               have HK7 : Hid (Kept [] w w7) := (HK6.out _).trans k7 (fun y hy => Or.inr (hq7 y hy))
               clear h7 k7 hq7 hd7))
          go_roundw
          case rel => exact ⟨i + 1, r, _, _, TT ++ [tb], HH ++ [false], rfl, rfl, by omega, by go_num, rfl, rfl, by simp; omega, by simp; omega, HT9, HH9, HO7, HH7, HK7, HB9⟩
          case measure => simp [intOf]; omega
        · go_wp2_with (first
            | (at_builtin; refine wpList_append_one rfl (.tmp 72) (.tmp 74) 23 9 (.string ⟨#[]⟩) 16 Tryd.underlying23 Tryd.info_str rfl rfl rfl (HOA.out _) rfl HCA.out rfl hml (by decide) (by simp; omega) ?_
               intro v6 w6 h6 k6 at6
               have HO6 : Hid (∀ o, (w6.alloc o).ownsRow w.heap.size 9 1 v6 ((TT ++ [tb]).map encStr).length ((TT ++ [tb]).map encStr)) := fun o => ownsK_on' (HAP.out _ _ h6) ((Kept.refl _ _).alloc _)
               have hq : ∀ y, y ∈ tv.ownBlock.toList → w.heap.size ≤ y := fun y hy => HB.out y (by simpa using hy)
               have hd6 : ∀ g, hv.ownBlock = some g → g ∉ tv.ownBlock.toList := fun g hg hm => HNE.out g hg (by simpa using hm)
               have HH6 : Hid (∀ o, (w6.alloc o).ownsRow w.heap.size 4 1 hv (HH.map Value.bool).length (HH.map Value.bool)) := fun o => ownsK_on' (ownsK_onT (HHA.out _) k6 hd6) ((Kept.refl _ _).alloc _)
               have HK6 : Hid (∀ o, Kept [] w (w6.alloc o)) := fun o => ((HKA.out _).trans k6 (fun y hy => Or.inr (hq y hy))).alloc o
               have HC6 : Hid ((w6.alloc (.cells #[.bool false] 4)).cell? ⟨w6.heap.size, 0, none⟩ = some (.bool false)) := by
                 rw [cell_of_row _ _ _ _ _ _ (heap_alloc_new w6 _)]
                 rfl
               have hsz6 : w.heap.size ≤ w6.heap.size := Nat.le_trans hszA (Nat.le_trans (by simp) k6.size)
               have HNE6 : Hid (∀ g, v6.ownBlock = some g → ∃ c, w6.heap[g]? = some (.cells c 9 (0, 0))) := fun g hg => owns_row (HAP.out _ _ h6) hg
               clear h6 k6 at6 hq hd6)
            | (at_builtin; refine wpList_append_one rfl (.tmp 76) (.tmp 78) 67 4 (.bool false) 1 Tryd.underlying67 Tryd.info_bool rfl rfl rfl (HH6.out _) rfl HC6.out rfl hml2 (by decide) (by simp; omega) ?_
               intro v7 w7 h7 k7 _
               have HH7 : Hid (w7.ownsRow w.heap.size 4 1 v7 ((HH ++ [false]).map Value.bool).length ((HH ++ [false]).map Value.bool)) := HAPH.out _ _ h7
               have hq7 : ∀ y, y ∈ hv.ownBlock.toList → w.heap.size ≤ y := fun y hy => HBH.out y (by simpa using hy)
               have hd7 : ∀ g, v6.ownBlock = some g → g ∉ hv.ownBlock.toList := fun g hg hm => by
                 obtain ⟨c, hc⟩ := HNE6.out g hg
                 have hm2 : hv.ownBlock = some g := by simpa using hm
                 obtain ⟨c2, hc2⟩ := owns_row (HH6.out (.cells #[.bool false] 4)) hm2
                 have h3 := ((Kept.refl [] w6).alloc (.cells #[.bool false] 4)).heap hc (by simp)
                 rw [h3] at hc2
                 injection hc2 with hc2
                 injection hc2 with _ e
                 exact absurd e (by decide)
               have HO7 : Hid (w7.ownsRow w.heap.size 9 1 v6 ((TT ++ [tb]).map encStr).length ((TT ++ [tb]).map encStr)) := ownsK_onT (HO6.out _) k7 hd7
               have HK7 : Hid (Kept [] w w7) := (HK6.out _).trans k7 (fun y hy => Or.inr (hq7 y hy))
               clear h7 k7 hq7 hd7))
          go_roundw
          case rel => exact ⟨i + 1, r, _, _, TT ++ [tb], HH ++ [false], rfl, rfl, by omega, by go_num, rfl, rfl, by simp; omega, by simp; omega, HT9, HH9, HO7, HH7, HK7, HB9⟩
          case measure => simp [intOf]; omega
      | some tf =>
        obtain ⟨t, fb⟩ := tf
        obtain ⟨tb, htb⟩ : ∃ tb : List UInt8, tb = bytesU t := ⟨_, rfl⟩
        have hfn : mapU rs (bytesU p) = some tb := by rw [hmu, hm, htb]; rfl
        obtain ⟨ST, hST⟩ : ∃ ST : ByteArray, ST = ⟨tb.toArray⟩ := ⟨_, rfl⟩
        have HST : Hid (encStr tb = Value.string ST) := by
          have h : encStr tb = Value.string ST := by rw [hST]
          exact h
        have HST2 : Hid (ST = ⟨tb.toArray⟩) := hST
        rw [hm, mapV_some, str_of_bytes t, ← htb, ← hST] at hmap
        have hte : (TT.map encStr).length = i := by rw [List.length_map]; exact hTl
        have hhe : (HH.map Value.bool).length = i := by rw [List.length_map]; exact hHl
        obtain ⟨aot, capt, het, hct⟩ := own_cell HO.out
        rw [hte] at het
        subst het
        obtain ⟨aoh, caph, heh, hch⟩ := own_cell HHO.out
        rw [hhe] at heh
        subst heh
        have HCT : Hid (∀ (k : Nat) x, TT[k]? = some x → ∃ g, aot = some ⟨g, 0, none⟩ ∧ ∀ W, Kept [] wr W → W.cell? ⟨g, k, none⟩ = some (encStr x)) := fun k x hx => by
          obtain ⟨g, h1, _, _, h2⟩ := hct (by intro e; rw [List.map_eq_nil_iff] at e; subst e; simp at hx)
          exact ⟨g, h1, fun W kW => kW.cell (h2 k _ (by rw [List.getElem?_map, hx]; rfl)) (by simp)⟩
        have HCH : Hid (∀ (k : Nat) x, HH[k]? = some x → ∃ g, aoh = some ⟨g, 0, none⟩ ∧ ∀ W, Kept [] wr W → W.cell? ⟨g, k, none⟩ = some (.bool x)) := fun k x hx => by
          obtain ⟨g, h1, _, _, h2⟩ := hch (by intro e; rw [List.map_eq_nil_iff] at e; subst e; simp at hx)
          exact ⟨g, h1, fun W kW => kW.cell (h2 k _ (by rw [List.getElem?_map, hx]; rfl)) (by simp)⟩
        have HUi : Hid (U[i]? = some (bytesU p)) := hUi
        have HFN : Hid (mapU rs (bytesU p) = some tb) := hfn
        have HLp : Hid (L[i]? = some p) := hp
        have hml : (TT.map encStr).length ≤ 1000000 := by rw [List.length_map]; omega
        have hml2 : (HH.map Value.bool).length ≤ 1000000 := by rw [List.length_map]; omega
        have HB : Hid (∀ x, (Value.slice aot i capt).ownBlock = some x → w.heap.size ≤ x) := fun x hx => (World.ownsRow.lt HO.out x hx).1
        have HBH : Hid (∀ x, (Value.slice aoh i caph).ownBlock = some x → w.heap.size ≤ x) := fun x hx => (World.ownsRow.lt HHO.out x hx).1
        have HNE : Hid (∀ g, (Value.slice aoh i caph).ownBlock = some g → (Value.slice aot i capt).ownBlock ≠ some g) := fun g h1 h2 => by
          obtain ⟨c1, e1⟩ := owns_row HHO.out h1
          obtain ⟨c2, e2⟩ := owns_row HO.out h2
          rw [e1] at e2
          injection e2 with e2
          injection e2 with _ e
          exact absurd e (by decide)
        have HAP : Hid (∀ (W : World) (vv : Value), W.ownsRow w.heap.size 9 1 vv ((TT.map encStr) ++ [encStr tb]).length ((TT.map encStr) ++ [encStr tb]) → W.ownsRow w.heap.size 9 1 vv ((TT ++ [tb]).map encStr).length ((TT ++ [tb]).map encStr)) := fun W vv h => by
          rw [List.map_append]
          exact h
        have HAPH : Hid (∀ (W : World) (vv : Value), W.ownsRow w.heap.size 4 1 vv ((HH.map Value.bool) ++ [Value.bool true]).length ((HH.map Value.bool) ++ [Value.bool true]) → W.ownsRow w.heap.size 4 1 vv ((HH ++ [true]).map Value.bool).length ((HH ++ [true]).map Value.bool)) := fun W vv h => by
          rw [List.map_append]
          exact h
        have HT9 : Hid (TT ++ [tb] = (U.take (i + 1)).map (fun u => (mapU rs u).getD [])) := by
          have h : TT ++ [tb] = (U.take (i + 1)).map (fun u => (mapU rs u).getD []) := by rw [List.take_add_one, hUi, List.map_append, HTT.out]; simp [hfn]
          exact h
        have HH9 : Hid (HH ++ [true] = (U.take (i + 1)).map (fun u => (mapU rs u).isSome)) := by
          have h : HH ++ [true] = (U.take (i + 1)).map (fun u => (mapU rs u).isSome) := by rw [List.take_add_one, hUi, List.map_append, HHH.out]; simp [hfn]
          exact h
        clear hm hmu hfn hp hUi htb hct hch hST
        go_wp2_with fail
        go_at_call 17
        refine hmap.mono ?_
        rintro e w4 ⟨rfl, k4⟩
        have HLIFT : Hid (∀ W, Kept [] w4 W → Kept [] wr W) := fun W k => k4.then k
        clear k4 hmap
        go_wp2
        go_loopw [6, 7, 14] (fun s6 s7 s14 wq => ∃ (k : Nat) (q : Option (List UInt8)), k ≤ i ∧ s14 = .int .i64 k ∧ s6 = .string ⟨(q.getD []).toArray⟩ ∧ s7 = .bool q.isSome ∧ Hid (Kept [] w4 wq) ∧ Hid (BestTo (PairK (mapU rs) U i k) q)) (fun _ _ s14 _ => i - (intOf s14).toNat)
        case atStart => exact ⟨0, r, Nat.zero_le _, rfl, rfl, rfl, Kept.refl _ _, HBE.out⟩
        case round =>
          obtain ⟨k, q, hk, rfl, rfl, rfl, HKq, HBq⟩ := hrel
          by_cases hki : k < i
          · have t1 : decide ((k : Int) < (i : Int)) = true := by simp; omega
            obtain ⟨pk, hpk⟩ : ∃ pk, L[k]? = some pk := ⟨_, List.getElem?_eq_getElem (by omega)⟩
            have hUk := HU.out k pk hpk
            have hTk : TT[k]? = some ((mapU rs (bytesU pk)).getD []) := by rw [HTT.out, List.getElem?_map, List.getElem?_take_of_lt hki, hUk]; rfl
            have hHk : HH[k]? = some (mapU rs (bytesU pk)).isSome := by rw [HHH.out, List.getElem?_map, List.getElem?_take_of_lt hki, hUk]; rfl
            obtain ⟨gt, rfl, hct⟩ := HCT.out k _ hTk
            obtain ⟨gh, rfl, hch⟩ := HCH.out k _ hHk
            have cN1 : ∀ m, (wr.drewN m).cell? ⟨b, off + k, none⟩ = some (.string ⟨(bytesU pk).toArray⟩) := fun m => HCN.out _ ((HLIFT.out wr HKq.out).drewN m) k pk hpk
            have cN2 : ∀ m, (wr.drewN m).cell? ⟨b, off + i, none⟩ = some (.string ⟨(bytesU p).toArray⟩) := fun m => HCN.out _ ((HLIFT.out wr HKq.out).drewN m) i p HLp.out
            have cT : ∀ m, (wr.drewN m).cell? ⟨gt, k, none⟩ = some (.string ⟨((mapU rs (bytesU pk)).getD []).toArray⟩) := fun m => hct _ ((HLIFT.out wr HKq.out).drewN m)
            have cH : ∀ m, (wr.drewN m).cell? ⟨gh, k, none⟩ = some (.bool (mapU rs (bytesU pk)).isSome) := fun m => hch _ ((HLIFT.out wr HKq.out).drewN m)
            have j0 : (0 : Int) ≤ (k : Int) := by omega
            have j1 : (k : Int) < (i : Int) := by omega
            have j2 : (k : Int) < (L.length : Int) := by omega
            have HUk : Hid (U[k]? = some (bytesU pk)) := hUk
            have heN := HEQ.out (bytesU pk) (bytesU p)
            clear hct hch hTk hHk hUk hpk
            cases hfk : mapU rs (bytesU pk) with
            | none =>
              have HN : Hid (BestTo (PairK (mapU rs) U i (k + 1)) q) := HBq.out.iff (pair_skip HUk.out HUi.out HFN.out (Or.inl (by rw [hfk]; simp)))
              rw [hfk] at cT cH
              simp only [Option.isSome_none, Option.getD_none] at cT cH
              clear hfk heN
              generalize (⟨(bytesU pk).toArray⟩ : ByteArray) = NK at *
              generalize (⟨(bytesU p).toArray⟩ : ByteArray) = NI at *
              go_wp2
              go_quiet (fail)
              go_wp2
              go_roundw
              case rel => exact ⟨k + 1, q, by omega, by go_num, rfl, rfl, HKq.out.drewN _, HN⟩
              case measure => simp [intOf]; omega
            | some tk =>
              rw [hfk] at cT cH
              simp only [Option.isSome_some, Option.getD_some] at cT cH
              have heT := HEQ.out tk tb
              rw [← HST2.out] at heT
              by_cases htk : tk = tb
              · rw [decide_eq_true htk] at heT
                by_cases hnn : bytesU pk = bytesU p
                · have HN : Hid (BestTo (PairK (mapU rs) U i (k + 1)) q) := HBq.out.iff (pair_skip HUk.out HUi.out HFN.out (Or.inr hnn))
                  rw [decide_eq_true hnn] at heN
                  clear hfk htk hnn
                  generalize (⟨(bytesU pk).toArray⟩ : ByteArray) = NK at *
                  generalize (⟨(bytesU p).toArray⟩ : ByteArray) = NI at *
                  generalize (⟨tk.toArray⟩ : ByteArray) = TK at *
                  go_wp2
                  go_quiet (fail)
                  go_wp2
                  go_roundw
                  case rel => exact ⟨k + 1, q, by omega, by go_num, rfl, rfl, HKq.out.drewN _, HN⟩
                  case measure => simp [intOf]; omega
                · rw [decide_eq_false hnn] at heN
                  have hpm : ∀ u, (PairK (mapU rs) U i k u ∨ u = tb) ↔ PairK (mapU rs) U i (k + 1) u := pair_more HUk.out HUi.out HFN.out (by rw [hfk, htk]) hnn
                  cases q with
                  | none =>
                    have HN : Hid (BestTo (PairK (mapU rs) U i (k + 1)) (some tb)) := (best_first HBq.out).iff hpm
                    clear hfk htk hnn hpm
                    generalize (⟨(bytesU pk).toArray⟩ : ByteArray) = NK at *
                    generalize (⟨(bytesU p).toArray⟩ : ByteArray) = NI at *
                    generalize (⟨tk.toArray⟩ : ByteArray) = TK at *
                    simp only [Option.isSome_none, Option.getD_none]
                    go_wp2
                    go_quiet (fail)
                    go_wp2
                    go_roundw
                    case rel => exact ⟨k + 1, some tb, by omega, by go_num, by rw [HST2.out]; rfl, rfl, HKq.out.drewN _, HN⟩
                    case measure => simp [intOf]; omega
                  | some s =>
                    have heS := HLT.out tb s
                    rw [← HST2.out] at heS
                    simp only [Option.isSome_some, Option.getD_some]
                    by_cases hls : tb < s
                    · have HN : Hid (BestTo (PairK (mapU rs) U i (k + 1)) (some tb)) := (best_less HBq.out hls).iff hpm
                      rw [decide_eq_true hls] at heS
                      clear hfk htk hnn hpm hls
                      generalize (⟨(bytesU pk).toArray⟩ : ByteArray) = NK at *
                      generalize (⟨(bytesU p).toArray⟩ : ByteArray) = NI at *
                      generalize (⟨tk.toArray⟩ : ByteArray) = TK at *
                      generalize (⟨s.toArray⟩ : ByteArray) = LS at *
                      go_wp2
                      go_quiet (fail)
                      go_wp2
                      go_roundw
                      case rel => exact ⟨k + 1, some tb, by omega, by go_num, by rw [HST2.out]; rfl, rfl, HKq.out.drewN _, HN⟩
                      case measure => simp [intOf]; omega
                    · have HN : Hid (BestTo (PairK (mapU rs) U i (k + 1)) (some s)) := (best_not HBq.out hls).iff hpm
                      rw [decide_eq_false hls] at heS
                      clear hfk htk hnn hpm hls
                      generalize (⟨(bytesU pk).toArray⟩ : ByteArray) = NK at *
                      generalize (⟨(bytesU p).toArray⟩ : ByteArray) = NI at *
                      generalize (⟨tk.toArray⟩ : ByteArray) = TK at *
                      obtain ⟨LS, hLS⟩ : ∃ LS : ByteArray, LS = ⟨s.toArray⟩ := ⟨_, rfl⟩
                      have HLS : Hid (LS = ⟨s.toArray⟩) := hLS
                      rw [← hLS] at heS ⊢
                      clear hLS
                      go_wp2
                      go_quiet (fail)
                      go_wp2
                      go_roundw
                      case rel => exact ⟨k + 1, some s, by omega, by go_num, by rw [HLS.out]; rfl, rfl, HKq.out.drewN _, HN⟩
                      case measure => simp [intOf]; omega
              · have HN : Hid (BestTo (PairK (mapU rs) U i (k + 1)) q) := HBq.out.iff (pair_skip HUk.out HUi.out HFN.out (Or.inl (by rw [hfk]; intro h; injection h with h; exact htk h)))
                rw [decide_eq_false htk] at heT
                clear hfk htk heN
                generalize (⟨(bytesU pk).toArray⟩ : ByteArray) = NK at *
                generalize (⟨(bytesU p).toArray⟩ : ByteArray) = NI at *
                generalize (⟨tk.toArray⟩ : ByteArray) = TK at *
                go_wp2
                go_quiet (fail)
                go_wp2
                go_roundw
                case rel => exact ⟨k + 1, q, by omega, by go_num, rfl, rfl, HKq.out.drewN _, HN⟩
                case measure => simp [intOf]; omega
          · have t1 : decide ((k : Int) < (i : Int)) = false := by simp; omega
            obtain rfl : k = i := by omega
            have HB9 : Hid (BestTo (PairK (mapU rs) U (k + 1) 0) q) := HBq.out.iff pair_next
            have HOA : Hid (∀ o, (wr.alloc o).ownsRow w.heap.size 9 1 (Value.slice aot k capt) (TT.map encStr).length (TT.map encStr)) := fun o => ownsK_on' (ownsK_on' HO.out (HLIFT.out wr HKq.out)) ((Kept.refl _ _).alloc _)
            have HHA : Hid (∀ o, (wr.alloc o).ownsRow w.heap.size 4 1 (Value.slice aoh k caph) (HH.map Value.bool).length (HH.map Value.bool)) := fun o => ownsK_on' (ownsK_on' HHO.out (HLIFT.out wr HKq.out)) ((Kept.refl _ _).alloc _)
            have HKA : Hid (∀ o, Kept [] w (wr.alloc o)) := fun o => (HK.out.then (HLIFT.out wr HKq.out)).alloc o
            have hszA : w.heap.size ≤ wr.heap.size := (HK.out.then (HLIFT.out wr HKq.out)).size
            have HCA : Hid ((wr.alloc (.cells #[.string ST] 9)).cell? ⟨wr.heap.size, 0, none⟩ = some (encStr tb)) := by
              rw [cell_of_row _ _ _ _ _ _ (heap_alloc_new wr _), HST.out]
              rfl
            go_wp2_with (first
              | (at_builtin; refine wpList_append_one rfl (.tmp 72) (.tmp 74) 23 9 (.string ⟨#[]⟩) 16 Tryd.underlying23 Tryd.info_str rfl rfl rfl (HOA.out _) rfl HCA.out rfl hml (by decide) (by simp; omega) ?_
                 intro v6 w6 h6 k6 at6
                 have HO6 : Hid (∀ o, (w6.alloc o).ownsRow w.heap.size 9 1 v6 ((TT ++ [tb]).map encStr).length ((TT ++ [tb]).map encStr)) := fun o => ownsK_on' (HAP.out _ _ h6) ((Kept.refl _ _).alloc _)
                 have hq : ∀ y, y ∈ (Value.slice aot k capt).ownBlock.toList → w.heap.size ≤ y := fun y hy => HB.out y (by simpa using hy)
                 have hd6 : ∀ g, (Value.slice aoh k caph).ownBlock = some g → g ∉ (Value.slice aot k capt).ownBlock.toList := fun g hg hm => HNE.out g hg (by simpa using hm)
                 have HH6 : Hid (∀ o, (w6.alloc o).ownsRow w.heap.size 4 1 (Value.slice aoh k caph) (HH.map Value.bool).length (HH.map Value.bool)) := fun o => ownsK_on' (ownsK_onT (HHA.out _) k6 hd6) ((Kept.refl _ _).alloc _)
                 have HK6 : Hid (∀ o, Kept [] w (w6.alloc o)) := fun o => ((HKA.out _).trans k6 (fun y hy => Or.inr (hq y hy))).alloc o
                 have HC6 : Hid ((w6.alloc (.cells #[.bool true] 4)).cell? ⟨w6.heap.size, 0, none⟩ = some (.bool true)) := by
                   rw [cell_of_row _ _ _ _ _ _ (heap_alloc_new w6 _)]
                   rfl
                 have hsz6 : w.heap.size ≤ w6.heap.size := Nat.le_trans hszA (Nat.le_trans (by simp) k6.size)
                 have HNE6 : Hid (∀ g, v6.ownBlock = some g → ∃ c, w6.heap[g]? = some (.cells c 9 (0, 0))) := fun g hg => owns_row (HAP.out _ _ h6) hg
                 clear h6 k6 at6 hq hd6)
              | (at_builtin; refine wpList_append_one rfl (.tmp 76) (.tmp 78) 67 4 (.bool false) 1 Tryd.underlying67 Tryd.info_bool rfl rfl rfl (HH6.out _) rfl HC6.out rfl hml2 (by decide) (by simp; omega) ?_
                 intro v7 w7 h7 k7 _
                 have HH7 : Hid (w7.ownsRow w.heap.size 4 1 v7 ((HH ++ [true]).map Value.bool).length ((HH ++ [true]).map Value.bool)) := HAPH.out _ _ h7
                 have hq7 : ∀ y, y ∈ (Value.slice aoh k caph).ownBlock.toList → w.heap.size ≤ y := fun y hy => HBH.out y (by simpa using hy)
                 have hd7 : ∀ g, v6.ownBlock = some g → g ∉ (Value.slice aoh k caph).ownBlock.toList := fun g hg hm => by
                   obtain ⟨c, hc⟩ := HNE6.out g hg
                   have hm2 : (Value.slice aoh k caph).ownBlock = some g := by simpa using hm
                   obtain ⟨c2, hc2⟩ := owns_row (HH6.out (.cells #[.bool true] 4)) hm2
                   have h3 := ((Kept.refl [] w6).alloc (.cells #[.bool true] 4)).heap hc (by simp)
                   rw [h3] at hc2
                   injection hc2 with hc2
                   injection hc2 with _ e
                   exact absurd e (by decide)
                 have HO7 : Hid (w7.ownsRow w.heap.size 9 1 v6 ((TT ++ [tb]).map encStr).length ((TT ++ [tb]).map encStr)) := ownsK_onT (HO6.out _) k7 hd7
                 have HK7 : Hid (Kept [] w w7) := (HK6.out _).trans k7 (fun y hy => Or.inr (hq7 y hy))
                 clear h7 k7 hq7 hd7))
            go_roundw
            case rel => exact ⟨k + 1, q, _, _, TT ++ [tb], HH ++ [true], rfl, rfl, by omega, by go_num, rfl, rfl, by simp; omega, by simp; omega, HT9, HH9, HO7, HH7, HK7, HB9⟩
            case measure => simp [intOf]; omega
    · have t0 : decide ((i : Int) < (L.length : Int)) = false := by simp; omega
      have HF : Hid (ClashTo (mapU rs) U r) := best_clash HBE.out (by have := HUL.out; omega)
      go_wp2
      go_ret2
      exact ⟨r, rfl, HF.out, HK.out⟩
end Go.Proofs.YtmjbaficdoehfaaDoor
