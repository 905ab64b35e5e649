/-
  WALK: satchellaw2.DigestMatch. Laid by gendm7.py.
-/
import Derived.Test.YtlljiipmkjjhhaaDoorDm6
namespace Go.Proofs.YtlljiipmkjjhhaaDoor
open Go.RowKit

set_option maxRecDepth 100000 in
set_option maxHeartbeats 8000000 in
theorem digestMatch_any (w : World) (hV : Vars w) (ao : Option Addr) (c : Nat) (ids : List (List Int)) (po : Option Addr) (pc : Nat) (ps : List Int) (cs0 : Array Value) (hv : IdsAt w (.slice ao ids.length c) ids) (hg : ∀ o, o ∈ ids → GoodID o) (hm : ids.length ≤ 100000)
    (hx : BytesAt w (.slice po ps.length pc) ps) (hp : Octs ps) (hpl : ps.length ≤ 1000000000) (h0 : cs0[0]? = some (.slice ao ids.length c)) (h33 : cs0[33]? = some (.slice po ps.length pc)) :
    Calls Tryd.prog 3 #[.agg cs0] w fun e w' => e = .returned (.bool true) ∧ Kept [] w w' := by
  have hun := Tryd.underlying24
  have hui := Tryd.underlying24
  have HG : Hid (∀ o, o ∈ ids → GoodID o) := hg
  have HV : Hid (∀ W, Kept [] w W → IdsAt W (.slice ao ids.length c) ids) := fun W k => hv.keep k (fun _ _ _ => by simp)
  have HC : Hid (∀ W, Kept [] w W → (convert 25 9 (.slice po ps.length pc)).run Tryd.prog W = .ok (.string (strOfNums ps)) W) := fun W hk => (hx.kept hk (fun _ _ => by simp)).conv
  have HRT : Hid (∀ W, Kept [] w W → Calls Tryd.prog 7 #[] W fun e w' => e = .returned (.bool true) ∧ Kept [] W w') := fun W k => right2_any W (hV.kept k (by simp) (by simp))
  have HR : Hid (∀ W : World, W.heap[w.heap.size]? = some (.cells cs0 27 (0, 0)) → W.cell? ⟨w.heap.size, 0, none⟩ = some (.slice ao ids.length c) ∧ W.cell? ⟨w.heap.size, 33, none⟩ = some (.slice po ps.length pc)) := fun W hW => by
    rw [cell_of_row _ _ _ _ _ _ hW, cell_of_row _ _ _ _ _ _ hW]
    exact ⟨h0, h33⟩
  have HB : Hid ((w.alloc (.cells cs0 27)).heap[w.heap.size]? = some (.cells cs0 27 (0, 0))) := heap_alloc_new w _
  have HK0 : Hid (Kept [] w (w.alloc (.cells cs0 27))) := (Kept.refl _ _).alloc _
  obtain ⟨c0, c33⟩ := HR.out _ HB.out
  have hmm : (ids.length + 2) * 32 ≤ 140737488355328 := by omega
  have HLEND : Hid (∀ W, Kept [] w W → Calls Tryd.prog 4 #[.slice ao ids.length c] W fun e w' => ∃ g cap, e = .returned (.slice (some ⟨g, 0, none⟩) ids.length cap) ∧ LentI w' W.heap.size g cap ids ∧ Kept [] W w') := fun W hW => LendIDs_any _ ids W (HV.out W hW) hg hmm
  have HINT : Hid (∀ W B g cap, Kept [] w W → LentI W B g cap ids → Calls Tryd.prog 6 #[.slice (some ⟨g, 0, none⟩) ids.length cap, .slice ao ids.length c] W fun e w' => e = .returned (.bool true) ∧ Kept [] W w') := fun W B g cap hK hW => IntactIDs_any hW (HV.out W hK) hg hmm
  have HMAT : Hid (∀ W B g cap, LentI W B g cap ids → Calls Tryd.prog 5 #[.slice (some ⟨g, 0, none⟩) ids.length cap, .string (strOfNums ps)] W (MatchD W ids ps)) := fun W B g cap hW => MatchD_any _ ids ps W (hW.ids hg hmm) hg hm hp hpl
  have HPL : Hid (∀ W B g cap, LentI W B g cap ids → Calls Tryd.prog 17 #[.slice (some ⟨g, 0, none⟩) ids.length cap, .string (strOfNums ps)] W fun e w' => e = .returned (.bool true) ∧ Kept [g] W w') := fun W B g cap hW => matchPlaced_any hW hg hm hp hpl
  have HBEG : Hid (OkB ps → ∀ W o, GoodID o → Calls Tryd.prog 10 #[.string (strOfNums (hexL o)), .string (strOfNums ps)] W fun e w' => e = .returned (.bool (hitL ps o)) ∧ w' = W) := fun hd W o ho => by
    have h := begins_any (hexL o) ps W (fun u hu => (hexL_mem o ho.2 u hu).2) hp
    rw [begB_hit o ps ho.2 hd.2.1 hd.2.2] at h
    exact h
  have HJ : Hid (∀ k : Nat, k < ps.length → (∀ W, (Instr.index 9 (.string (strOfNums ps)) (.int .i64 k)).run Tryd.prog W = .ok (.int .u8 (ps[k]?.getD 0)) W) ∧ ∀ W, Calls Tryd.prog 8 #[.int .u8 (ps[k]?.getD 0)] W fun e w' => e = .returned (.bool (decide (isDigit (ps[k]?.getD 0)))) ∧ w' = W) := by
    intro k hk
    have hz := octs_getD hp k
    exact ⟨fun W => str_index _ hp k hk W, fun W => small_any _ W hz.1 hz.2⟩
  have hss := strOfNums_size ps
  clear hv hg hx hp h0 h33 hV
  generalize strOfNums ps = S at *
  by_cases hd : OkB ps
  · have HD : Hid (OkB ps) := hd
    have t1 : decide ((4 : Int) ≤ (ps.length : Int)) = true := decide_eq_true (by have := hd.1; omega)
    have t2 : decide ((ps.length : Int) ≤ 64) = true := decide_eq_true (by have := hd.2.1; omega)
    have t1n : 4 ≤ ps.length := hd.1
    have t2n : ps.length ≤ 64 := hd.2.1
    clear hd
    go_enter Tryd.func3, Tryd.ntmps3
    go_wp2_with (first
      | (go_at_call 4; refine (HLEND.out _ HK0.out).mono ?_; rintro e w1 ⟨g, cap, rfl, hl1, hk1⟩
         have HL1 : Hid (LentI w1 (w.heap.size + 1) g cap ids) := by rw [World.size_alloc] at hl1; exact hl1
         have HB1 : Hid (w1.heap[w.heap.size]? = some (.cells cs0 27 (0, 0))) := hk1.heap HB.out (by simp)
         have HK1 : Hid (Kept [] w w1) := HK0.out.then hk1
         obtain ⟨c10, c133⟩ := HR.out w1 HB1.out
         have hcv := HC.out _ HK1.out
         have HX : Hid (∀ W, Kept [] w1 W → LentI W (w.heap.size + 1) g cap ids ∧ W.cell? ⟨w.heap.size, 0, none⟩ = some (.slice ao ids.length c) ∧ Kept [] w W) := fun W hW => ⟨LentI.kept HL1.out hW (by simp), (HR.out W (hW.heap HB1.out (by simp))).1, HK1.out.then hW⟩
         clear hl1 hk1)
      | (go_at_call 5; refine (HMAT.out _ _ _ _ HL1.out).mono ?_; rintro e w2 ⟨v1, M, ec, rfl, hq, hk2, hi2, hl2⟩
         obtain ⟨am, cm, rfl⟩ := hl2.form
         have HQ : Hid (MQ ids ps M ec) := hq
         have HK2 : Hid (Kept [] w1 w2) := hk2
         have HM2 : Hid (IdsAt w2 (.slice am M.length cm) M ∧ ListI w2 w1.heap.size (.slice am M.length cm) M) := ⟨hi2, hl2⟩
         obtain ⟨hl2x, c20, hk2x⟩ := HX.out w2 hk2
         have hint := HINT.out w2 _ _ _ hk2x hl2x
         clear hq hk2 hi2 hl2 hl2x hk2x)
      | (go_at_call 6; refine hint.mono ?_; rintro e w3 ⟨rfl, hk3⟩
         have HK3 : Hid (Kept [] w2 w3) := hk3
         have hrt := HRT.out w3 (HX.out w3 (HK2.out.then hk3)).2.2
         clear hint hk3)
      | (go_at_call 7; refine hrt.mono ?_; rintro e w4 ⟨rfl, hk4⟩
         have HK4 : Hid (Kept [] w2 w4) := HK3.out.then hk4
         clear hrt hk4))
    clear c20 c10 c133 c0 c33 hcv
    go_loopw [7, 8] (fun s7 s8 wr => ∃ k : Nat, k ≤ ps.length ∧ s8 = .int .i64 k ∧ s7 = .bool true ∧ Hid (Kept [] w2 wr)) (fun _ s8 _ => ps.length - (intOf s8).toNat)
    case atStart => exact ⟨0, Nat.zero_le _, rfl, rfl, HK4⟩
    case round =>
      obtain ⟨k, hk, rfl, rfl, HK⟩ := hrel
      by_cases hlt : k < ps.length
      · obtain ⟨hix, hsm⟩ := HJ.out k hlt
        have hdz : isDigit (ps[k]?.getD 0) := by
          rw [List.getElem?_eq_getElem hlt]
          exact HD.out.2.2 _ (List.getElem_mem hlt)
        rw [decide_eq_true hdz] at hsm
        clear hdz
        generalize ps[k]?.getD 0 = z at *
        go_wp2_with (go_at_call 8; refine (hsm _).mono ?_; rintro e w5 ⟨rfl, hw5⟩; subst hw5)
        go_roundw
        case rel => exact ⟨k + 1, by omega, by go_num, rfl, HK⟩
        case measure => simp [intOf]; omega
      · obtain rfl : k = ps.length := by omega
        obtain ⟨he, HS, HMM⟩ : ec = 0 ∧ Hid (SortedIds M) ∧ Hid (∀ id, id ∈ M ↔ id ∈ ids.filter (hitL ps)) := by
          rcases HQ.out with ⟨_, h1, h2, h3⟩ | ⟨h, _⟩
          · exact ⟨h1, h2, h3⟩
          · exact absurd HD.out h
        subst he
        have HGM : Hid (∀ o, o ∈ M → GoodID o) := HQ.out.good HG.out
        have HBE : Hid (∀ W o, GoodID o → Calls Tryd.prog 10 #[.string (strOfNums (hexL o)), .string S] W fun e w' => e = .returned (.bool (hitL ps o)) ∧ w' = W) := HBEG.out HD.out
        have HML : Hid (M.length ≤ 100000) := by
          exact Nat.le_trans (sorted_few M ids HS.out fun x hx => (List.mem_filter.1 ((HMM.out x).1 hx)).1) hm
        clear HBEG HJ hlt
        go_wp2
        go_loopw [9] (fun s9 wr => ∃ k : Nat, k ≤ M.length ∧ s9 = .int .i64 k ∧ Hid (Kept [] w2 wr)) (fun s9 _ => M.length - (intOf s9).toNat)
        case atStart => exact ⟨0, Nat.zero_le _, rfl, HK⟩
        case round =>
          clear HK
          obtain ⟨k, hk, rfl, HK⟩ := hrel
          by_cases hlt : k < M.length
          · obtain ⟨x, hxk⟩ : ∃ x, M[k]? = some x := ⟨_, List.getElem?_eq_getElem hlt⟩
            have hxm := List.mem_of_getElem? hxk
            have hgx := HGM.out x hxm
            have hmL := HML.out
            obtain ⟨gm, ham, hcm, hrm⟩ := HM2.out.2.at hxk
            subst ham
            obtain ⟨X, hX⟩ : ∃ X, X = x.map (Value.int .u8) := ⟨_, rfl⟩
            have hXl : X.length = 32 := by rw [hX, List.length_map]; exact hgx.1
            have hsX : (Tryd.prog.info? 24).map (·.size) = some X.length := by rw [hXl]; exact Tryd.infoID
            have HRX : Hid (∀ W, Kept [] wr W → W.rangeAt gm (k * 32) X) := fun W hW => by rw [hX]; exact hrm W (HK.out.then hW) k x hxk
            obtain ⟨SX, hSX⟩ : ∃ SX, SX = strOfNums (hexL x) := ⟨_, rfl⟩
            have HHX : Hid (∀ W, Kept [] wr W → Calls Tryd.prog 11 #[.agg X.toArray] W fun e w' => e = .returned (.string SX) ∧ Kept [] wr w') := fun W hW => by
              rw [hX, hSX]
              exact (Hex_any x W hgx.1 hgx.2).mono fun e w' h => ⟨h.1, hW.then h.2⟩
            have hhit : hitL ps x = true := (List.mem_filter.1 ((HMM.out x).1 hxm)).2
            have HBG : Hid (∀ W, Kept [] wr W → Calls Tryd.prog 10 #[.string SX, .string S] W fun e w' => e = .returned (.bool true) ∧ Kept [] wr w') := fun W hW => by
              have h := HBE.out W x hgx
              rw [hhit, ← hSX] at h
              exact h.mono fun e w' q => ⟨q.1, by rw [q.2]; exact hW⟩
            have hin : x ∈ ids := (List.mem_filter.1 ((HMM.out x).1 hxm)).1
            have HHS : Hid (∀ W, Kept [] wr W → Calls Tryd.prog 12 #[.slice ao ids.length c, .agg X.toArray] W fun e w' => e = .returned (.bool true) ∧ Kept [] wr w') := fun W hW => by
              have h := HasID_any (.slice ao ids.length c) ids x W (HV.out W (HX.out W (HK2.out.then (HK.out.then hW))).2.2) HG.out hgx
              rw [decide_eq_true hin] at h
              rw [hX]
              exact h.mono fun e w' q => ⟨q.1, hW.then q.2⟩
            have HCA : Hid (∀ W, Kept [] wr W → W.cell? ⟨w.heap.size, 0, none⟩ = some (.slice ao ids.length c)) := fun W hW => (HX.out W (HK2.out.then (HK.out.then hW))).2.1
            have HXX : Hid (X = x.map (Value.int .u8) ∧ M[k]? = some x ∧ GoodID x) := ⟨hX, hxk, hgx⟩
            have HRM : Hid (∀ W, Kept [] w2 W → ∀ (i : Nat) (y : List Int), M[i]? = some y → W.rangeAt gm (i * 32) (y.map (Value.int .u8))) := hrm
            clear hrm hX hxk hgx hhit hin hxm hSX
            by_cases hpos : 0 < k
            · have hpz : decide (0 < (k : Int)) = true := decide_eq_true (by omega)
              have hpz2 : (0 : Int) < (k : Int) := by omega
              obtain ⟨j, hj⟩ : ∃ j, k = j + 1 := ⟨k - 1, by omega⟩
              have hkj : (k : Int) - 1 = (j : Int) := by omega
              have hkw : IntKind.i64.wrap (j : Int) = (j : Int) := by rw [IntKind.wrap_i64]; omega
              have hj0 : (0 : Int) ≤ (j : Int) := by omega
              have hj1 : (j : Int) < (M.length : Int) := by omega
              have hj2 : j < M.length := by omega
              have hj3 : (j : Int) < (cm : Int) := by omega
              obtain ⟨y, hyj⟩ : ∃ y, M[j]? = some y := ⟨_, List.getElem?_eq_getElem hj2⟩
              have hgy := HGM.out y (List.mem_of_getElem? hyj)
              obtain ⟨Y, hY⟩ : ∃ Y, Y = y.map (Value.int .u8) := ⟨_, rfl⟩
              have hYl : Y.length = 32 := by rw [hY, List.length_map]; exact hgy.1
              have hsY : (Tryd.prog.info? 24).map (·.size) = some Y.length := by rw [hYl]; exact Tryd.infoID
              have HRY : Hid (∀ W, Kept [] wr W → W.rangeAt gm (j * 32) Y) := fun W hW => by rw [hY]; exact HRM.out W (HK.out.then hW) j y hyj
              obtain ⟨cz, hcz0⟩ : ∃ cz, cz = cmpB y x := ⟨_, rfl⟩
              have hcz : cz < 0 := by rw [hcz0]; exact sorted_near HS.out (by omega) HXX.out.2.1 hyj
              have HCM : Hid (∀ W, Kept [] wr W → Calls Tryd.prog 13 #[.agg Y.toArray, .agg X.toArray] W fun e w' => e = .returned (.int .i64 cz) ∧ Kept [] wr w') := fun W hW => by
                have h := CmpID_any y x W hgy HXX.out.2.2
                rw [cmpZ_cmpB, ← hcz0] at h
                rw [hY, HXX.out.1]
                exact h.mono fun e w' q => ⟨q.1, hW.then q.2⟩
              have hczd : decide ((0 : Int) ≤ cz) = false := decide_eq_false (by omega)
              have hczn : ¬ (0 : Int) ≤ cz := by omega
              clear hj hyj hgy hY hcz0
              go_wp2_with fail
              refine region_quiet (Kept [] wr) (by kernel_rfl) (by kernel_rfl) (Kept.refl [] wr).drew ?_
              with_reducible refine wpQuiet_step ?_
              intro K hK
              rw [if_pos (by go_simp)]
              refine move_at (.tmp 5) rfl (.slice (some ⟨gm, 0, none⟩) M.length cm) rfl (hK _ ?_)
              clear hK K
              simp only [Act.put, List.setIfInBounds_toArray, List.set_cons_zero, List.set_cons_succ]
              with_reducible refine wpQuiet_step ?_
              intro K hK
              rw [if_pos (by go_simp)]
              refine move_at (.tmp 9) rfl (.int .i64 k) rfl (hK _ ?_)
              clear hK K
              simp only [Act.put, List.setIfInBounds_toArray, List.set_cons_zero, List.set_cons_succ]
              with_reducible refine wpQuiet_step ?_
              intro K hK
              rw [if_pos (by go_simp)]
              refine val_at (.pointer (some ⟨gm, k * 32, none⟩)) (fun W => by go_simp) (hK _ ?_)
              clear hK K
              simp only [Act.put, List.setIfInBounds_toArray, List.set_cons_zero, List.set_cons_succ]
              with_reducible refine wpQuiet_step ?_
              intro K hK
              rw [if_pos (by go_simp)]
              refine row_at 24 (.tmp 77) rfl gm (k * 32) rfl X _ HRX.out hui rfl hsX (hK _ ?_)
              clear hK K
              simp only [Act.put, List.setIfInBounds_toArray, List.set_cons_zero, List.set_cons_succ]
              with_reducible refine wpQuiet_step ?_
              intro K hK
              rw [if_pos (by go_simp)]
              refine call_at 11 #[.agg X.toArray] (.string SX) (fun W => by go_simp) HHX.out (hK _ ?_)
              clear hK K
              simp only [Act.put, List.setIfInBounds_toArray, List.set_cons_zero, List.set_cons_succ]
              with_reducible refine wpQuiet_step ?_
              intro K hK
              rw [if_pos (by go_simp)]
              refine move_at (.tmp 4) rfl (.string S) rfl (hK _ ?_)
              clear hK K
              simp only [Act.put, List.setIfInBounds_toArray, List.set_cons_zero, List.set_cons_succ]
              with_reducible refine wpQuiet_step ?_
              intro K hK
              rw [if_pos (by go_simp)]
              refine call_at 10 #[.string SX, .string S] (.bool true) (fun W => by go_simp) HBG.out (hK _ ?_)
              clear hK K
              simp only [Act.put, List.setIfInBounds_toArray, List.set_cons_zero, List.set_cons_succ]
              with_reducible refine wpQuiet_step ?_
              intro K hK
              rw [if_pos (by go_simp)]
              refine val_at (.bool false) (fun W => by go_simp) (hK _ ?_)
              clear hK K
              simp only [Act.put, List.setIfInBounds_toArray, List.set_cons_zero, List.set_cons_succ]
              with_reducible refine wpQuiet_step ?_
              intro K hK
              rw [if_pos (by go_simp)]
              refine move_at (.tmp 82) rfl (.bool false) rfl (hK _ ?_)
              clear hK K
              simp only [Act.put, List.setIfInBounds_toArray, List.set_cons_zero, List.set_cons_succ]
              with_reducible refine wpQuiet_step ?_
              intro K hK
              rw [if_pos (by go_simp)]
              refine val_at (.pointer (some ⟨w.heap.size, 0, none⟩)) (fun W => by go_simp) (hK _ ?_)
              clear hK K
              simp only [Act.put, List.setIfInBounds_toArray, List.set_cons_zero, List.set_cons_succ]
              with_reducible refine wpQuiet_step ?_
              intro K hK
              rw [if_pos (by go_simp)]
              refine valC_at (.slice ao ids.length c) (fun W hW => by have hcc := HCA.out W hW; go_simp) (hK _ ?_)
              clear hK K
              simp only [Act.put, List.setIfInBounds_toArray, List.set_cons_zero, List.set_cons_succ]
              with_reducible refine wpQuiet_step ?_
              intro K hK
              rw [if_pos (by go_simp)]
              refine move_at (.tmp 5) rfl (.slice (some ⟨gm, 0, none⟩) M.length cm) rfl (hK _ ?_)
              clear hK K
              simp only [Act.put, List.setIfInBounds_toArray, List.set_cons_zero, List.set_cons_succ]
              with_reducible refine wpQuiet_step ?_
              intro K hK
              rw [if_pos (by go_simp)]
              refine move_at (.tmp 9) rfl (.int .i64 k) rfl (hK _ ?_)
              clear hK K
              simp only [Act.put, List.setIfInBounds_toArray, List.set_cons_zero, List.set_cons_succ]
              with_reducible refine wpQuiet_step ?_
              intro K hK
              rw [if_pos (by go_simp)]
              refine val_at (.pointer (some ⟨gm, k * 32, none⟩)) (fun W => by go_simp) (hK _ ?_)
              clear hK K
              simp only [Act.put, List.setIfInBounds_toArray, List.set_cons_zero, List.set_cons_succ]
              with_reducible refine wpQuiet_step ?_
              intro K hK
              rw [if_pos (by go_simp)]
              refine row_at 24 (.tmp 88) rfl gm (k * 32) rfl X _ HRX.out hui rfl hsX (hK _ ?_)
              clear hK K
              simp only [Act.put, List.setIfInBounds_toArray, List.set_cons_zero, List.set_cons_succ]
              with_reducible refine wpQuiet_step ?_
              intro K hK
              rw [if_pos (by go_simp)]
              refine call_at 12 #[.slice ao ids.length c, .agg X.toArray] (.bool true) (fun W => by go_simp) HHS.out (hK _ ?_)
              clear hK K
              simp only [Act.put, List.setIfInBounds_toArray, List.set_cons_zero, List.set_cons_succ]
              with_reducible refine wpQuiet_step ?_
              intro K hK
              rw [if_pos (by go_simp)]
              refine val_at (.bool false) (fun W => by go_simp) (hK _ ?_)
              clear hK K
              simp only [Act.put, List.setIfInBounds_toArray, List.set_cons_zero, List.set_cons_succ]
              with_reducible refine wpQuiet_step ?_
              intro K hK
              rw [if_pos (by go_simp)]
              refine val_at (.bool false) (fun W => by go_simp) (hK _ ?_)
              clear hK K
              simp only [Act.put, List.setIfInBounds_toArray, List.set_cons_zero, List.set_cons_succ]
              with_reducible refine wpQuiet_step ?_
              intro K hK
              rw [if_pos (by go_simp)]
              refine move_at (.tmp 92) rfl (.bool false) rfl (hK _ ?_)
              clear hK K
              simp only [Act.put, List.setIfInBounds_toArray, List.set_cons_zero, List.set_cons_succ]
              with_reducible refine wpQuiet_step ?_
              intro K hK
              rw [if_pos (by go_simp)]
              refine move_at (.tmp 9) rfl (.int .i64 k) rfl (hK _ ?_)
              clear hK K
              simp only [Act.put, List.setIfInBounds_toArray, List.set_cons_zero, List.set_cons_succ]
              with_reducible refine wpQuiet_step ?_
              intro K hK
              rw [if_pos (by go_simp)]
              refine val_at (.bool true) (fun W => by go_simp) (hK _ ?_)
              clear hK K
              simp only [Act.put, List.setIfInBounds_toArray, List.set_cons_zero, List.set_cons_succ]
              with_reducible refine wpQuiet_step ?_
              intro K hK
              rw [if_pos (by go_simp)]
              refine move_at (.tmp 95) rfl (.bool true) rfl (hK _ ?_)
              clear hK K
              simp only [Act.put, List.setIfInBounds_toArray, List.set_cons_zero, List.set_cons_succ]
              with_reducible refine wpQuiet_step ?_
              intro K hK
              rw [if_pos (by go_simp)]
              refine move_at (.tmp 5) rfl (.slice (some ⟨gm, 0, none⟩) M.length cm) rfl (hK _ ?_)
              clear hK K
              simp only [Act.put, List.setIfInBounds_toArray, List.set_cons_zero, List.set_cons_succ]
              with_reducible refine wpQuiet_step ?_
              intro K hK
              rw [if_pos (by go_simp)]
              refine move_at (.tmp 9) rfl (.int .i64 k) rfl (hK _ ?_)
              clear hK K
              simp only [Act.put, List.setIfInBounds_toArray, List.set_cons_zero, List.set_cons_succ]
              with_reducible refine wpQuiet_step ?_
              intro K hK
              rw [if_pos (by go_simp)]
              refine val_at (.int .i64 j) (fun W => by go_simp) (hK _ ?_)
              clear hK K
              simp only [Act.put, List.setIfInBounds_toArray, List.set_cons_zero, List.set_cons_succ]
              with_reducible refine wpQuiet_step ?_
              intro K hK
              rw [if_pos (by go_simp)]
              refine val_at (.pointer (some ⟨gm, j * 32, none⟩)) (fun W => by go_simp) (hK _ ?_)
              clear hK K
              simp only [Act.put, List.setIfInBounds_toArray, List.set_cons_zero, List.set_cons_succ]
              with_reducible refine wpQuiet_step ?_
              intro K hK
              rw [if_pos (by go_simp)]
              refine row_at 24 (.tmp 100) rfl gm (j * 32) rfl Y _ HRY.out hui rfl hsY (hK _ ?_)
              clear hK K
              simp only [Act.put, List.setIfInBounds_toArray, List.set_cons_zero, List.set_cons_succ]
              with_reducible refine wpQuiet_step ?_
              intro K hK
              rw [if_pos (by go_simp)]
              refine move_at (.tmp 5) rfl (.slice (some ⟨gm, 0, none⟩) M.length cm) rfl (hK _ ?_)
              clear hK K
              simp only [Act.put, List.setIfInBounds_toArray, List.set_cons_zero, List.set_cons_succ]
              with_reducible refine wpQuiet_step ?_
              intro K hK
              rw [if_pos (by go_simp)]
              refine move_at (.tmp 9) rfl (.int .i64 k) rfl (hK _ ?_)
              clear hK K
              simp only [Act.put, List.setIfInBounds_toArray, List.set_cons_zero, List.set_cons_succ]
              with_reducible refine wpQuiet_step ?_
              intro K hK
              rw [if_pos (by go_simp)]
              refine val_at (.pointer (some ⟨gm, k * 32, none⟩)) (fun W => by go_simp) (hK _ ?_)
              clear hK K
              simp only [Act.put, List.setIfInBounds_toArray, List.set_cons_zero, List.set_cons_succ]
              with_reducible refine wpQuiet_step ?_
              intro K hK
              rw [if_pos (by go_simp)]
              refine row_at 24 (.tmp 104) rfl gm (k * 32) rfl X _ HRX.out hui rfl hsX (hK _ ?_)
              clear hK K
              simp only [Act.put, List.setIfInBounds_toArray, List.set_cons_zero, List.set_cons_succ]
              with_reducible refine wpQuiet_step ?_
              intro K hK
              rw [if_pos (by go_simp)]
              refine call_at 13 #[.agg Y.toArray, .agg X.toArray] (.int .i64 cz) (fun W => by go_simp) HCM.out (hK _ ?_)
              clear hK K
              simp only [Act.put, List.setIfInBounds_toArray, List.set_cons_zero, List.set_cons_succ]
              with_reducible refine wpQuiet_step ?_
              intro K hK
              rw [if_pos (by go_simp)]
              refine val_at (.bool false) (fun W => by go_simp) (hK _ ?_)
              clear hK K
              simp only [Act.put, List.setIfInBounds_toArray, List.set_cons_zero, List.set_cons_succ]
              with_reducible refine wpQuiet_step ?_
              intro K hK
              rw [if_pos (by go_simp)]
              refine val_at (.bool false) (fun W => by go_simp) (hK _ ?_)
              clear hK K
              simp only [Act.put, List.setIfInBounds_toArray, List.set_cons_zero, List.set_cons_succ]
              with_reducible refine wpQuiet_step ?_
              intro K hK
              rw [if_pos (by go_simp)]
              refine val_at (.bool false) (fun W => by go_simp) (hK _ ?_)
              clear hK K
              simp only [Act.put, List.setIfInBounds_toArray, List.set_cons_zero, List.set_cons_succ]
              refine wpQuiet_nil fun wz hkz => ?_
              have HKZ : Hid (Kept [] w2 wz) := HK.out.then hkz
              clear hkz
              go_wp2
              go_roundw
              case rel => exact ⟨k + 1, by omega, by go_num, HKZ⟩
              case measure => simp [intOf]; omega
            · have hpz : decide (0 < (k : Int)) = false := decide_eq_false (by omega)
              have hpz2 : ¬ (0 : Int) < (k : Int) := by omega
              go_wp2_with fail
              refine region_quiet (Kept [] wr) (by kernel_rfl) (by kernel_rfl) (Kept.refl [] wr).drew ?_
              with_reducible refine wpQuiet_step ?_
              intro K hK
              rw [if_pos (by go_simp)]
              refine move_at (.tmp 5) rfl (.slice (some ⟨gm, 0, none⟩) M.length cm) rfl (hK _ ?_)
              clear hK K
              simp only [Act.put, List.setIfInBounds_toArray, List.set_cons_zero, List.set_cons_succ]
              with_reducible refine wpQuiet_step ?_
              intro K hK
              rw [if_pos (by go_simp)]
              refine move_at (.tmp 9) rfl (.int .i64 k) rfl (hK _ ?_)
              clear hK K
              simp only [Act.put, List.setIfInBounds_toArray, List.set_cons_zero, List.set_cons_succ]
              with_reducible refine wpQuiet_step ?_
              intro K hK
              rw [if_pos (by go_simp)]
              refine val_at (.pointer (some ⟨gm, k * 32, none⟩)) (fun W => by go_simp) (hK _ ?_)
              clear hK K
              simp only [Act.put, List.setIfInBounds_toArray, List.set_cons_zero, List.set_cons_succ]
              with_reducible refine wpQuiet_step ?_
              intro K hK
              rw [if_pos (by go_simp)]
              refine row_at 24 (.tmp 77) rfl gm (k * 32) rfl X _ HRX.out hui rfl hsX (hK _ ?_)
              clear hK K
              simp only [Act.put, List.setIfInBounds_toArray, List.set_cons_zero, List.set_cons_succ]
              with_reducible refine wpQuiet_step ?_
              intro K hK
              rw [if_pos (by go_simp)]
              refine call_at 11 #[.agg X.toArray] (.string SX) (fun W => by go_simp) HHX.out (hK _ ?_)
              clear hK K
              simp only [Act.put, List.setIfInBounds_toArray, List.set_cons_zero, List.set_cons_succ]
              with_reducible refine wpQuiet_step ?_
              intro K hK
              rw [if_pos (by go_simp)]
              refine move_at (.tmp 4) rfl (.string S) rfl (hK _ ?_)
              clear hK K
              simp only [Act.put, List.setIfInBounds_toArray, List.set_cons_zero, List.set_cons_succ]
              with_reducible refine wpQuiet_step ?_
              intro K hK
              rw [if_pos (by go_simp)]
              refine call_at 10 #[.string SX, .string S] (.bool true) (fun W => by go_simp) HBG.out (hK _ ?_)
              clear hK K
              simp only [Act.put, List.setIfInBounds_toArray, List.set_cons_zero, List.set_cons_succ]
              with_reducible refine wpQuiet_step ?_
              intro K hK
              rw [if_pos (by go_simp)]
              refine val_at (.bool false) (fun W => by go_simp) (hK _ ?_)
              clear hK K
              simp only [Act.put, List.setIfInBounds_toArray, List.set_cons_zero, List.set_cons_succ]
              with_reducible refine wpQuiet_step ?_
              intro K hK
              rw [if_pos (by go_simp)]
              refine move_at (.tmp 82) rfl (.bool false) rfl (hK _ ?_)
              clear hK K
              simp only [Act.put, List.setIfInBounds_toArray, List.set_cons_zero, List.set_cons_succ]
              with_reducible refine wpQuiet_step ?_
              intro K hK
              rw [if_pos (by go_simp)]
              refine val_at (.pointer (some ⟨w.heap.size, 0, none⟩)) (fun W => by go_simp) (hK _ ?_)
              clear hK K
              simp only [Act.put, List.setIfInBounds_toArray, List.set_cons_zero, List.set_cons_succ]
              with_reducible refine wpQuiet_step ?_
              intro K hK
              rw [if_pos (by go_simp)]
              refine valC_at (.slice ao ids.length c) (fun W hW => by have hcc := HCA.out W hW; go_simp) (hK _ ?_)
              clear hK K
              simp only [Act.put, List.setIfInBounds_toArray, List.set_cons_zero, List.set_cons_succ]
              with_reducible refine wpQuiet_step ?_
              intro K hK
              rw [if_pos (by go_simp)]
              refine move_at (.tmp 5) rfl (.slice (some ⟨gm, 0, none⟩) M.length cm) rfl (hK _ ?_)
              clear hK K
              simp only [Act.put, List.setIfInBounds_toArray, List.set_cons_zero, List.set_cons_succ]
              with_reducible refine wpQuiet_step ?_
              intro K hK
              rw [if_pos (by go_simp)]
              refine move_at (.tmp 9) rfl (.int .i64 k) rfl (hK _ ?_)
              clear hK K
              simp only [Act.put, List.setIfInBounds_toArray, List.set_cons_zero, List.set_cons_succ]
              with_reducible refine wpQuiet_step ?_
              intro K hK
              rw [if_pos (by go_simp)]
              refine val_at (.pointer (some ⟨gm, k * 32, none⟩)) (fun W => by go_simp) (hK _ ?_)
              clear hK K
              simp only [Act.put, List.setIfInBounds_toArray, List.set_cons_zero, List.set_cons_succ]
              with_reducible refine wpQuiet_step ?_
              intro K hK
              rw [if_pos (by go_simp)]
              refine row_at 24 (.tmp 88) rfl gm (k * 32) rfl X _ HRX.out hui rfl hsX (hK _ ?_)
              clear hK K
              simp only [Act.put, List.setIfInBounds_toArray, List.set_cons_zero, List.set_cons_succ]
              with_reducible refine wpQuiet_step ?_
              intro K hK
              rw [if_pos (by go_simp)]
              refine call_at 12 #[.slice ao ids.length c, .agg X.toArray] (.bool true) (fun W => by go_simp) HHS.out (hK _ ?_)
              clear hK K
              simp only [Act.put, List.setIfInBounds_toArray, List.set_cons_zero, List.set_cons_succ]
              with_reducible refine wpQuiet_step ?_
              intro K hK
              rw [if_pos (by go_simp)]
              refine val_at (.bool false) (fun W => by go_simp) (hK _ ?_)
              clear hK K
              simp only [Act.put, List.setIfInBounds_toArray, List.set_cons_zero, List.set_cons_succ]
              with_reducible refine wpQuiet_step ?_
              intro K hK
              rw [if_pos (by go_simp)]
              refine val_at (.bool false) (fun W => by go_simp) (hK _ ?_)
              clear hK K
              simp only [Act.put, List.setIfInBounds_toArray, List.set_cons_zero, List.set_cons_succ]
              with_reducible refine wpQuiet_step ?_
              intro K hK
              rw [if_pos (by go_simp)]
              refine move_at (.tmp 92) rfl (.bool false) rfl (hK _ ?_)
              clear hK K
              simp only [Act.put, List.setIfInBounds_toArray, List.set_cons_zero, List.set_cons_succ]
              with_reducible refine wpQuiet_step ?_
              intro K hK
              rw [if_pos (by go_simp)]
              refine move_at (.tmp 9) rfl (.int .i64 k) rfl (hK _ ?_)
              clear hK K
              simp only [Act.put, List.setIfInBounds_toArray, List.set_cons_zero, List.set_cons_succ]
              with_reducible refine wpQuiet_step ?_
              intro K hK
              rw [if_pos (by go_simp)]
              refine val_at (.bool false) (fun W => by go_simp) (hK _ ?_)
              clear hK K
              simp only [Act.put, List.setIfInBounds_toArray, List.set_cons_zero, List.set_cons_succ]
              with_reducible refine wpQuiet_step ?_
              intro K hK
              rw [if_pos (by go_simp)]
              refine move_at (.tmp 95) rfl (.bool false) rfl (hK _ ?_)
              clear hK K
              simp only [Act.put, List.setIfInBounds_toArray, List.set_cons_zero, List.set_cons_succ]
              with_reducible refine wpQuiet_step ?_
              intro K hK
              rw [if_neg (by go_simp)]
              refine hK _ ?_
              clear hK K
              simp only [Act.put, List.setIfInBounds_toArray, List.set_cons_zero, List.set_cons_succ]
              with_reducible refine wpQuiet_step ?_
              intro K hK
              rw [if_neg (by go_simp)]
              refine hK _ ?_
              clear hK K
              simp only [Act.put, List.setIfInBounds_toArray, List.set_cons_zero, List.set_cons_succ]
              with_reducible refine wpQuiet_step ?_
              intro K hK
              rw [if_neg (by go_simp)]
              refine hK _ ?_
              clear hK K
              simp only [Act.put, List.setIfInBounds_toArray, List.set_cons_zero, List.set_cons_succ]
              with_reducible refine wpQuiet_step ?_
              intro K hK
              rw [if_neg (by go_simp)]
              refine hK _ ?_
              clear hK K
              simp only [Act.put, List.setIfInBounds_toArray, List.set_cons_zero, List.set_cons_succ]
              with_reducible refine wpQuiet_step ?_
              intro K hK
              rw [if_neg (by go_simp)]
              refine hK _ ?_
              clear hK K
              simp only [Act.put, List.setIfInBounds_toArray, List.set_cons_zero, List.set_cons_succ]
              with_reducible refine wpQuiet_step ?_
              intro K hK
              rw [if_neg (by go_simp)]
              refine hK _ ?_
              clear hK K
              simp only [Act.put, List.setIfInBounds_toArray, List.set_cons_zero, List.set_cons_succ]
              with_reducible refine wpQuiet_step ?_
              intro K hK
              rw [if_neg (by go_simp)]
              refine hK _ ?_
              clear hK K
              simp only [Act.put, List.setIfInBounds_toArray, List.set_cons_zero, List.set_cons_succ]
              with_reducible refine wpQuiet_step ?_
              intro K hK
              rw [if_neg (by go_simp)]
              refine hK _ ?_
              clear hK K
              simp only [Act.put, List.setIfInBounds_toArray, List.set_cons_zero, List.set_cons_succ]
              with_reducible refine wpQuiet_step ?_
              intro K hK
              rw [if_neg (by go_simp)]
              refine hK _ ?_
              clear hK K
              simp only [Act.put, List.setIfInBounds_toArray, List.set_cons_zero, List.set_cons_succ]
              with_reducible refine wpQuiet_step ?_
              intro K hK
              rw [if_neg (by go_simp)]
              refine hK _ ?_
              clear hK K
              simp only [Act.put, List.setIfInBounds_toArray, List.set_cons_zero, List.set_cons_succ]
              with_reducible refine wpQuiet_step ?_
              intro K hK
              rw [if_neg (by go_simp)]
              refine hK _ ?_
              clear hK K
              simp only [Act.put, List.setIfInBounds_toArray, List.set_cons_zero, List.set_cons_succ]
              with_reducible refine wpQuiet_step ?_
              intro K hK
              rw [if_pos (by go_simp)]
              refine val_at (.bool false) (fun W => by go_simp) (hK _ ?_)
              clear hK K
              simp only [Act.put, List.setIfInBounds_toArray, List.set_cons_zero, List.set_cons_succ]
              with_reducible refine wpQuiet_step ?_
              intro K hK
              rw [if_pos (by go_simp)]
              refine val_at (.bool false) (fun W => by go_simp) (hK _ ?_)
              clear hK K
              simp only [Act.put, List.setIfInBounds_toArray, List.set_cons_zero, List.set_cons_succ]
              refine wpQuiet_nil fun wz hkz => ?_
              have HKZ : Hid (Kept [] w2 wz) := HK.out.then hkz
              clear hkz
              go_wp2
              go_roundw
              case rel => exact ⟨k + 1, by omega, by go_num, HKZ⟩
              case measure => simp [intOf]; omega
          · obtain rfl : k = M.length := by omega
            clear hlt
            go_wp2
            go_loopw [10] (fun s10 wr => ∃ k : Nat, k ≤ ids.length ∧ s10 = .int .i64 k ∧ Hid (Kept [] w2 wr)) (fun s10 _ => ids.length - (intOf s10).toNat)
            case atStart => exact ⟨0, Nat.zero_le _, rfl, HK⟩
            case round =>
              clear HK
              obtain ⟨k, hk, rfl, HK⟩ := hrel
              have cr := (HX.out wr (HK2.out.then HK.out)).2.1
              by_cases hlt : k < ids.length
              · obtain ⟨o, ho⟩ : ∃ o, ids[k]? = some o := ⟨_, List.getElem?_eq_getElem hlt⟩
                have hom := List.mem_of_getElem? ho
                have hgo := HG.out o hom
                obtain ⟨ao', cap', he, _, _, _, hc⟩ := HV.out wr (HX.out wr (HK2.out.then HK.out)).2.2
                injection he with e1 e2 e3
                subst e1 e3
                obtain ⟨b, off, rfl, hh⟩ := hc (by rintro rfl; simp at hlt)
                have hr := hh k o ho
                obtain ⟨X, hX⟩ : ∃ X, X = o.map (Value.int .u8) := ⟨_, rfl⟩
                have hXl : X.length = 32 := by rw [hX, List.length_map]; exact hgo.1
                have hsX : (Tryd.prog.info? 24).map (·.size) = some X.length := by rw [hXl]; exact Tryd.infoID
                rw [← hX] at hr
                have HRX : Hid (∀ W, Kept [] wr W → W.rangeAt b (off + k * 32) X ∧ W.cell? ⟨w.heap.size, 0, none⟩ = some (.slice (some ⟨b, off, none⟩) ids.length c)) := fun W hW => ⟨range_kept hr hW (by simp), hW.cell cr (by simp)⟩
                obtain ⟨SX, hSX⟩ : ∃ SX, SX = strOfNums (hexL o) := ⟨_, rfl⟩
                have hhex : ∀ W, Calls Tryd.prog 11 #[.agg X.toArray] W fun e w' => e = .returned (.string SX) ∧ Kept [] W w' := fun W => by
                  rw [hX, hSX]
                  exact Hex_any o W hgo.1 hgo.2
                have hbeg := fun W => HBE.out W o hgo
                rw [← hSX] at hbeg
                have hhas : ∀ W, Kept [] w2 W → Calls Tryd.prog 12 #[.slice am M.length cm, .agg X.toArray] W fun e w' => e = .returned (.bool (decide (o ∈ M))) ∧ Kept [] W w' := fun W hW => by
                  rw [hX]
                  exact HasID_any (.slice am M.length cm) M o W (HM2.out.1.onK hW) HGM.out hgo
                have hmm2 : hitL ps o = true → decide (o ∈ M) = true := fun h => decide_eq_true ((HMM.out o).2 (List.mem_filter.2 ⟨hom, h⟩))
                generalize decide (o ∈ M) = om at *
                clear hh hc ho hom hgo hX hSX
                generalize hitL ps o = ht at *
                cases ht
                · clear hmm2 hhas
                  go_wp2_with (first
                    | (refine wpList_load_mid (by rfl) 24 (.tmp 120) (by rfl) b (off + k * 32) (by rfl) X _ hr hui rfl hsX ?_)
                    | (go_at_call 11; refine (hhex _).mono ?_; rintro e w5 ⟨rfl, hk5⟩
                       have HK5 : Hid (Kept [] wr w5) := hk5
                       clear hk5)
                    | (go_at_call 10; refine (hbeg _).mono ?_; rintro e w6 ⟨rfl, hw6⟩; subst w6))
                  go_roundw
                  case rel => exact ⟨k + 1, by omega, by go_num, HK.out.then HK5.out⟩
                  case measure => simp [intOf]; omega
                · obtain rfl : om = true := hmm2 rfl
                  clear hmm2
                  go_wp2_with (first
                    | (refine wpList_load_mid (by rfl) 24 (.tmp 120) (by rfl) b (off + k * 32) (by rfl) X _ hr hui rfl hsX ?_)
                    | (go_at_call 11; refine (hhex _).mono ?_; rintro e w5 ⟨rfl, hk5⟩
                       have HK5 : Hid (Kept [] wr w5) := hk5
                       obtain ⟨hr5, c5⟩ := HRX.out w5 hk5
                       have hha := hhas w5 (HK.out.then hk5)
                       clear hk5)
                    | (go_at_call 10; refine (hbeg _).mono ?_; rintro e w6 ⟨rfl, hw6⟩; subst w6)
                    | (refine wpList_load_mid (by rfl) 24 (.tmp 130) (by rfl) b (off + k * 32) (by rfl) X _ hr5 hui rfl hsX ?_)
                    | (refine wpList_want (by rfl) fun K hK => wp_load_mid 24 (.tmp 130) (by rfl) b (off + k * 32) (by rfl) X _ hr5 hui rfl hsX (hK _ _ ?_))
                    | (go_at_call 12; refine hha.mono ?_; rintro e w7 ⟨rfl, hk7⟩
                       have HK7 : Hid (Kept [] wr w7) := HK5.out.then hk7
                       clear hk7 hha))
                  go_roundw
                  case rel => exact ⟨k + 1, by omega, by go_num, HK.out.then HK7.out⟩
                  case measure => simp [intOf]; omega
              · obtain rfl : k = ids.length := by omega
                clear hlt HBE HR HC HRT HLEND HV
                have hm2 := HMAT.out wr _ _ _ (HX.out wr (HK2.out.then HK.out)).1
                obtain ⟨BC, hBC⟩ : ∃ A, A = bookI (.slice none 0 0) (.slice none 0 0) 0 0 0 0 := ⟨_, rfl⟩
                have HBC : Hid (BC = bookI (.slice none 0 0) (.slice none 0 0) 0 0 0 0) := hBC
                clear hBC
                have HG1 : Hid (∀ g, (Value.slice am M.length cm).ownBlock = some g → g < w2.heap.size) := fun g h => (HM2.out.2.own g h).2
                go_wp2_with (first
                  | (go_at_call 5; refine hm2.mono ?_; rintro e x2 ⟨v2, M2, ec2, rfl, hq, hk, hi, hl⟩
                     obtain ⟨hMM, he⟩ := hq.uniq HQ.out
                     subst M2
                     subst he
                     obtain ⟨a2, c2, rfl⟩ := hl.form
                     have HKa : Hid (Kept [] wr x2) := hk
                     have HLa : Hid (ListI x2 wr.heap.size (.slice a2 M.length c2) M) := hl
                     have hes := EqIDs_same (.slice a2 M.length c2) (.slice am M.length cm) M x2 hi (HM2.out.1.onK (HK.out.then hk)) (fun o ho => (HGM.out o ho).1)
                     clear hm2 hq hk hi hl)
                  | (go_at_call 9; refine (num2D _ _).mono ?_; rintro e w5 ⟨rfl, hw5⟩; subst w5)
                  | (go_at_call 14; refine hes.mono ?_; rintro e x3 ⟨rfl, hk⟩
                     have HKb : Hid (Kept [] x2 x3) := hk
                     have HKc : Hid (Kept [] w1 x3) := ((HK2.out.then HK.out).then HKa.out).then hk
                     have hid1 := IDsD (bkQ_new x3 w1.heap.size HKc.out.size) (v := .slice am M.length cm) (ids := M) (HM2.out.2.kept ((HK.out.then HKa.out).then (hk.alloc _)) (by simp)) (fun g hg => by
                       have h1 := HG1.out g hg
                       have h2 := ((HK.out.then HKa.out).then hk).size
                       simp
                       omega) (by decide) (by have := HML.out; omega) (Nat.le_trans HKc.out.size (by simp))
                     rw [← HBC.out] at hid1
                     clear hes hk)
                  | (refine wpList_builtD (by rfl) 54 #[] (by rfl) BC (by rw [HBC.out]; kernel_rfl) ?_)
                  | (go_at_call 15; refine hid1.mono ?_; rintro e x4 ⟨rfl, es1, b1, d1, S1, hb1, hk1, hs1, hl1⟩
                     have HK4 : Hid (Kept [] w1 x4) := (HKc.out.alloc _).trans hk1 (fun y hy => Or.inr (hl1 y hy))
                     have hz := HKb.out.size
                     have hy := HKa.out.size
                     have hx := HK.out.size
                     have hL4 : ListI x4 w1.heap.size (.slice a2 M.length c2) M := ((HLa.out.kept (HKb.out.alloc _) (by simp)).kept hk1 (fun g hg hm => by
                       have h1 := HLa.out.own g hg
                       rcases List.mem_append.1 hm with h | h
                       · have h2 := List.mem_singleton.1 h
                         omega
                       · have h2 := HG1.out g (by simpa using h)
                         omega)).base (HK2.out.then HK.out).size
                     have hid2 := IDsD hb1 hL4 (fun g hg hm => by
                       have h1 := HLa.out.own g hg
                       rcases hs1 g hm with h | h | h
                       · have h2 := List.mem_singleton.1 h
                         omega
                       · have h2 := HG1.out g h
                         omega
                       · rw [World.size_alloc] at h
                         omega) (by decide) (by have := HML.out; omega) HK4.out.size
                     clear hid1 hb1 hk1 hs1 hl1 hz hy hx hL4)
                  | (go_at_call 15; refine hid2.mono ?_; rintro e x5 ⟨rfl, es2, b2, d2, S2, hb2, hk2, hs2, hl2⟩
                     have HK5 : Hid (Kept [] w1 x5) := HK4.out.trans hk2 (fun y hy => Or.inr (hl2 y hy))
                     have HB5 : Hid (BkQ x5 w1.heap.size x3.heap.size es2 b2 2 d2 S2) := hb2
                     have hm3 := HMAT.out x5 _ _ _ (HX.out x5 HK5.out).1
                     clear hid2 hb2 hk2 hs2 hl2)
                  | (go_at_call 5; refine hm3.mono ?_; rintro e x6 ⟨v3, M3, ec3, rfl, hq, hk, hi, hl⟩
                     obtain ⟨hMM, he⟩ := hq.uniq HQ.out
                     subst M3
                     subst he
                     obtain ⟨a3, c3, rfl⟩ := hl.form
                     have HK6 : Hid (Kept [] w1 x6) := HK5.out.then hk
                     have hid3 := IDsD (HB5.out.on hk (fun _ _ => by simp)) (hl.base HK5.out.size) (fun g hg hm => by
                       have h1 := (hl.own g hg).1
                       have h2 := (HB5.out.bk.lt g hm).2
                       omega) (by decide) (by have := HML.out; omega) HK6.out.size
                     clear hm3 hq hk hi hl)
                  | (go_at_call 15; refine hid3.mono ?_; rintro e x7 ⟨rfl, es3, b3, d3, S3, hb3, hk3, hs3, hl3⟩
                     have HK7 : Hid (Kept [] w1 x7) := HK6.out.trans hk3 (fun y hy => Or.inr (hl3 y hy))
                     have hlk := LookD hb3 (by decide) HK7.out.size
                     clear hid3 hb3 hk3 hs3 hl3)
                  | (go_at_call 16; refine hlk.mono ?_; rintro e x8 ⟨rfl, hk, hl⟩
                     have HK8 : Hid (Kept [] w1 x8) := HK7.out.trans hk (fun y hy => Or.inr (hl y hy))
                     obtain ⟨hl8, c8, hk8⟩ := HX.out x8 HK8.out
                     have hint2 := HINT.out x8 _ _ _ hk8 hl8
                     clear hlk hk hl hl8 hk8)
                  | (go_at_call 6; refine hint2.mono ?_; rintro e x9 ⟨rfl, hk⟩
                     have HK9 : Hid (Kept [] w1 x9) := HK8.out.then hk
                     have hpp := HPL.out x9 _ _ _ (HX.out x9 HK9.out).1
                     clear hint2 hk)
                  | (go_at_call 17; refine hpp.mono ?_; rintro e x10 ⟨rfl, hk⟩
                     have HF : Hid (Kept [] w x10) := (HX.out x9 HK9.out).2.2.trans hk (fun y hy => Or.inr (by
                       have h1 := (LentI.room HL1.out).1
                       rw [List.mem_singleton.1 hy]
                       omega))
                     clear hpp hk))
                go_ret
                exact ⟨rfl, HF.out⟩
  · have HD : Hid (¬ OkB ps) := hd
    by_cases h4 : ps.length < 4
    · have t1 : decide ((4 : Int) ≤ (ps.length : Int)) = false := decide_eq_false (by omega)
      clear hd
      go_enter Tryd.func3, Tryd.ntmps3
      go_wp2_with (first
        | (go_at_call 4; refine (HLEND.out _ HK0.out).mono ?_; rintro e w1 ⟨g, cap, rfl, hl1, hk1⟩
           have HL1 : Hid (LentI w1 (w.heap.size + 1) g cap ids) := by rw [World.size_alloc] at hl1; exact hl1
           have HB1 : Hid (w1.heap[w.heap.size]? = some (.cells cs0 27 (0, 0))) := hk1.heap HB.out (by simp)
           have HK1 : Hid (Kept [] w w1) := HK0.out.then hk1
           obtain ⟨c10, c133⟩ := HR.out w1 HB1.out
           have hcv := HC.out _ HK1.out
           have HX : Hid (∀ W, Kept [] w1 W → LentI W (w.heap.size + 1) g cap ids ∧ W.cell? ⟨w.heap.size, 0, none⟩ = some (.slice ao ids.length c) ∧ Kept [] w W) := fun W hW => ⟨LentI.kept HL1.out hW (by simp), (HR.out W (hW.heap HB1.out (by simp))).1, HK1.out.then hW⟩
           clear hl1 hk1)
        | (go_at_call 5; refine (HMAT.out _ _ _ _ HL1.out).mono ?_; rintro e w2 ⟨v1, M, ec, rfl, hq, hk2, hi2, hl2⟩
           obtain ⟨am, cm, rfl⟩ := hl2.form
           have HQ : Hid (MQ ids ps M ec) := hq
           have HK2 : Hid (Kept [] w1 w2) := hk2
           have HM2 : Hid (IdsAt w2 (.slice am M.length cm) M ∧ ListI w2 w1.heap.size (.slice am M.length cm) M) := ⟨hi2, hl2⟩
           obtain ⟨hl2x, c20, hk2x⟩ := HX.out w2 hk2
           have hint := HINT.out w2 _ _ _ hk2x hl2x
           clear hq hk2 hi2 hl2 hl2x hk2x)
        | (go_at_call 6; refine hint.mono ?_; rintro e w3 ⟨rfl, hk3⟩
           have HK3 : Hid (Kept [] w2 w3) := hk3
           have hrt := HRT.out w3 (HX.out w3 (HK2.out.then hk3)).2.2
           clear hint hk3)
        | (go_at_call 7; refine hrt.mono ?_; rintro e w4 ⟨rfl, hk4⟩
           have HK4 : Hid (Kept [] w2 w4) := HK3.out.then hk4
           clear hrt hk4))
      clear c20 c10 c133 c0 c33 hcv
      go_loopw [7, 8] (fun s7 s8 wr => ∃ k : Nat, k ≤ ps.length ∧ s8 = .int .i64 k ∧ s7 = .bool false ∧ Hid (Kept [] w2 wr)) (fun _ s8 _ => ps.length - (intOf s8).toNat)
      case atStart => exact ⟨0, Nat.zero_le _, rfl, rfl, HK4⟩
      case round =>
        obtain ⟨k, hk, rfl, rfl, HK⟩ := hrel
        by_cases hlt : k < ps.length
        · obtain ⟨hix, hsm⟩ := HJ.out k hlt
          clear hsm
          go_wp2
          go_roundw
          case rel => exact ⟨k + 1, by omega, by go_num, rfl, HK⟩
          case measure => simp [intOf]; omega
        · obtain rfl : k = ps.length := by omega
          obtain ⟨he, hmn⟩ : ec = 20 ∧ M = [] := by
            rcases HQ.out with ⟨h, _⟩ | ⟨_, h1, h2⟩
            · exact absurd h HD.out
            · exact ⟨h1, h2⟩
          subst he hmn
          go_wp2_with (first
            | (go_at_call 9; refine (num2D _ _).mono ?_; rintro e w5 ⟨rfl, hw5⟩; subst hw5))
          go_ret
          exact ⟨rfl, (HX.out _ (HK2.out.then HK.out)).2.2⟩
    · have t1 : decide ((4 : Int) ≤ (ps.length : Int)) = true := decide_eq_true (by omega)
      by_cases h64 : 64 < ps.length
      · have t2 : decide ((ps.length : Int) ≤ 64) = false := decide_eq_false (by omega)
        clear hd
        go_enter Tryd.func3, Tryd.ntmps3
        go_wp2_with (first
          | (go_at_call 4; refine (HLEND.out _ HK0.out).mono ?_; rintro e w1 ⟨g, cap, rfl, hl1, hk1⟩
             have HL1 : Hid (LentI w1 (w.heap.size + 1) g cap ids) := by rw [World.size_alloc] at hl1; exact hl1
             have HB1 : Hid (w1.heap[w.heap.size]? = some (.cells cs0 27 (0, 0))) := hk1.heap HB.out (by simp)
             have HK1 : Hid (Kept [] w w1) := HK0.out.then hk1
             obtain ⟨c10, c133⟩ := HR.out w1 HB1.out
             have hcv := HC.out _ HK1.out
             have HX : Hid (∀ W, Kept [] w1 W → LentI W (w.heap.size + 1) g cap ids ∧ W.cell? ⟨w.heap.size, 0, none⟩ = some (.slice ao ids.length c) ∧ Kept [] w W) := fun W hW => ⟨LentI.kept HL1.out hW (by simp), (HR.out W (hW.heap HB1.out (by simp))).1, HK1.out.then hW⟩
             clear hl1 hk1)
          | (go_at_call 5; refine (HMAT.out _ _ _ _ HL1.out).mono ?_; rintro e w2 ⟨v1, M, ec, rfl, hq, hk2, hi2, hl2⟩
             obtain ⟨am, cm, rfl⟩ := hl2.form
             have HQ : Hid (MQ ids ps M ec) := hq
             have HK2 : Hid (Kept [] w1 w2) := hk2
             have HM2 : Hid (IdsAt w2 (.slice am M.length cm) M ∧ ListI w2 w1.heap.size (.slice am M.length cm) M) := ⟨hi2, hl2⟩
             obtain ⟨hl2x, c20, hk2x⟩ := HX.out w2 hk2
             have hint := HINT.out w2 _ _ _ hk2x hl2x
             clear hq hk2 hi2 hl2 hl2x hk2x)
          | (go_at_call 6; refine hint.mono ?_; rintro e w3 ⟨rfl, hk3⟩
             have HK3 : Hid (Kept [] w2 w3) := hk3
             have hrt := HRT.out w3 (HX.out w3 (HK2.out.then hk3)).2.2
             clear hint hk3)
          | (go_at_call 7; refine hrt.mono ?_; rintro e w4 ⟨rfl, hk4⟩
             have HK4 : Hid (Kept [] w2 w4) := HK3.out.then hk4
             clear hrt hk4))
        clear c20 c10 c133 c0 c33 hcv
        go_loopw [7, 8] (fun s7 s8 wr => ∃ k : Nat, k ≤ ps.length ∧ s8 = .int .i64 k ∧ s7 = .bool false ∧ Hid (Kept [] w2 wr)) (fun _ s8 _ => ps.length - (intOf s8).toNat)
        case atStart => exact ⟨0, Nat.zero_le _, rfl, rfl, HK4⟩
        case round =>
          obtain ⟨k, hk, rfl, rfl, HK⟩ := hrel
          by_cases hlt : k < ps.length
          · obtain ⟨hix, hsm⟩ := HJ.out k hlt
            clear hsm
            go_wp2
            go_roundw
            case rel => exact ⟨k + 1, by omega, by go_num, rfl, HK⟩
            case measure => simp [intOf]; omega
          · obtain rfl : k = ps.length := by omega
            obtain ⟨he, hmn⟩ : ec = 20 ∧ M = [] := by
              rcases HQ.out with ⟨h, _⟩ | ⟨_, h1, h2⟩
              · exact absurd h HD.out
              · exact ⟨h1, h2⟩
            subst he hmn
            go_wp2_with (first
              | (go_at_call 9; refine (num2D _ _).mono ?_; rintro e w5 ⟨rfl, hw5⟩; subst hw5))
            go_ret
            exact ⟨rfl, (HX.out _ (HK2.out.then HK.out)).2.2⟩
      · have t2 : decide ((ps.length : Int) ≤ 64) = true := decide_eq_true (by omega)
        have hda : allD ps ps.length = false := by
          rcases h : allD ps ps.length with _ | _
          · rfl
          · exact absurd ⟨by omega, by omega, (allD_all ps).1 h⟩ hd
        clear hd
        go_enter Tryd.func3, Tryd.ntmps3
        go_wp2_with (first
          | (go_at_call 4; refine (HLEND.out _ HK0.out).mono ?_; rintro e w1 ⟨g, cap, rfl, hl1, hk1⟩
             have HL1 : Hid (LentI w1 (w.heap.size + 1) g cap ids) := by rw [World.size_alloc] at hl1; exact hl1
             have HB1 : Hid (w1.heap[w.heap.size]? = some (.cells cs0 27 (0, 0))) := hk1.heap HB.out (by simp)
             have HK1 : Hid (Kept [] w w1) := HK0.out.then hk1
             obtain ⟨c10, c133⟩ := HR.out w1 HB1.out
             have hcv := HC.out _ HK1.out
             have HX : Hid (∀ W, Kept [] w1 W → LentI W (w.heap.size + 1) g cap ids ∧ W.cell? ⟨w.heap.size, 0, none⟩ = some (.slice ao ids.length c) ∧ Kept [] w W) := fun W hW => ⟨LentI.kept HL1.out hW (by simp), (HR.out W (hW.heap HB1.out (by simp))).1, HK1.out.then hW⟩
             clear hl1 hk1)
          | (go_at_call 5; refine (HMAT.out _ _ _ _ HL1.out).mono ?_; rintro e w2 ⟨v1, M, ec, rfl, hq, hk2, hi2, hl2⟩
             obtain ⟨am, cm, rfl⟩ := hl2.form
             have HQ : Hid (MQ ids ps M ec) := hq
             have HK2 : Hid (Kept [] w1 w2) := hk2
             have HM2 : Hid (IdsAt w2 (.slice am M.length cm) M ∧ ListI w2 w1.heap.size (.slice am M.length cm) M) := ⟨hi2, hl2⟩
             obtain ⟨hl2x, c20, hk2x⟩ := HX.out w2 hk2
             have hint := HINT.out w2 _ _ _ hk2x hl2x
             clear hq hk2 hi2 hl2 hl2x hk2x)
          | (go_at_call 6; refine hint.mono ?_; rintro e w3 ⟨rfl, hk3⟩
             have HK3 : Hid (Kept [] w2 w3) := hk3
             have hrt := HRT.out w3 (HX.out w3 (HK2.out.then hk3)).2.2
             clear hint hk3)
          | (go_at_call 7; refine hrt.mono ?_; rintro e w4 ⟨rfl, hk4⟩
             have HK4 : Hid (Kept [] w2 w4) := HK3.out.then hk4
             clear hrt hk4))
        clear c20 c10 c133 c0 c33 hcv
        go_loopw [7, 8] (fun s7 s8 wr => ∃ k : Nat, k ≤ ps.length ∧ s8 = .int .i64 k ∧ s7 = .bool (allD ps k) ∧ Hid (Kept [] w2 wr)) (fun _ s8 _ => ps.length - (intOf s8).toNat)
        case atStart => exact ⟨0, Nat.zero_le _, rfl, rfl, HK4⟩
        case round =>
          obtain ⟨k, hk, rfl, rfl, HK⟩ := hrel
          by_cases hlt : k < ps.length
          · obtain ⟨hix, hsm⟩ := HJ.out k hlt
            have HS : Hid _ := allD_succ ps k hlt
            generalize ps[k]?.getD 0 = z at *
            rcases hb : allD ps k with _ | _
            · clear hsm
              go_wp2
              go_roundw
              case rel => exact ⟨k + 1, by omega, by go_num, by rw [HS.out, hb]; rfl, HK⟩
              case measure => simp [intOf]; omega
            · go_wp2_with (go_at_call 8; refine (hsm _).mono ?_; rintro e w5 ⟨rfl, hw5⟩; subst hw5)
              go_roundw
              case rel => exact ⟨k + 1, by omega, by go_num, by rw [HS.out, hb, Bool.true_and], HK⟩
              case measure => simp [intOf]; omega
          · obtain rfl : k = ps.length := by omega
            rw [hda]
            obtain ⟨he, hmn⟩ : ec = 20 ∧ M = [] := by
              rcases HQ.out with ⟨h, _⟩ | ⟨_, h1, h2⟩
              · exact absurd h HD.out
              · exact ⟨h1, h2⟩
            subst he hmn
            go_wp2_with (first
              | (go_at_call 9; refine (num2D _ _).mono ?_; rintro e w5 ⟨rfl, hw5⟩; subst hw5))
            go_ret
            exact ⟨rfl, (HX.out _ (HK2.out.then HK.out)).2.2⟩
end Go.Proofs.YtlljiipmkjjhhaaDoor
