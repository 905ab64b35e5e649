/-
  WALK: satchellaw2.DigestShort, for every list of ids and every id.
-/
import Derived.Test.YtonnapjbplknlaaShort9
namespace Go.Proofs.Ytonnapjbplknlaa
open Go.RowKit

def needL (id : List Int) (n : Nat) (ids : List (List Int)) : Bool := ids.any fun o => !decide (o = id) && decide (n ≤ comL o id)
theorem needL_succ (id : List Int) (n : Nat) (ids : List (List Int)) (k : Nat) (o : List Int) (h : ids[k]? = some o) : needL id n (ids.take (k + 1)) = (needL id n (ids.take k) || (!decide (o = id) && decide (n ≤ comL o id))) := by
  have hlt : k < ids.length := (List.getElem?_eq_some_iff.1 h).1
  have ho : ids[k] = o := (List.getElem?_eq_some_iff.1 h).2
  unfold needL
  rw [List.take_succ_eq_append_getElem hlt, List.any_append, ho]
  simp
theorem sizeL_apart (id : List Int) (ids : List (List Int)) (h4 : 4 ≤ sizeL ids id) (o : List Int) (ho : o ∈ ids) (hne : o ≠ id) : ¬ sizeL ids id ≤ comL o id := by
  have h := List.all_eq_true.1 ((sizeL_le id ids (sizeL ids id) h4).1 (Nat.le_refl _)) o ho
  unfold apartB at h
  rw [decide_eq_false hne, Bool.false_or] at h
  simpa using h
theorem sizeL_need (id : List Int) (ids : List (List Int)) (h4 : 4 < sizeL ids id) : needL id (sizeL ids id - 1) ids = true := by
  have h : ¬ sizeL ids id ≤ sizeL ids id - 1 := by omega
  rw [sizeL_le id ids (sizeL ids id - 1) (by omega)] at h
  rw [Bool.not_eq_true, List.all_eq_false] at h
  obtain ⟨o, ho, hf⟩ := h
  unfold needL
  refine List.any_eq_true.2 ⟨o, ho, ?_⟩
  unfold apartB at hf
  simp at hf
  simp [hf]
theorem begB_self (id : List Int) (n : Nat) (hn : n ≤ 64) : begB (hexL id) ((hexL id).take n) = true := by
  have hl : ((hexL id).take n).length = n := by rw [List.length_take, hexL_len]; omega
  unfold begB
  rw [hl, hexL_len, decide_eq_true hn]
  simp

set_option maxRecDepth 100000 in
set_option maxHeartbeats 1000000 in
theorem digestShort_any (w : World) (ao : Option Addr) (c : Nat) (ids : List (List Int)) (id : List Int) (cs0 : Array Value) (hv : IdsAt w (.slice ao ids.length c) ids) (hg : ∀ o, o ∈ ids → GoodID o) (hid : GoodID id) (hm : (ids.length + 2) * 32 ≤ 140737488355328)
    (h0 : cs0[0]? = some (.slice ao ids.length c)) (h1 : ∀ j : Nat, j < 32 → cs0[1 + j]? = (id.map (Value.int .u8))[j]?) :
    Calls Try.prog 3 #[.agg cs0] w fun e w' => e = .returned (.bool true) ∧ Kept [] w w' := by
  have hun := Try.underlying24
  have hsl : (Try.prog.info? 24).map (·.size) = some (id.map (Value.int .u8)).length := by rw [List.length_map, hid.1]; exact Try.infoID
  have hic : (id.map (Value.int .u8)).toArray = idC id := rfl
  have HD : Hid (GoodID id) := hid
  have HG : Hid (∀ o, o ∈ ids → GoodID o) := hg
  have HV : Hid (∀ W, Kept [] w W → IdsAt W (.slice ao ids.length c) ids) := fun W k => hv.keep k (fun _ _ _ => by simp)
  have HR : Hid (∀ W : World, W.heap[w.heap.size]? = some (.cells cs0 27 (0, 0)) → W.rangeAt w.heap.size 1 (id.map (Value.int .u8)) ∧ W.cell? ⟨w.heap.size, 0, none⟩ = some (.slice ao ids.length c)) := by
    intro W hW
    refine ⟨fun j v hj => ?_, ?_⟩
    · have hjl : j < 32 := by
        have := (List.getElem?_eq_some_iff.1 hj).1
        rw [List.length_map, hid.1] at this
        exact this
      rw [cell_of_row _ _ _ _ _ _ hW, h1 j hjl]
      exact hj
    · rw [cell_of_row _ _ _ _ _ _ hW, h0]
  have HB : Hid ((w.alloc (.cells cs0 27)).heap[w.heap.size]? = some (.cells cs0 27 (0, 0))) := heap_alloc_new w _
  have HK0 : Hid (Kept [] w (w.alloc (.cells cs0 27))) := (Kept.refl _ _).alloc _
  have c0 := (HR.out _ HB.out).2
  obtain ⟨hf1, hf2⟩ := sizeL_fits id hid ids hg
  have HLEND : Hid (∀ W, Kept [] w W → Calls Try.prog 4 #[.slice ao ids.length c] W fun e w' => ∃ g cap, e = .returned (.slice (some ⟨g, 0, none⟩) ids.length cap) ∧ LentI w' W.heap.size g cap ids ∧ Kept [] W w') := fun W hW => LendIDs_any _ ids W (HV.out W hW) hg hm
  have HSHORT : Hid (∀ W B g cap, LentI W B g cap ids → Calls Try.prog 5 #[.slice (some ⟨g, 0, none⟩) ids.length cap, .agg (idC id)] W fun e w' => e = .returned (.string (strOfNums ((hexL id).take (sizeL ids id)))) ∧ Kept [] W w') := fun W B g cap hW => Short_any _ ids id W (hW.ids hg hm) hg hid
  have HINT : Hid (∀ W B g cap, Kept [] w W → LentI W B g cap ids → Calls Try.prog 6 #[.slice (some ⟨g, 0, none⟩) ids.length cap, .slice ao ids.length c] W fun e w' => e = .returned (.bool true) ∧ Kept [] W w') := fun W B g cap hK hW => IntactIDs_any hW (HV.out W hK) hg hm
  have HHEX : Hid (∀ W, Calls Try.prog 8 #[.agg (idC id)] W fun e w' => e = .returned (.string (strOfNums (hexL id))) ∧ Kept [] W w') := fun W => Hex_any id W hid.1 hid.2
  have hoh : Octs (hexL id) := fun u hu => (hexL_mem id hid.2 u hu).2
  have HBEG : Hid (∀ W, Calls Try.prog 7 #[.string (strOfNums (hexL id)), .string (strOfNums ((hexL id).take (sizeL ids id)))] W fun e w' => e = .returned (.bool true) ∧ w' = W) := fun W => by
    have h := begins_any (hexL id) ((hexL id).take (sizeL ids id)) W hoh (octs_take' hoh _)
    rw [begB_self id _ hf2] at h
    exact h
  have hss : (strOfNums ((hexL id).take (sizeL ids id))).size = sizeL ids id := by rw [strOfNums_size, List.length_take, hexL_len]; omega
  have hd4 : decide ((sizeL ids id : Int) < 4) = false := decide_eq_false (by omega)
  have HPL : Hid (∀ W B g cap, LentI W B g cap ids → Calls Try.prog 9 #[.slice (some ⟨g, 0, none⟩) ids.length cap, .agg (idC id)] W fun e w' => e = .returned (.bool true) ∧ Kept [g] W w') := fun W B g cap hW => shortPlaced_any hW hg hm hid
  clear hv hg hid h0 h1
  go_enter Try.func3, Try.ntmps3
  have hr0 := (HR.out _ HB.out).1
  go_wp2_with (first
    | (go_at_call 4; refine (HLEND.out _ HK0.out).mono ?_; rintro e w1 ⟨g, cap, rfl, hl1, hk1⟩
       have HL1 : Hid (LentI w1 (w.heap.size + 1) g cap ids) := by rw [World.size_alloc] at hl1; exact hl1
       have HB1 : Hid (w1.heap[w.heap.size]? = some (.cells cs0 27 (0, 0))) := hk1.heap HB.out (by simp)
       have HK1 : Hid (Kept [] w w1) := HK0.out.then hk1
       obtain ⟨hr1, c1⟩ := HR.out w1 HB1.out
       clear hl1 hk1)
    | (refine wpList_load_mid (by rfl) 24 (.tmp 12) (by rfl) w.heap.size 1 (by rfl) (id.map (Value.int .u8)) _ hr1 hun rfl hsl ?_; rw [hic])
    | (go_at_call 5; refine (HSHORT.out _ _ _ _ HL1.out).mono ?_; rintro e w2 ⟨rfl, hk2⟩
       have HL2 : Hid (LentI w2 (w.heap.size + 1) g cap ids) := LentI.kept HL1.out hk2 (by simp)
       have HB2 : Hid (w2.heap[w.heap.size]? = some (.cells cs0 27 (0, 0))) := hk2.heap HB1.out (by simp)
       have HK2 : Hid (Kept [] w w2) := HK1.out.then hk2
       obtain ⟨hr2, c2⟩ := HR.out w2 HB2.out
       clear hk2)
    | (go_at_call 6; refine (HINT.out _ _ _ _ HK2.out HL2.out).mono ?_; rintro e w3 ⟨rfl, hk3⟩
       have HL3 : Hid (LentI w3 (w.heap.size + 1) g cap ids) := LentI.kept HL2.out hk3 (by simp)
       have HB3 : Hid (w3.heap[w.heap.size]? = some (.cells cs0 27 (0, 0))) := hk3.heap HB2.out (by simp)
       have HK3 : Hid (Kept [] w w3) := HK2.out.then hk3
       obtain ⟨hr3, c3⟩ := HR.out w3 HB3.out
       clear hk3)
    | (refine wpList_want (by rfl) fun K hK => wp_load_mid 24 (.tmp 26) (by rfl) w.heap.size 1 (by rfl) (id.map (Value.int .u8)) _ hr3 hun rfl hsl (hK _ _ ?_); rw [hic])
    | (go_at_call 8; refine (HHEX.out _).mono ?_; rintro e w4 ⟨rfl, hk4⟩
       have HL4 : Hid (LentI w4 (w.heap.size + 1) g cap ids) := LentI.kept HL3.out hk4 (by simp)
       have HB4 : Hid (w4.heap[w.heap.size]? = some (.cells cs0 27 (0, 0))) := hk4.heap HB3.out (by simp)
       have HK4 : Hid (Kept [] w w4) := HK3.out.then hk4
       clear hk4)
    | (go_at_call 7; refine (HBEG.out _).mono ?_; rintro e w5 ⟨rfl, hw5⟩; subst w5))
  have HAP : Hid (∀ o, o ∈ ids → o ≠ id → ¬ sizeL ids id ≤ comL o id) := fun o ho hne => sizeL_apart id ids hf1 o ho hne
  have HND : Hid (4 < sizeL ids id → needL id (sizeL ids id - 1) ids = true) := sizeL_need id ids
  have HS1 : Hid ((strOfNums ((hexL id).take (sizeL ids id))).extract 0 (sizeL ids id - 1) = strOfNums ((hexL id).take (sizeL ids id - 1))) := by
    have h := str_take ((hexL id).take (sizeL ids id)) (sizeL ids id - 1)
    rw [List.take_take, Nat.min_eq_left (by omega)] at h
    exact h
  have HBG : Hid (∀ W o, GoodID o → Calls Try.prog 7 #[.string (strOfNums (hexL o)), .string (strOfNums ((hexL id).take (sizeL ids id)))] W fun e w' => e = .returned (.bool (decide (sizeL ids id ≤ comL o id))) ∧ w' = W) := fun W o ho => by
    have h := begins_any (hexL o) ((hexL id).take (sizeL ids id)) W (fun u hu => (hexL_mem o ho.2 u hu).2) (octs_take' hoh _)
    rw [begB_com o id ho.2 HD.out.2 _ hf2] at h
    exact h
  have HBH : Hid (∀ W o, GoodID o → Calls Try.prog 7 #[.string (strOfNums (hexL o)), .string ((strOfNums ((hexL id).take (sizeL ids id))).extract 0 (sizeL ids id - 1))] W fun e w' => e = .returned (.bool (decide (sizeL ids id - 1 ≤ comL o id))) ∧ w' = W) := fun W o ho => by
    have h := begins_any (hexL o) ((hexL id).take (sizeL ids id - 1)) W (fun u hu => (hexL_mem o ho.2 u hu).2) (octs_take' hoh _)
    rw [begB_com o id ho.2 HD.out.2 _ (by omega), ← HS1.out] at h
    exact h
  clear HS1 hoh HBEG HINT HSHORT HLEND HHEX
  generalize strOfNums ((hexL id).take (sizeL ids id)) = ST at *
  generalize sizeL ids id = sz at *
  go_loopw [5, 6, 7] (fun s5 s6 _ wr => ∃ k : Nat, k ≤ ids.length ∧ s6 = .int .i64 k ∧ s5 = .bool (needL id (sz - 1) (ids.take k)) ∧ Hid (LentI wr (w.heap.size + 1) g cap ids) ∧ Hid (wr.heap[w.heap.size]? = some (.cells cs0 27 (0, 0))) ∧ Hid (Kept [] w wr)) (fun _ s6 _ _ => ids.length - (intOf s6).toNat)
  case atStart => exact ⟨0, Nat.zero_le _, rfl, rfl, HL4, HB4, HK4⟩
  case round =>
    clear HL4 HB4 HK4 HL3 HB3 HK3 HL2 HB2 HK2 HL1 HB1 HK1 hr1 hr2 hr3 c1 c2 c3 hr0 c0
    obtain ⟨k, hk, rfl, rfl, HL, HBx, HK⟩ := hrel
    obtain ⟨hrx, cx⟩ := HR.out wr HBx.out
    by_cases hlt : k < ids.length
    · obtain ⟨o, ho⟩ : ∃ o, ids[k]? = some o := ⟨_, List.getElem?_eq_getElem hlt⟩
      have hgo := HG.out o (List.mem_of_getElem? ho)
      obtain ⟨ao', cap', he, _, _, _, hc⟩ := HV.out wr HK.out
      injection he with e1 e2 e3
      subst e1 e3
      obtain ⟨b, off, rfl, hh⟩ := hc (by rintro rfl; simp at hlt)
      have hr := hh k o ho
      have hso : (Try.prog.info? 24).map (·.size) = some (o.map (Value.int .u8)).length := by rw [List.length_map, hgo.1]; exact Try.infoID
      have heqf : ∀ W, (Op.equalIn 10000 24 (.agg (o.map (Value.int .u8)).toArray) (.agg (id.map (Value.int .u8)).toArray)).run Try.prog W = .ok (decide (o = id)) W := fun W => idEq o id W hgo.1 HD.out.1
      have HNS : Hid _ := needL_succ id (sz - 1) ids k o ho
      have HAO : Hid (o ≠ id → ¬ sz ≤ comL o id) := HAP.out o (List.mem_of_getElem? ho)
      have HR1 : Hid (∀ W, Kept [] wr W → W.rangeAt b (off + k * 32) (o.map (Value.int .u8))) := fun W hW => range_kept hr hW (by simp)
      have HR2 : Hid (∀ W, Kept [] wr W → W.rangeAt w.heap.size 1 (id.map (Value.int .u8))) := fun W hW => range_kept hrx hW (by simp)
      have HC1 : Hid (∀ W, Kept [] wr W → W.cell? ⟨w.heap.size, 0, none⟩ = some (.slice (some ⟨b, off, none⟩) ids.length c)) := fun W hW => hW.cell cx (by simp)
      have HX : Hid (∀ W, Kept [] wr W → LentI W (w.heap.size + 1) g cap ids ∧ W.heap[w.heap.size]? = some (.cells cs0 27 (0, 0)) ∧ Kept [] w W) := fun W hW => ⟨LentI.kept HL.out hW (by simp), hW.heap HBx.out (by simp), HK.out.then hW⟩
      clear hh hc ho
      go_wp2_with fail
      refine region_quiet (Kept [] wr) (by kernel_rfl) (by kernel_rfl) (Kept.refl [] wr).drew ?_
      refine quiet_val (by rfl) (.pointer (some ⟨w.heap.size, 0, none⟩)) (fun W => by go_simp) ?_
      simp only [Act.put, List.setIfInBounds_toArray, List.set_cons_zero, List.set_cons_succ]
      refine valC (by rfl) (.slice (some ⟨b, off, none⟩) ids.length c) (fun W hW => by have hcc := HC1.out W hW; go_simp) ?_
      simp only [Act.put, List.setIfInBounds_toArray, List.set_cons_zero, List.set_cons_succ]
      refine quiet_move (by rfl) (.tmp 6) rfl (.int .i64 k) rfl ?_
      simp only [Act.put, List.setIfInBounds_toArray, List.set_cons_zero, List.set_cons_succ]
      refine quiet_val (by rfl) (.pointer (some ⟨b, off + k * 32, none⟩)) (fun W => by go_simp) ?_
      simp only [Act.put, List.setIfInBounds_toArray, List.set_cons_zero, List.set_cons_succ]
      refine quiet_row (by rfl) _ _ rfl b (off + k * 32) rfl (o.map (Value.int .u8)) _ HR1.out hun rfl hso ?_
      simp only [Act.put, List.setIfInBounds_toArray, List.set_cons_zero, List.set_cons_succ]
      refine quiet_val (by rfl) (.pointer (some ⟨w.heap.size, 1, none⟩)) (fun W => by go_simp) ?_
      simp only [Act.put, List.setIfInBounds_toArray, List.set_cons_zero, List.set_cons_succ]
      refine quiet_row (by rfl) _ _ rfl w.heap.size 1 rfl (id.map (Value.int .u8)) _ HR2.out hun rfl hsl ?_
      simp only [Act.put, List.setIfInBounds_toArray, List.set_cons_zero, List.set_cons_succ]
      refine quiet_eql (by rfl) (.tmp 44) (.tmp 46) _ rfl _ _ rfl rfl (decide (o = id)) heqf ?_
      simp only [Act.put, List.setIfInBounds_toArray, List.set_cons_zero, List.set_cons_succ]
      refine wpQuiet_nil fun w3 hk3 => ?_
      obtain ⟨hl3, hb3, hkw3⟩ := HX.out w3 hk3
      have HL3 : Hid _ := hl3
      have HB3 : Hid _ := hb3
      have HK3 : Hid (Kept [] w w3) := hkw3
      obtain ⟨_, c3⟩ := HR.out w3 hb3
      have hr3 := HR1.out w3 hk3
      clear hl3 hb3 hkw3 hk3 heqf HC1 HX HR1 HR2 hr cx hrx HL HBx HK
      have HEQ : Hid (o = id ∨ o ≠ id) := Classical.em _
      rcases HEQ.out with heq | heq
      · have hd : decide (o = id) = true := decide_eq_true heq
        rw [hd]
        have HN2 : Hid (needL id (sz - 1) (ids.take (k + 1)) = needL id (sz - 1) (ids.take k)) := by
          have h := HNS.out
          rw [hd, Bool.not_true, Bool.false_and, Bool.or_false] at h
          exact h
        clear hd heq HEQ HNS HAO
        go_wp2
        go_roundw
        case rel => exact ⟨k + 1, by omega, by go_num, by rw [HN2.out], HL3, HB3, HK3⟩
        case measure => simp [intOf]; omega
      · have hd : decide (o = id) = false := decide_eq_false heq
        rw [hd]
        have hns := HAO.out heq
        have HN2 : Hid (needL id (sz - 1) (ids.take (k + 1)) = (needL id (sz - 1) (ids.take k) || decide (sz - 1 ≤ comL o id))) := by
          have h := HNS.out
          rw [hd, Bool.not_false, Bool.true_and] at h
          exact h
        have HHO : Hid (∀ W, Calls Try.prog 8 #[.agg (o.map (Value.int .u8)).toArray] W fun e w' => e = .returned (.string (strOfNums (hexL o))) ∧ Kept [] W w') := fun W => Hex_any o W hgo.1 hgo.2
        have HG1 : Hid (∀ W, Calls Try.prog 7 #[.string (strOfNums (hexL o)), .string ST] W fun e w' => e = .returned (.bool false) ∧ w' = W) := fun W => by
          have h := HBG.out W o hgo
          rw [decide_eq_false hns] at h
          exact h
        have HG2 : Hid (∀ W, Calls Try.prog 7 #[.string (strOfNums (hexL o)), .string (ST.extract 0 (sz - 1))] W fun e w' => e = .returned (.bool (decide (sz - 1 ≤ comL o id))) ∧ w' = W) := fun W => HBH.out W o hgo
        clear hd heq HEQ HNS HAO hns hgo
        generalize strOfNums (hexL o) = SO at *
        generalize decide (sz - 1 ≤ comL o id) = dd at *
        generalize needL id (sz - 1) (ids.take k) = nb at *
        cases nb
        all_goals go_wp2_with (first
          | (refine wpList_load_mid (by rfl) 24 (.tmp 51) (by rfl) b (off + k * 32) (by rfl) (o.map (Value.int .u8)) _ hr3 hun rfl hso ?_)
          | (go_at_call 8; refine (HHO.out _).mono ?_; rintro e w4 ⟨rfl, hk4⟩
             have HL4 : Hid (LentI w4 (w.heap.size + 1) g cap ids) := LentI.kept HL3.out hk4 (by simp)
             have HB4 : Hid (w4.heap[w.heap.size]? = some (.cells cs0 27 (0, 0))) := hk4.heap HB3.out (by simp)
             have HK4 : Hid (Kept [] w w4) := HK3.out.then hk4
             clear hk4)
          | (go_at_call_of 7 (Value.string ST); refine (HG1.out _).mono ?_; rintro e w5 ⟨rfl, hw5⟩; subst w5)
          | (go_at_call 7; refine (HG2.out _).mono ?_; rintro e w5 ⟨rfl, hw5⟩; subst w5))
        all_goals go_roundw
        all_goals first
          | exact ⟨k + 1, by omega, by go_num, by rw [HN2.out]; rfl, HL4, HB4, HK4⟩
          | (simp [intOf]; omega)
    · obtain rfl : k = ids.length := by omega
      rw [List.take_length]
      have hgw := (LentI.room HL.out).1
      have HKF : Hid (∀ W, Kept [g] wr W → Kept [] w W) := fun W hW => HK.out.trans hW (fun x hx => Or.inr (by
        have : x = g := by simpa using hx
        omega))
      have HPW : Hid (Calls Try.prog 9 #[.slice (some ⟨g, 0, none⟩) ids.length cap, .agg (idC id)] wr fun e w' => e = .returned (.bool true) ∧ Kept [g] wr w') := HPL.out wr _ g cap HL.out
      have HOK : Hid (needL id (sz - 1) ids = true ∨ sz = 4) := by
        rcases Nat.lt_or_ge 4 sz with h | h
        · exact Or.inl (HND.out h)
        · exact Or.inr (by omega)
      clear HL HBx HK HND HBG HBH HAP HPL HR
      generalize needL id (sz - 1) ids = nb at *
      rcases HOK.out with rfl | rfl
      · clear HOK
        go_wp2_with (first
          | (refine wpList_want (by rfl) fun K hK => wp_load_mid 24 (.tmp 75) (by rfl) w.heap.size 1 (by rfl) (id.map (Value.int .u8)) _ hrx hun rfl hsl (hK _ _ ?_); rw [hic])
          | (go_at_call 9; refine HPW.out.mono ?_; rintro e w6 ⟨rfl, hk6⟩
             have HF : Hid (Kept [] w w6) := HKF.out w6 hk6
             clear hk6))
        go_ret
        exact ⟨rfl, HF.out⟩
      · clear HOK
        cases nb
        all_goals go_wp2_with (first
          | (refine wpList_want (by rfl) fun K hK => wp_load_mid 24 (.tmp 75) (by rfl) w.heap.size 1 (by rfl) (id.map (Value.int .u8)) _ hrx hun rfl hsl (hK _ _ ?_); rw [hic])
          | (go_at_call 9; refine HPW.out.mono ?_; rintro e w6 ⟨rfl, hk6⟩
             have HF : Hid (Kept [] w w6) := HKF.out w6 hk6
             clear hk6))
        all_goals go_ret
        all_goals exact ⟨rfl, HF.out⟩
end Go.Proofs.Ytonnapjbplknlaa
