/-
  WALK: satchelref3.commit: the fault of a commit, for every commit.
-/
import Derived.Test.YtmjakhmkddgffaaGreatDoorRe1
import Derived.Test.YtmjakhmkddgffaaGreatDoorCom1
namespace Go.Proofs.YtmjakhmkddgffaaGreatDoor
open Go.RowKit

set_option maxRecDepth 100000 in
set_option maxHeartbeats 4000000 in
theorem R3com_any (c : ComL) (pv : Value) (w : World) (hp : IdsAt w pv c.parents) (hg : c.Good) :
    Calls Tryz.prog 56 #[.agg (c.row pv).toArray] w fun e w' => e = .returned (.int .i64 (faultC c)) ∧ Kept [] w w' := by
  have HK0 : Hid (Kept [] w (w.alloc (.cells (c.row pv).toArray 33))) := (Kept.refl _ _).alloc _
  have HB : Hid ((w.alloc (.cells (c.row pv).toArray 33)).heap[w.heap.size]? = some (.cells (c.row pv).toArray 33 (0, 0))) := heap_alloc_new w _
  have HTC : Hid (∀ W : World, W.heap[w.heap.size]? = some (.cells (c.row pv).toArray 33 (0, 0)) → W.cell? ⟨w.heap.size, 32, none⟩ = some pv ∧ W.cell? ⟨w.heap.size, 33, none⟩ = some (.string (strOfNums c.who)) ∧ W.cell? ⟨w.heap.size, 34, none⟩ = some (.int .u64 c.time) ∧ W.cell? ⟨w.heap.size, 35, none⟩ = some (.string (strOfNums c.text))) := fun W hW => (com_cells hg.tree.1 hW).2
  have HSG : Hid (∀ W, Calls Tryz.prog 57 #[.string (strOfNums c.who), .int .u64 c.time, .string (strOfNums c.text)] W fun e w' => e = .returned (.bool (signB c.who c.time c.text)) ∧ w' = W) := fun W => R3told_any c.who c.time c.text W hg.who
  have HV : Hid (∀ W, Kept [] w W → IdsAt W pv c.parents) := fun W k => hp.keep k (fun _ _ _ => by simp)
  have HG : Hid (∀ o, o ∈ c.parents → GoodID o) := hg.parents
  have hun := Tryz.underlying29
  obtain ⟨ao, cap, rfl, hcap, _, hlen, _⟩ := hp
  obtain ⟨c1, c2, c3, c4⟩ := HTC.out _ HB.out
  obtain ⟨rv, hrv⟩ : ∃ rv : Int, rv = faultC c := ⟨_, rfl⟩
  rw [← hrv]
  obtain ⟨sb, hsb⟩ : ∃ sb : Bool, sb = signB c.who c.time c.text := ⟨_, rfl⟩
  have HRV : Hid (rv = if 8 < c.parents.length then 35 else if dupB c.parents = true then 36 else if sb = false then 36 else 0) := by rw [hsb]; exact hrv
  rw [← hsb] at HSG
  clear hrv hsb hg
  generalize (c.row (.slice ao c.parents.length cap)).toArray = tr at *
  generalize strOfNums c.who = sw at *
  generalize strOfNums c.text = st at *
  generalize c.time = tm at *
  generalize c.parents = ids at *
  by_cases hm : 8 < ids.length
  · have hd : decide (8 < (ids.length : Int)) = true := decide_eq_true (by omega)
    have HR : Hid (rv = 35) := by have h := HRV.out; rw [if_pos hm] at h; exact h
    go_enter Tryz.func56, Tryz.ntmps56
    go_wp2
    go_ret
    exact ⟨by rw [HR.out]; rfl, HK0.out⟩
  · have hd8 : decide (8 < (ids.length : Int)) = false := decide_eq_false (by omega)
    have HR : Hid (rv = if dupB ids = true then 36 else if sb = false then 36 else 0) := by have h := HRV.out; rw [if_neg hm] at h; exact h
    clear HRV
    go_enter Tryz.func56, Tryz.ntmps56
    go_wp2
    go_loopw [3, 4] (fun s3 _ wr => ∃ k : Nat, k ≤ ids.length ∧ s3 = .int .i64 k ∧ Hid (∀ (i : Nat), i < k → decide ((ids[i]?.getD []) ∈ ids.take i) = false) ∧ Hid (wr.heap[w.heap.size]? = some (.cells tr 33 (0, 0))) ∧ Hid (Kept [] w wr)) (fun s3 _ _ => ids.length - (intOf s3).toNat)
    case atStart => exact ⟨0, Nat.zero_le _, rfl, fun i h => absurd h (by omega), HB, HK0⟩
    case round =>
      clear c1 c2 c3 c4
      obtain ⟨k, hk, rfl, HN, HBx, HK⟩ := hrel
      obtain ⟨x1, x2, x3, x4⟩ := HTC.out wr HBx.out
      have hbw := lt_of_block HBx.out
      by_cases hlt : k < ids.length
      · obtain ⟨o, ho⟩ : ∃ o, ids[k]? = some o := ⟨_, List.getElem?_eq_getElem hlt⟩
        have hgo := HG.out o (List.mem_of_getElem? ho)
        have HOD : Hid (ids[k]?.getD [] = o) := by rw [ho]; exact rfl
        have HO : Hid (ids[k]? = some o) := ho
        have HGO : Hid (GoodID o) := hgo
        have t1 : decide ((k : Int) < ids.length) = true := decide_eq_true (by omega)
        clear ho hgo
        go_wp2
        go_loopw [4] (fun s4 wq => ∃ j : Nat, j ≤ k ∧ s4 = .int .i64 j ∧ Hid (∀ i, i < j → ids[i]? ≠ some o) ∧ Hid (wq.heap[w.heap.size]? = some (.cells tr 33 (0, 0))) ∧ Hid (Kept [] w wq)) (fun s4 _ => k - (intOf s4).toNat)
        case atStart => exact ⟨0, Nat.zero_le _, rfl, fun i h => absurd h (by omega), HBx, HK⟩
        case round =>
          clear x1 x2 x3 x4 HBx HK hbw
          obtain ⟨j, hj, rfl, HM, HBx, HK⟩ := hrel
          obtain ⟨x1, x2, x3, x4⟩ := HTC.out wr HBx.out
          have hbw := lt_of_block HBx.out
          by_cases hjk : j < k
          · have t2 : decide ((j : Int) < k) = true := decide_eq_true (by omega)
            have hjl : j < ids.length := by omega
            obtain ⟨p, hp⟩ : ∃ p, ids[j]? = some p := ⟨_, List.getElem?_eq_getElem hjl⟩
            have hgp := HG.out p (List.mem_of_getElem? hp)
            obtain ⟨ao', cap', he, _, _, _, hc⟩ := HV.out wr HK.out
            injection he with e1 e2 e3
            subst e1 e3
            obtain ⟨b, off, rfl, hh⟩ := hc (by rintro rfl; simp at hlt)
            have HRO : Hid (∀ W, Kept [] wr W → W.rangeAt b (off + k * 32) (o.map (Value.int .u8))) := fun W hW => range_kept (hh k o HO.out) hW (by simp)
            have HRP : Hid (∀ W, Kept [] wr W → W.rangeAt b (off + j * 32) (p.map (Value.int .u8))) := fun W hW => range_kept (hh j p hp) hW (by simp)
            have HC1 : Hid (∀ W, Kept [] wr W → W.cell? ⟨w.heap.size, 32, none⟩ = some (.slice (some ⟨b, off, none⟩) ids.length cap)) := fun W hW => hW.cell x1 (by simp)
            have hso : (Tryz.prog.info? 29).map (·.size) = some (o.map (Value.int .u8)).length := by rw [List.length_map, HGO.out.1]; exact Tryz.infoID
            have hsp : (Tryz.prog.info? 29).map (·.size) = some (p.map (Value.int .u8)).length := by rw [List.length_map, hgp.1]; exact Tryz.infoID
            have heqf : ∀ W, (Op.equalIn 10000 29 (.agg (o.map (Value.int .u8)).toArray) (.agg (p.map (Value.int .u8)).toArray)).run Tryz.prog W = .ok (decide (o = p)) W := fun W => idEq o p W HGO.out.1 hgp.1
            have HP : Hid (ids[j]? = some p) := hp
            clear hp hgp hh hc
            go_wp2_with fail
            refine region_quiet (Kept [] wr) (by kernel_rfl) (by kernel_rfl) (Kept.refl [] _).drew ?_
            refine quiet_val (by rfl) (.pointer (some ⟨w.heap.size, 32, none⟩)) (fun W => by go_simp) ?_
            simp only [Act.put, List.setIfInBounds_toArray, List.set_cons_zero, List.set_cons_succ]
            refine valC (by rfl) (.slice (some ⟨b, off, none⟩) ids.length cap) (fun W hW => by have hcc := HC1.out W hW; go_simp) ?_
            simp only [Act.put, List.setIfInBounds_toArray, List.set_cons_zero, List.set_cons_succ]
            refine quiet_move (by rfl) (.tmp 3) rfl (.int .i64 k) rfl ?_
            simp only [Act.put, List.setIfInBounds_toArray, List.set_cons_zero, List.set_cons_succ]
            refine quiet_val (by rfl) (.pointer (some ⟨b, off + k * 32, none⟩)) (fun W => by go_simp) ?_
            simp only [Act.put, List.setIfInBounds_toArray, List.set_cons_zero, List.set_cons_succ]
            refine quiet_row (by rfl) _ _ rfl b (off + k * 32) rfl (o.map (Value.int .u8)) _ HRO.out hun rfl hso ?_
            simp only [Act.put, List.setIfInBounds_toArray, List.set_cons_zero, List.set_cons_succ]
            refine quiet_val (by rfl) (.pointer (some ⟨w.heap.size, 32, none⟩)) (fun W => by go_simp) ?_
            simp only [Act.put, List.setIfInBounds_toArray, List.set_cons_zero, List.set_cons_succ]
            refine valC (by rfl) (.slice (some ⟨b, off, none⟩) ids.length cap) (fun W hW => by have hcc := HC1.out W hW; go_simp) ?_
            simp only [Act.put, List.setIfInBounds_toArray, List.set_cons_zero, List.set_cons_succ]
            refine quiet_move (by rfl) (.tmp 4) rfl (.int .i64 j) rfl ?_
            simp only [Act.put, List.setIfInBounds_toArray, List.set_cons_zero, List.set_cons_succ]
            refine quiet_val (by rfl) (.pointer (some ⟨b, off + j * 32, none⟩)) (fun W => by go_simp) ?_
            simp only [Act.put, List.setIfInBounds_toArray, List.set_cons_zero, List.set_cons_succ]
            refine quiet_row (by rfl) _ _ rfl b (off + j * 32) rfl (p.map (Value.int .u8)) _ HRP.out hun rfl hsp ?_
            simp only [Act.put, List.setIfInBounds_toArray, List.set_cons_zero, List.set_cons_succ]
            refine quiet_eql (by rfl) (.tmp 25) (.tmp 30) _ rfl _ _ rfl rfl (decide (o = p)) heqf ?_
            simp only [Act.put, List.setIfInBounds_toArray, List.set_cons_zero, List.set_cons_succ]
            refine wpQuiet_nil fun w3 hk3 => ?_
            have HB3 : Hid (w3.heap[w.heap.size]? = some (.cells tr 33 (0, 0))) := hk3.heap HBx.out (by simp)
            have HK3 : Hid (Kept [] w w3) := HK.out.then hk3
            clear hk3 HC1 HRO HRP x1 x2 x3 x4 heqf
            by_cases heq : o = p
            · have hd : decide (o = p) = true := decide_eq_true heq
              rw [hd]
              have HD : Hid (rv = 36) := by
                have h := HR.out
                have hdup : dupB ids = true := by
                  unfold dupB
                  rw [List.any_eq_true]
                  refine ⟨k, List.mem_range.2 hlt, decide_eq_true ?_⟩
                  rw [HOD.out]
                  have h1 : (ids.take k)[j]? = some o := by rw [List.getElem?_take_of_lt hjk, HP.out, heq]
                  exact List.mem_of_getElem? h1
                rw [if_pos hdup] at h
                exact h
              clear heq hd
              go_wp2
              go_ret
              exact ⟨by rw [HD.out]; rfl, HK3.out⟩
            · have hd : decide (o = p) = false := decide_eq_false heq
              rw [hd]
              have HM' : Hid (∀ i, i < j + 1 → ids[i]? ≠ some o) := fun i hi e => by
                by_cases hij : i = j
                · subst hij
                  rw [HP.out] at e
                  exact heq (Option.some.inj e).symm
                · exact HM.out i (by omega) e
              clear heq hd
              go_wp2
              go_roundw
              case rel => exact ⟨j + 1, by omega, by go_num, HM', HB3, HK3⟩
              case measure => simp [intOf]; omega
          · have t2 : decide ((j : Int) < k) = false := decide_eq_false (by omega)
            obtain rfl : j = k := by omega
            have HN' : Hid (∀ (i : Nat), i < j + 1 → decide ((ids[i]?.getD []) ∈ ids.take i) = false) := fun i hi => by
              by_cases hij : i = j
              · subst hij
                rw [HOD.out]
                refine decide_eq_false fun hin => ?_
                obtain ⟨x, hx, e⟩ := List.getElem_of_mem hin
                have hxl : x < i := by have := hx; rw [List.length_take] at this; omega
                refine HM.out x hxl ?_
                rw [← List.getElem?_take_of_lt hxl, List.getElem?_eq_getElem hx, e]
              · exact HN.out i (by omega)
            clear HM HN
            go_wp2
            go_roundw
            case rel => exact ⟨j + 1, by omega, by go_num, HN', HBx, HK⟩
            case measure => simp [intOf]; omega
      · obtain rfl : k = ids.length := by omega
        have t1 : decide (((ids.length : Nat) : Int) < ids.length) = false := decide_eq_false (by omega)
        have HD : Hid (rv = if sb = false then 36 else 0) := by
          have h := HR.out
          have hdup : dupB ids = false := by
            unfold dupB
            rw [List.any_eq_false]
            intro i hi
            rw [HN.out i (List.mem_range.1 hi)]
            simp
          rw [hdup, if_neg (by decide)] at h
          exact h
        clear HN
        cases sb
        all_goals go_wp2_with (go_at_call 57; refine (HSG.out _).mono ?_; rintro e w2 ⟨rfl, hw2⟩; subst w2)
        all_goals go_ret
        all_goals exact ⟨by rw [HD.out]; rfl, HK.out⟩
end Go.Proofs.YtmjakhmkddgffaaGreatDoor
