/-
  WALK: satchelref14.Unmap.
-/
import Derived.Test.YtmjbaficdoehfaaDoorRm10
namespace Go.Proofs.YtmjbaficdoehfaaDoor
open Go.RowKit

theorem unrule_ref {rs : List RuleL} {target : List Int} {r : RuleL} {m : List Int} (hf : fitL r.dst target = some m) : unruleL rs target r = if (!r.neg && (starB r.src == starB r.dst)) = true ∧ (mapL rs (fillL r.src m)).map Prod.fst = some target then some (fillL r.src m) else none := by
  unfold unruleL
  rw [hf]
  cases hn : r.neg with
  | true => rfl
  | false =>
    simp only [Bool.false_eq_true, if_false]
    by_cases hs : starB r.src = starB r.dst
    · have e : (!false && (starB r.src == starB r.dst)) = true := by simp [hs]
      by_cases hm : (mapL rs (fillL r.src m)).map Prod.fst = some target
      · rw [if_pos ⟨hs, hm⟩, if_pos ⟨e, hm⟩]
      · rw [if_neg (fun h => hm h.2), if_neg (fun h => hm h.2)]
    · rw [if_neg (fun h => hs h.1), if_neg (fun h => hs (by simpa using h.1))]
theorem unrule_ref_none {rs : List RuleL} {target : List Int} {r : RuleL} (hf : fitL r.dst target = none) : unruleL rs target r = none := by
  unfold unruleL
  rw [hf]
  split <;> rfl

set_option maxRecDepth 100000 in
set_option maxHeartbeats 8000000 in
theorem RUnmap_any (v : Value) (rs : List RuleL) (target : List Int) (w : World) (hv : RulesAt w v rs) (hg : ∀ r, r ∈ rs → r.Good) (ho : Octs target) (hl : target.length ≤ 10000000000000000) :
    Calls Tryd.prog 18 #[v, .string (strOfNums target)] w fun e w' => e = .returned (optV (unmapL rs target)) ∧ Kept [] w w' := by
  have HV : Hid (∀ W, Kept [] w W → RulesAt W v rs) := fun W k => hv.kept k
  have HF : Hid (∀ r, r ∈ rs → ∀ W, Calls Tryd.prog 36 #[.string (strOfNums r.dst), .string (strOfNums target)] W fun e w' => e = .returned (optV (fitL r.dst target)) ∧ Kept [] W w') := fun r hr W => Fits_any _ _ (hg r hr).d ho (by have := (hg r hr).dl; omega) (by omega) W
  have HP : Hid (∀ r, r ∈ rs → ∀ W, Calls Tryd.prog 37 #[.agg #[.string (strOfNums r.src), .string (strOfNums r.dst), .bool r.force, .bool r.neg]] W fun e w' => e = .returned (.bool (!r.neg && (starB r.src == starB r.dst))) ∧ Kept [] W w') := fun r hr W => pair_any r (hg r hr) W
  have HPU : Hid (∀ r, r ∈ rs → ∀ m, fitL r.dst target = some m → ∀ W, Calls Tryd.prog 38 #[.string (strOfNums r.src), .string (strOfNums m)] W fun e w' => e = .returned (.string (strOfNums (fillL r.src m))) ∧ ∃ n, w' = W.drewN n) := fun r hr m hm W => Put_any _ _ (hg r hr).s (by have := (hg r hr).sl; omega) (by have := (fit_octs hm ho).2; omega) W
  have HMP : Hid (∀ r, r ∈ rs → ∀ m, fitL r.dst target = some m → ∀ W, Kept [] w W → Calls Tryd.prog 17 #[v, .string (strOfNums (fillL r.src m))] W fun e w' => e = .returned (mapV (mapL rs (fillL r.src m))) ∧ Kept [] W w') := fun r hr m hm W k => by
    refine RMap_any v rs _ W (hv.kept k) hg (octs_put (hg r hr).s (fit_octs hm ho).1) ?_
    have h1 := (fit_octs hm ho).2
    have h2 := (hg r hr).sl
    cases h : starB r.src with
    | true => have := put_len r.src m h; omega
    | false => rw [put_no r.src m h]; omega
  have HEQ : Hid (∀ t : List Int, Octs t → ((strOfNums t).toList == (strOfNums target).toList) = decide (t = target)) := fun t hto => by
    have hq := str_list t (strOfNums target).data.toList target hto ho rfl
    rw [Bool.eq_iff_iff, beq_iff_eq, decide_eq_true_eq]
    have e1 : (strOfNums target).toList = (strOfNums target).data.toList := by rw [Lib.toList_data]
    rw [e1]
    exact hq
  have HMO : Hid (∀ r, r ∈ rs → ∀ m, fitL r.dst target = some m → ∀ t f, mapL rs (fillL r.src m) = some (t, f) → Octs t) := fun r hr m hm t f h => (map_octs hg (octs_put (hg r hr).s (fit_octs hm ho).1) h).1
  obtain ⟨ao, cap, rfl, hcap, hlen⟩ := hv.form
  have hui := Tryd.underlying37
  obtain ⟨res, hres⟩ : ∃ res, res = unmapL rs target := ⟨_, rfl⟩
  have HR : Hid (res = rs.findSome? (unruleL rs target)) := hres
  rw [← hres]
  clear hv hg ho hres
  obtain ⟨S, hS⟩ : ∃ S, S = strOfNums target := ⟨_, rfl⟩
  rw [← hS] at HF HEQ ⊢
  clear hS
  go_enter Tryd.func18, Tryd.ntmps18
  go_wp2
  go_loopw [6] (fun s6 wr => ∃ k : Nat, k ≤ rs.length ∧ s6 = .int .i64 k ∧ Hid (Kept [] w wr) ∧ Hid ((rs.take k).findSome? (unruleL rs target) = none)) (fun s6 _ => rs.length - (intOf s6).toNat)
  case atStart => exact ⟨0, Nat.zero_le _, rfl, Kept.refl _ _, rfl⟩
  case round =>
    obtain ⟨k, hk, rfl, HK, HA⟩ := hrel
    by_cases hlt : k < rs.length
    · have t0 : decide ((k : Int) < (rs.length : Int)) = true := by simp; omega
      obtain ⟨r, hr⟩ : ∃ r, rs[k]? = some r := ⟨_, List.getElem?_eq_getElem hlt⟩
      obtain ⟨b, off, rfl, hrow⟩ := (HV.out wr HK.out).at hr
      have hmem := List.mem_of_getElem? hr
      have hfit := HF.out r hmem
      have hpair := HP.out r hmem
      have HPU1 : Hid (∀ m, fitL r.dst target = some m → ∀ W, Calls Tryd.prog 38 #[.string (strOfNums r.src), .string (strOfNums m)] W fun e w' => e = .returned (.string (strOfNums (fillL r.src m))) ∧ ∃ n, w' = W.drewN n) := HPU.out r hmem
      have HMP1 : Hid (∀ m, fitL r.dst target = some m → ∀ W, Kept [] w W → Calls Tryd.prog 17 #[.slice (some ⟨b, off, none⟩) rs.length cap, .string (strOfNums (fillL r.src m))] W fun e w' => e = .returned (mapV (mapL rs (fillL r.src m))) ∧ Kept [] W w') := HMP.out r hmem
      have HMO1 : Hid (∀ m, fitL r.dst target = some m → ∀ t f, mapL rs (fillL r.src m) = some (t, f) → Octs t) := HMO.out r hmem
      have HRW : Hid (∀ W, Kept [] wr W → W.rangeAt b (off + k * 4) r.row) := fun W kW => range_kept hrow kW (by simp)
      have HX : Hid (∀ x, unruleL rs target r = some x → res = some x) := fun x h => HR.out.trans (find_hit HA.out hr h)
      have HY : Hid (unruleL rs target r = none → (rs.take (k + 1)).findSome? (unruleL rs target) = none) := fun h => find_next HA.out hr h
      have i0 : (0 : Int) ≤ (k : Int) := by omega
      have i1 : (k : Int) < (rs.length : Int) := by omega
      have hso : (Tryd.prog.info? 37).map (·.size) = some r.row.length := Tryd.ruleSize
      clear hr hmem
      cases hf : fitL r.dst target with
      | none =>
        have HN : Hid ((rs.take (k + 1)).findSome? (unruleL rs target) = none) := HY.out (unrule_ref_none hf)
        rw [hf, optV_none] at hfit
        obtain ⟨src, dst, force, neg⟩ := r
        unfold RuleL.row at hrow
        simp only at hrow hfit
        obtain ⟨c0, c1, c2, c3⟩ := rule_cells hrow
        clear HX HY hf HPU1 HMP1 HMO1 HRW hpair hso
        generalize strOfNums src = SS at *
        generalize strOfNums dst = SD at *
        go_wp2_with (go_at_call 36; refine (hfit _).mono ?_; rintro e w2 ⟨rfl, k2⟩
                     have HK2 : Hid (Kept [] w w2) := HK.out.then k2
                     clear k2)
        go_roundw
        case rel => exact ⟨k + 1, by omega, by go_num, HK2, HN⟩
        case measure => simp [intOf]; omega
      | some m =>
        have hput := HPU1.out m hf
        have HMP2 : Hid (∀ W, Kept [] w W → Calls Tryd.prog 17 #[.slice (some ⟨b, off, none⟩) rs.length cap, .string (strOfNums (fillL r.src m))] W fun e w' => e = .returned (mapV (mapL rs (fillL r.src m))) ∧ Kept [] W w') := HMP1.out m hf
        have HMO2 : Hid (∀ t f, mapL rs (fillL r.src m) = some (t, f) → Octs t) := HMO1.out m hf
        have hne := unrule_ref (rs := rs) (target := target) (r := r) hf
        rw [hf, optV_some] at hfit
        clear HPU1 HMP1 HMO1 hf
        cases hpb : (!r.neg && (starB r.src == starB r.dst)) with
        | false =>
          have HN : Hid ((rs.take (k + 1)).findSome? (unruleL rs target) = none) := HY.out (by rw [hne, hpb]; exact if_neg fun h => by cases h.1)
          rw [hpb] at hpair
          clear HX HY hne hpb hput HMP2 HMO2
          obtain ⟨src, dst, force, neg⟩ := r
          unfold RuleL.row at hrow HRW hso
          simp only at hrow hfit HRW hpair hso
          obtain ⟨c0, c1, c2, c3⟩ := rule_cells hrow
          generalize strOfNums src = SS at *
          generalize strOfNums dst = SD at *
          generalize strOfNums m = SM at *
          go_wp2_with (first
            | (go_at_call 36; refine (hfit _).mono ?_; rintro e w2 ⟨rfl, k2⟩
               have HK2 : Hid (Kept [] w w2) := HK.out.then k2
               have hrow2 := HRW.out w2 k2
               clear k2)
            | (refine wpList_want' (by rfl) (fun K hK => wp_load_mid 37 (.tmp 34) (by rfl) b (off + k * 4) (by rfl) _ _ hrow2 hui rfl hso (hK _ _ ?_)))
            | (go_at_call 37; refine (hpair _).mono ?_; rintro e w3 ⟨rfl, k3⟩
               have HK3 : Hid (Kept [] w w3) := HK2.out.then k3
               clear k3))
          go_roundw
          case rel => exact ⟨k + 1, by omega, by go_num, HK3, HN⟩
          case measure => simp [intOf]; omega
        | true =>
          rw [hpb] at hpair
          cases hm : mapL rs (fillL r.src m) with
          | none =>
            have HN : Hid ((rs.take (k + 1)).findSome? (unruleL rs target) = none) := HY.out (by rw [hne, hm]; exact if_neg fun h => by simp at h)
            rw [hm, mapV_none] at HMP2
            clear HX HY hne hpb hm HMO2
            obtain ⟨src, dst, force, neg⟩ := r
            unfold RuleL.row at hrow HRW hso
            simp only at hrow hfit HRW hpair hso hput HMP2
            obtain ⟨c0, c1, c2, c3⟩ := rule_cells hrow
            generalize strOfNums (fillL src m) = SP at *
            generalize strOfNums src = SS at *
            generalize strOfNums dst = SD at *
            generalize strOfNums m = SM at *
            go_wp2_with (first
              | (go_at_call 36; refine (hfit _).mono ?_; rintro e w2 ⟨rfl, k2⟩
                 have HK2 : Hid (Kept [] w w2) := HK.out.then k2
                 have hrow2 := HRW.out w2 k2
                 have HRW2 : Hid (Kept [] wr w2) := k2
                 clear k2)
              | (refine wpList_want' (by rfl) (fun K hK => wp_load_mid 37 (.tmp 34) (by rfl) b (off + k * 4) (by rfl) _ _ hrow2 hui rfl hso (hK _ _ ?_)))
              | (go_at_call 37; refine (hpair _).mono ?_; rintro e w3 ⟨rfl, k3⟩
                 have HK3 : Hid (Kept [] w w3) := HK2.out.then k3
                 have d0 : w3.cell? ⟨b, off + k * 4, none⟩ = some (.string SS) := HRW.out w3 (HRW2.out.then k3) 0 _ rfl
                 clear k3)
              | (go_at_call 38; refine (hput _).mono ?_; rintro e w4 ⟨rfl, q, rfl⟩)
              | (go_at_call 17; refine (HMP2.out _ (HK3.out.drewN q)).mono ?_; rintro e w5 ⟨rfl, k5⟩
                 have HK5 : Hid (Kept [] w w5) := (HK3.out.drewN q).then k5
                 clear k5))
            go_roundw
            case rel => exact ⟨k + 1, by omega, by go_num, HK5, HN⟩
            case measure => simp [intOf]; omega
          | some tf =>
            obtain ⟨t, f⟩ := tf
            have heq := HEQ.out t (HMO2.out t f hm)
            by_cases htt : t = target
            · have HFn : Hid (res = some (fillL r.src m)) := HX.out _ (by rw [hne, hpb, hm, htt]; exact if_pos ⟨rfl, rfl⟩)
              rw [hm, mapV_some] at HMP2
              rw [decide_eq_true htt] at heq
              clear HX HY hne hpb hm htt HMO2
              obtain ⟨src, dst, force, neg⟩ := r
              unfold RuleL.row at hrow HRW hso
              simp only at hrow hfit HRW hpair hso hput HMP2 HFn
              obtain ⟨c0, c1, c2, c3⟩ := rule_cells hrow
              obtain ⟨SP, hSP⟩ : ∃ SP, SP = strOfNums (fillL src m) := ⟨_, rfl⟩
              have HSP : Hid (SP = strOfNums (fillL src m)) := hSP
              rw [← hSP] at hput HMP2
              clear hSP
              generalize strOfNums src = SS at *
              generalize strOfNums dst = SD at *
              generalize strOfNums m = SM at *
              generalize strOfNums t = ST at *
              go_wp2_with (first
                | (go_at_call 36; refine (hfit _).mono ?_; rintro e w2 ⟨rfl, k2⟩
                   have HK2 : Hid (Kept [] w w2) := HK.out.then k2
                   have hrow2 := HRW.out w2 k2
                   have HRW2 : Hid (Kept [] wr w2) := k2
                   clear k2)
                | (refine wpList_want' (by rfl) (fun K hK => wp_load_mid 37 (.tmp 34) (by rfl) b (off + k * 4) (by rfl) _ _ hrow2 hui rfl hso (hK _ _ ?_)))
                | (go_at_call 37; refine (hpair _).mono ?_; rintro e w3 ⟨rfl, k3⟩
                   have HK3 : Hid (Kept [] w w3) := HK2.out.then k3
                   have d0 : w3.cell? ⟨b, off + k * 4, none⟩ = some (.string SS) := HRW.out w3 (HRW2.out.then k3) 0 _ rfl
                   clear k3)
                | (go_at_call 38; refine (hput _).mono ?_; rintro e w4 ⟨rfl, q, rfl⟩)
                | (go_at_call 17; refine (HMP2.out _ (HK3.out.drewN q)).mono ?_; rintro e w5 ⟨rfl, k5⟩
                   have HK5 : Hid (Kept [] w w5) := (HK3.out.drewN q).then k5
                   clear k5))
              go_ret2
              exact ⟨by rw [HFn.out, optV_some, ← HSP.out]; rfl, HK5.out⟩
            · have HN : Hid ((rs.take (k + 1)).findSome? (unruleL rs target) = none) := HY.out (by
                rw [hne, hm]
                refine if_neg fun h => htt ?_
                have h2 := h.2
                simp only [Option.map_some, Option.some.injEq] at h2
                exact h2)
              rw [hm, mapV_some] at HMP2
              rw [decide_eq_false htt] at heq
              clear HX HY hne hpb hm htt HMO2
              obtain ⟨src, dst, force, neg⟩ := r
              unfold RuleL.row at hrow HRW hso
              simp only at hrow hfit HRW hpair hso hput HMP2
              obtain ⟨c0, c1, c2, c3⟩ := rule_cells hrow
              generalize strOfNums (fillL src m) = SP at *
              generalize strOfNums src = SS at *
              generalize strOfNums dst = SD at *
              generalize strOfNums m = SM at *
              generalize strOfNums t = ST at *
              go_wp2_with (first
                | (go_at_call 36; refine (hfit _).mono ?_; rintro e w2 ⟨rfl, k2⟩
                   have HK2 : Hid (Kept [] w w2) := HK.out.then k2
                   have hrow2 := HRW.out w2 k2
                   have HRW2 : Hid (Kept [] wr w2) := k2
                   clear k2)
                | (refine wpList_want' (by rfl) (fun K hK => wp_load_mid 37 (.tmp 34) (by rfl) b (off + k * 4) (by rfl) _ _ hrow2 hui rfl hso (hK _ _ ?_)))
                | (go_at_call 37; refine (hpair _).mono ?_; rintro e w3 ⟨rfl, k3⟩
                   have HK3 : Hid (Kept [] w w3) := HK2.out.then k3
                   have d0 : w3.cell? ⟨b, off + k * 4, none⟩ = some (.string SS) := HRW.out w3 (HRW2.out.then k3) 0 _ rfl
                   clear k3)
                | (go_at_call 38; refine (hput _).mono ?_; rintro e w4 ⟨rfl, q, rfl⟩)
                | (go_at_call 17; refine (HMP2.out _ (HK3.out.drewN q)).mono ?_; rintro e w5 ⟨rfl, k5⟩
                   have HK5 : Hid (Kept [] w w5) := (HK3.out.drewN q).then k5
                   clear k5))
              go_roundw
              case rel => exact ⟨k + 1, by omega, by go_num, HK5, HN⟩
              case measure => simp [intOf]; omega
    · have t0 : decide ((k : Int) < (rs.length : Int)) = false := by simp; omega
      have HF2 : Hid (res = none) := HR.out.trans (find_end HA.out (by omega))
      go_wp2
      go_ret2
      exact ⟨by rw [HF2.out, optV_none]; rfl, HK.out⟩
end Go.Proofs.YtmjbaficdoehfaaDoor
