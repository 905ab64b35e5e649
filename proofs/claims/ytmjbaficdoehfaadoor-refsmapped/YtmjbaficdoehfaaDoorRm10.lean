/-
  WALKS: satchelref14's pair, Map.
-/
import Derived.Test.YtmjbaficdoehfaaDoorRm9
import Derived.Test.YtmjbaficdoehfaaDoorRm6
namespace Go.Proofs.YtmjbaficdoehfaaDoor
open Go.RowKit

theorem starI_ge (xs : List Int) : decide ((0 : Int) ≤ starI xs) = starB xs := by
  unfold starI
  cases starB xs with
  | true => rw [if_pos rfl]; simp
  | false => rfl
set_option maxRecDepth 100000 in
set_option maxHeartbeats 1000000 in
theorem pair_any (r : RuleL) (hg : r.Good) (w : World) : Calls Tryd.prog 37 #[.agg #[.string (strOfNums r.src), .string (strOfNums r.dst), .bool r.force, .bool r.neg]] w fun e w' => e = .returned (.bool (!r.neg && (starB r.src == starB r.dst))) ∧ Kept [] w w' := by
  have hs1 := star_any r.src hg.s (by have := hg.sl; omega)
  have hs2 := star_any r.dst hg.d (by have := hg.dl; omega)
  have e1 := starI_ge r.src
  have e2 := starI_ge r.dst
  have HK : Hid (∀ o n, Kept [] w ((w.alloc o).drewN n)) := fun o n => ((Kept.refl [] w).alloc o).drewN n
  clear hg
  obtain ⟨src, dst, force, neg⟩ := r
  simp only at *
  generalize strOfNums src = S1 at *
  generalize strOfNums dst = S2 at *
  generalize starI src = i1 at *
  generalize starI dst = i2 at *
  generalize starB src = b1 at *
  generalize starB dst = b2 at *
  cases neg with
  | true =>
    go_enter Tryd.func37, Tryd.ntmps37
    go_wp2
    go_quiet (first | (go_at_call 53; with_reducible exact Calls.quiet_of_same (hs1 _)) | (go_at_call 53; with_reducible exact Calls.quiet_of_same (hs2 _)))
    go_wp2
    go_ret
    exact ⟨rfl, HK.out _ _⟩
  | false =>
    go_enter Tryd.func37, Tryd.ntmps37
    go_wp2
    go_quiet (first | (go_at_call 53; with_reducible exact Calls.quiet_of_same (hs1 _)) | (go_at_call 53; with_reducible exact Calls.quiet_of_same (hs2 _)))
    go_wp2
    go_ret
    exact ⟨rfl, HK.out _ _⟩

theorem wpList_want' {P : Program} {ops : Array Oper} {rest : List Oper} {o : Oper} {a : Act} {w : World} {Q : Exit → Act → World → Prop} (hw : Region.wanted o (yielded ops a.tmps) = true)
    (h : ∀ K : Act → World → Prop, (∀ a w, wpList P ops Q rest a w → K a w) → o.wp P a w K Q) : wpList P ops Q (o :: rest) a w :=
  wpList_step fun K hK => by rw [if_pos hw]; exact h K hK
/-- A rule's four cells. -/
theorem rule_cells {W : World} {b o : Nat} {src dst : List Int} {force neg : Bool} (h : W.rangeAt b o [.string (strOfNums src), .string (strOfNums dst), .bool force, .bool neg]) :
    W.cell? ⟨b, o, none⟩ = some (.string (strOfNums src)) ∧ W.cell? ⟨b, o + 1, none⟩ = some (.string (strOfNums dst)) ∧ W.cell? ⟨b, o + 2, none⟩ = some (.bool force) ∧ W.cell? ⟨b, o + 3, none⟩ = some (.bool neg) :=
  ⟨h 0 _ rfl, h 1 _ rfl, h 2 _ rfl, h 3 _ rfl⟩
theorem rule_ref {name : List Int} {r : RuleL} (m : List Int) (hf : fitL r.src name = some m) : ruleL name r = if r.neg = false ∧ starB r.src = starB r.dst ∧ checkB (fillL r.dst m) = true then some (fillL r.dst m, r.force) else none := by
  unfold ruleL carryL
  cases hn : r.neg with
  | true => rfl
  | false =>
    rw [hf]
    simp only [Bool.false_eq_true, if_false, true_and]
    by_cases hc : starB r.src = starB r.dst ∧ checkB (fillL r.dst m) = true
    · rw [if_pos hc, if_pos hc]; rfl
    · rw [if_neg hc, if_neg hc]; rfl
theorem rule_ref_none {name : List Int} {r : RuleL} (hf : fitL r.src name = none) : ruleL name r = none := by
  unfold ruleL carryL
  rw [hf]
  split <;> rfl

set_option maxRecDepth 100000 in
set_option maxHeartbeats 8000000 in
theorem RMap_any (v : Value) (rs : List RuleL) (name : List Int) (w : World) (hv : RulesAt w v rs) (hg : ∀ r, r ∈ rs → r.Good) (ho : Octs name) (hl : name.length ≤ 50000000000000000) :
    Calls Tryd.prog 17 #[v, .string (strOfNums name)] w fun e w' => e = .returned (mapV (mapL rs name)) ∧ Kept [] w w' := by
  have HV : Hid (∀ W, Kept [] w W → RulesAt W v rs) := fun W k => hv.kept k
  have hgood := Good_wide name ho (by omega) w
  have HF : Hid (∀ r, r ∈ rs → ∀ W, Calls Tryd.prog 36 #[.string (strOfNums r.src), .string (strOfNums name)] W fun e w' => e = .returned (optV (fitL r.src name)) ∧ Kept [] W w') := fun r hr W => Fits_any _ _ (hg r hr).s ho (by have := (hg r hr).sl; omega) (by omega) W
  have HP : Hid (∀ r, r ∈ rs → ∀ W, Calls Tryd.prog 37 #[.agg #[.string (strOfNums r.src), .string (strOfNums r.dst), .bool r.force, .bool r.neg]] W fun e w' => e = .returned (.bool (!r.neg && (starB r.src == starB r.dst))) ∧ Kept [] W w') := fun r hr W => pair_any r (hg r hr) W
  have HPU : Hid (∀ r, r ∈ rs → ∀ m, fitL r.src name = some m → ∀ W, Calls Tryd.prog 38 #[.string (strOfNums r.dst), .string (strOfNums m)] W fun e w' => e = .returned (.string (strOfNums (fillL r.dst m))) ∧ ∃ n, w' = W.drewN n) := fun r hr m hm W => Put_any _ _ (hg r hr).d (by have := (hg r hr).dl; omega) (by have := (fit_octs hm ho).2; omega) W
  have HGD : Hid (∀ r, r ∈ rs → ∀ m, fitL r.src name = some m → ∀ W, Calls Tryd.prog 35 #[.string (strOfNums (fillL r.dst m))] W fun e w' => e = .returned (.bool (checkB (fillL r.dst m))) ∧ Kept [] W w') := fun r hr m hm W => by
    refine Good_wide _ (octs_put (hg r hr).d (fit_octs hm ho).1) ?_ W
    have h1 := (fit_octs hm ho).2
    have h2 := (hg r hr).dl
    cases h : starB r.dst with
    | true => have := put_len r.dst m h; omega
    | false => rw [put_no r.dst m h]; omega
  obtain ⟨ao, cap, rfl, hcap, hlen⟩ := hv.form
  have hui := Tryd.underlying37
  obtain ⟨res, hres⟩ : ∃ res, res = mapL rs name := ⟨_, rfl⟩
  have HR0 : Hid (checkB name = false → res = none) := fun h => by rw [hres]; unfold mapL; exact if_neg fun hc => by rw [h] at hc; cases hc.1
  have HR1 : Hid (leftB rs name = true → res = none) := fun h => by rw [hres]; unfold mapL; exact if_neg fun hc => by rw [h] at hc; cases hc.2
  have HR2 : Hid (checkB name = true → leftB rs name = false → res = rs.findSome? (ruleL name)) := fun h k => by rw [hres]; unfold mapL; exact if_pos ⟨h, k⟩
  rw [← hres]
  clear hv hg ho hres
  obtain ⟨S, hS⟩ : ∃ S, S = strOfNums name := ⟨_, rfl⟩
  rw [← hS] at hgood HF ⊢
  clear hS
  obtain ⟨ck, hck⟩ : ∃ ck, ck = checkB name := ⟨_, rfl⟩
  have HCK : Hid (ck = checkB name) := hck
  rw [← hck] at hgood
  clear hck
  go_enter Tryd.func17, Tryd.ntmps17
  go_wp2_with (go_at_call 35; refine hgood.mono ?_; rintro e w1 ⟨rfl, k1⟩
               have HK1 : Hid (Kept [] w w1) := k1
               clear k1)
  go_loopw [7, 8] (fun s7 s8 wr => ∃ (k : Nat) (ok : Bool), k ≤ rs.length ∧ s8 = .int .i64 k ∧ s7 = .bool ok ∧ Hid (Kept [] w wr) ∧ Hid (ok = true → ck = true ∧ (rs.take k).any (fun r => r.neg && (fitL r.src name).isSome) = false) ∧ Hid (ok = false → res = none)) (fun _ s8 _ => rs.length - (intOf s8).toNat)
  case atStart => exact ⟨0, ck, Nat.zero_le _, rfl, rfl, HK1.out, fun h => ⟨h, rfl⟩, fun h => HR0.out (by rw [← HCK.out]; exact h)⟩
  case round =>
    obtain ⟨k, ok, hk, rfl, rfl, HK, HA, HZ⟩ := hrel
    cases ok with
    | false =>
      have HNone : Hid (res = none) := HZ.out rfl
      clear HA HZ
      by_cases hlt : k < rs.length
      · have t0 : decide ((k : Int) < (rs.length : Int)) = true := by simp; omega
        go_wp2
        refine wp_loop_rounds 1 ?_
        rw [rounds_succ]
        by_cases h0 : 0 < rs.length
        · go_wp2
          go_ret3
          exact ⟨by rw [HNone.out, mapV_none]; rfl, HK.out⟩
        · omega
      · have t0 : decide ((k : Int) < (rs.length : Int)) = false := by simp; omega
        go_wp2
        refine wp_loop_rounds 1 ?_
        rw [rounds_succ]
        by_cases h0 : 0 < rs.length
        · go_wp2
          go_ret3
          exact ⟨by rw [HNone.out, mapV_none]; rfl, HK.out⟩
        · go_wp2
          go_ret3
          exact ⟨by rw [HNone.out, mapV_none]; rfl, HK.out⟩
    | true =>
      have HA' : Hid (ck = true ∧ (rs.take k).any (fun r => r.neg && (fitL r.src name).isSome) = false) := HA.out rfl
      clear HA HZ
      by_cases hlt : k < rs.length
      · have t0 : decide ((k : Int) < (rs.length : Int)) = true := by simp; omega
        obtain ⟨r, hr⟩ : ∃ r, rs[k]? = some r := ⟨_, List.getElem?_eq_getElem hlt⟩
        obtain ⟨b, off, rfl, hrow⟩ := (HV.out wr HK.out).at hr
        have hfit := HF.out r (List.mem_of_getElem? hr)
        have HRW : Hid (∀ W, Kept [] wr W → W.rangeAt b (off + k * 4) r.row) := fun W kW => range_kept hrow kW (by simp)
        have HX : Hid ((r.neg && (fitL r.src name).isSome) = true → res = none) := fun h => HR1.out (any_hit hr h)
        have HY : Hid ((r.neg && (fitL r.src name).isSome) = false → (rs.take (k + 1)).any (fun r => r.neg && (fitL r.src name).isSome) = false) := fun h => any_next HA'.out.2 hr h
        have i0 : (0 : Int) ≤ (k : Int) := by omega
        have i1 : (k : Int) < (rs.length : Int) := by omega
        clear hr
        obtain ⟨src, dst, force, neg⟩ := r
        unfold RuleL.row at hrow HRW
        simp only at hrow hfit HX HY HRW
        obtain ⟨c0, c1, c2, c3⟩ := rule_cells hrow
        cases hf : fitL src name with
        | none =>
          rw [hf] at hfit HX HY
          rw [optV_none] at hfit
          have HN : Hid ((rs.take (k + 1)).any (fun r => r.neg && (fitL r.src name).isSome) = false) := HY.out (by simp)
          clear HX HY hf
          generalize strOfNums src = SS at *
          generalize strOfNums dst = SD at *
          cases neg with
          | true =>
            go_wp2_with (go_at_call 36; refine (hfit _).mono ?_; rintro e w2 ⟨rfl, k2⟩
                         have HK2 : Hid (Kept [] w w2) := HK.out.then k2
                         have d3 : w2.cell? ⟨b, off + k * 4 + 3, none⟩ = some (.bool true) := HRW.out w2 k2 3 _ rfl
                         clear k2)
            go_roundw
            case rel => exact ⟨k + 1, true, by omega, by go_num, rfl, HK2, fun _ => ⟨HA'.out.1, HN.out⟩, fun h => by cases h⟩
            case measure => simp [intOf]; omega
          | false =>
            go_wp2_with (go_at_call 36; refine (hfit _).mono ?_; rintro e w2 ⟨rfl, k2⟩
                         have HK2 : Hid (Kept [] w w2) := HK.out.then k2
                         have d3 : w2.cell? ⟨b, off + k * 4 + 3, none⟩ = some (.bool false) := HRW.out w2 k2 3 _ rfl
                         clear k2)
            go_roundw
            case rel => exact ⟨k + 1, true, by omega, by go_num, rfl, HK2, fun _ => ⟨HA'.out.1, HN.out⟩, fun h => by cases h⟩
            case measure => simp [intOf]; omega
        | some m =>
          rw [hf] at hfit HX HY
          rw [optV_some] at hfit
          cases neg with
          | true =>
            have HN : Hid (res = none) := HX.out rfl
            clear HX HY hf
            generalize strOfNums src = SS at *
            generalize strOfNums dst = SD at *
            generalize strOfNums m = SM at *
            go_wp2_with (go_at_call 36; refine (hfit _).mono ?_; rintro e w2 ⟨rfl, k2⟩
                         have HK2 : Hid (Kept [] w w2) := HK.out.then k2
                         have d3 : w2.cell? ⟨b, off + k * 4 + 3, none⟩ = some (.bool true) := HRW.out w2 k2 3 _ rfl
                         clear k2)
            go_roundw
            case rel => exact ⟨k + 1, false, by omega, by go_num, rfl, HK2, (fun h => by cases h), fun _ => HN.out⟩
            case measure => simp [intOf]; omega
          | false =>
            have HN : Hid ((rs.take (k + 1)).any (fun r => r.neg && (fitL r.src name).isSome) = false) := HY.out rfl
            clear HX HY hf
            generalize strOfNums src = SS at *
            generalize strOfNums dst = SD at *
            generalize strOfNums m = SM at *
            go_wp2_with (go_at_call 36; refine (hfit _).mono ?_; rintro e w2 ⟨rfl, k2⟩
                         have HK2 : Hid (Kept [] w w2) := HK.out.then k2
                         have d3 : w2.cell? ⟨b, off + k * 4 + 3, none⟩ = some (.bool false) := HRW.out w2 k2 3 _ rfl
                         clear k2)
            go_roundw
            case rel => exact ⟨k + 1, true, by omega, by go_num, rfl, HK2, fun _ => ⟨HA'.out.1, HN.out⟩, fun h => by cases h⟩
            case measure => simp [intOf]; omega
      · have t0 : decide ((k : Int) < (rs.length : Int)) = false := by simp; omega
        have HR : Hid (res = rs.findSome? (ruleL name)) := HR2.out (by rw [← HCK.out]; exact HA'.out.1) (any_end HA'.out.2 (by omega))
        clear HA'
        go_wp2
        go_loopw [11] (fun s11 wr => ∃ k : Nat, k ≤ rs.length ∧ s11 = .int .i64 k ∧ Hid (Kept [] w wr) ∧ Hid ((rs.take k).findSome? (ruleL name) = none)) (fun s11 _ => rs.length - (intOf s11).toNat)
        case atStart => exact ⟨0, Nat.zero_le _, rfl, HK.out, rfl⟩
        case round =>
          clear HK hk hlt t0
          obtain ⟨k, hk, rfl, HK, HA⟩ := hrel
          by_cases hlt : k < rs.length
          · have t0 : decide ((k : Int) < (rs.length : Int)) = true := by simp; omega
            obtain ⟨r, hr⟩ : ∃ r, rs[k]? = some r := ⟨_, List.getElem?_eq_getElem hlt⟩
            obtain ⟨b, off, rfl, hrow⟩ := (HV.out wr HK.out).at hr
            have hfit := HF.out r (List.mem_of_getElem? hr)
            have hpair := HP.out r (List.mem_of_getElem? hr)
            have HPU1 : Hid (∀ m, fitL r.src name = some m → ∀ W, Calls Tryd.prog 38 #[.string (strOfNums r.dst), .string (strOfNums m)] W fun e w' => e = .returned (.string (strOfNums (fillL r.dst m))) ∧ ∃ n, w' = W.drewN n) := HPU.out r (List.mem_of_getElem? hr)
            have HGD1 : Hid (∀ m, fitL r.src name = some m → ∀ W, Calls Tryd.prog 35 #[.string (strOfNums (fillL r.dst m))] W fun e w' => e = .returned (.bool (checkB (fillL r.dst m))) ∧ Kept [] W w') := HGD.out r (List.mem_of_getElem? hr)
            have HRW : Hid (∀ W, Kept [] wr W → W.rangeAt b (off + k * 4) r.row) := fun W kW => range_kept hrow kW (by simp)
            have HX : Hid (∀ x, ruleL name r = some x → res = some x) := fun x h => HR.out.trans (find_hit HA.out hr h)
            have HY : Hid (ruleL name r = none → (rs.take (k + 1)).findSome? (ruleL name) = none) := fun h => find_next HA.out hr h
            have i0 : (0 : Int) ≤ (k : Int) := by omega
            have i1 : (k : Int) < (rs.length : Int) := by omega
            have hso : (Tryd.prog.info? 37).map (·.size) = some r.row.length := Tryd.ruleSize
            clear hr
            cases hf : fitL r.src name with
            | none =>
              have HN : Hid ((rs.take (k + 1)).findSome? (ruleL name) = none) := HY.out (rule_ref_none hf)
              rw [hf, optV_none] at hfit
              obtain ⟨src, dst, force, neg⟩ := r
              unfold RuleL.row at hrow
              simp only at hrow hfit
              obtain ⟨c0, c1, c2, c3⟩ := rule_cells hrow
              clear HX HY hf HPU1 HGD1 HRW hpair hso
              generalize strOfNums src = SS at *
              generalize strOfNums dst = SD at *
              go_wp2_with (go_at_call 36; refine (hfit _).mono ?_; rintro e w2 ⟨rfl, k2⟩
                           have HK2 : Hid (Kept [] w w2) := HK.out.then k2
                           clear k2)
              go_roundw
              case rel => exact ⟨k + 1, by omega, by go_num, HK2, HN⟩
              case measure => simp [intOf]; omega
            | some m =>
              have hput := HPU1.out m hf
              have hgd := HGD1.out m hf
              have hrl := rule_ref m hf
              rw [hf, optV_some] at hfit
              clear HPU1 HGD1 hf
              have hne : ruleL name r = if (!r.neg && (starB r.src == starB r.dst)) = true ∧ checkB (fillL r.dst m) = true then some (fillL r.dst m, r.force) else none := by
                rw [hrl]
                congr 1
                simp
                exact ⟨fun ⟨a, b, c⟩ => ⟨⟨a, b⟩, c⟩, fun ⟨⟨a, b⟩, c⟩ => ⟨a, b, c⟩⟩
              clear hrl
              cases hpb : (!r.neg && (starB r.src == starB r.dst)) with
              | false =>
                have HN : Hid ((rs.take (k + 1)).findSome? (ruleL name) = none) := HY.out (by rw [hne, hpb]; rfl)
                rw [hpb] at hpair
                clear HX HY hne hpb hgd hput
                obtain ⟨src, dst, force, neg⟩ := r
                unfold RuleL.row at hrow HRW hso
                simp only at hrow hfit HRW hpair hso
                obtain ⟨c0, c1, c2, c3⟩ := rule_cells hrow
                generalize strOfNums src = SS at *
                generalize strOfNums dst = SD at *
                generalize strOfNums m = SM at *
                go_wp2_with (first
                  | (go_at_call 36; refine (hfit _).mono ?_; rintro e w2 ⟨rfl, k2⟩
                     have HK2 : Hid (Kept [] w w2) := HK.out.then k2
                     have hrow2 := HRW.out w2 k2
                     clear k2)
                  | (refine wpList_want' (by rfl) (fun K hK => wp_load_mid 37 (.tmp 70) (by rfl) b (off + k * 4) (by rfl) _ _ hrow2 hui rfl hso (hK _ _ ?_)))
                  | (go_at_call 37; refine (hpair _).mono ?_; rintro e w3 ⟨rfl, k3⟩
                     have HK3 : Hid (Kept [] w w3) := HK2.out.then k3
                     clear k3))
                go_roundw
                case rel => exact ⟨k + 1, by omega, by go_num, HK3, HN⟩
                case measure => simp [intOf]; omega
              | true =>
                cases hcb : checkB (fillL r.dst m) with
                | false =>
                  have HN : Hid ((rs.take (k + 1)).findSome? (ruleL name) = none) := HY.out (by rw [hne, hcb]; exact if_neg fun h => by cases h.2)
                  rw [hpb] at hpair
                  rw [hcb] at hgd
                  clear HX HY hne hpb hcb
                  obtain ⟨src, dst, force, neg⟩ := r
                  unfold RuleL.row at hrow HRW hso
                  simp only at hrow hfit HRW hpair hso hput hgd
                  obtain ⟨c0, c1, c2, c3⟩ := rule_cells hrow
                  generalize strOfNums (fillL dst m) = SP at *
                  generalize strOfNums src = SS at *
                  generalize strOfNums dst = SD at *
                  generalize strOfNums m = SM at *
                  go_wp2_with (first
                    | (go_at_call 36; refine (hfit _).mono ?_; rintro e w2 ⟨rfl, k2⟩
                       have HK2 : Hid (Kept [] w w2) := HK.out.then k2
                       have hrow2 := HRW.out w2 k2
                       have HRW2 : Hid (Kept [] wr w2) := k2
                       clear k2)
                    | (refine wpList_want' (by rfl) (fun K hK => wp_load_mid 37 (.tmp 70) (by rfl) b (off + k * 4) (by rfl) _ _ hrow2 hui rfl hso (hK _ _ ?_)))
                    | (go_at_call 37; refine (hpair _).mono ?_; rintro e w3 ⟨rfl, k3⟩
                       have HK3 : Hid (Kept [] w w3) := HK2.out.then k3
                       have d1 : w3.cell? ⟨b, off + k * 4 + 1, none⟩ = some (.string SD) := HRW.out w3 (HRW2.out.then k3) 1 _ rfl
                       clear k3)
                    | (go_at_call 38; refine (hput _).mono ?_; rintro e w4 ⟨rfl, q, rfl⟩)
                    | (go_at_call 35; refine (hgd _).mono ?_; rintro e w5 ⟨rfl, k5⟩
                       have HK5 : Hid (Kept [] w w5) := (HK3.out.drewN q).then k5
                       clear k5))
                  go_roundw
                  case rel => exact ⟨k + 1, by omega, by go_num, HK5, HN⟩
                  case measure => simp [intOf]; omega
                | true =>
                  have HFn : Hid (res = some (fillL r.dst m, r.force)) := HX.out _ (by rw [hne, hpb, hcb]; rfl)
                  rw [hpb] at hpair
                  rw [hcb] at hgd
                  clear HX HY hne hpb hcb
                  obtain ⟨src, dst, force, neg⟩ := r
                  unfold RuleL.row at hrow HRW hso
                  simp only at hrow hfit HRW hpair hso hput hgd HFn
                  obtain ⟨c0, c1, c2, c3⟩ := rule_cells hrow
                  obtain ⟨SP, hSP⟩ : ∃ SP, SP = strOfNums (fillL dst m) := ⟨_, rfl⟩
                  have HSP : Hid (SP = strOfNums (fillL dst m)) := hSP
                  rw [← hSP] at hput hgd
                  clear hSP
                  generalize strOfNums src = SS at *
                  generalize strOfNums dst = SD at *
                  generalize strOfNums m = SM at *
                  go_wp2_with (first
                    | (go_at_call 36; refine (hfit _).mono ?_; rintro e w2 ⟨rfl, k2⟩
                       have HK2 : Hid (Kept [] w w2) := HK.out.then k2
                       have hrow2 := HRW.out w2 k2
                       have HRW2 : Hid (Kept [] wr w2) := k2
                       clear k2)
                    | (refine wpList_want' (by rfl) (fun K hK => wp_load_mid 37 (.tmp 70) (by rfl) b (off + k * 4) (by rfl) _ _ hrow2 hui rfl hso (hK _ _ ?_)))
                    | (go_at_call 37; refine (hpair _).mono ?_; rintro e w3 ⟨rfl, k3⟩
                       have HK3 : Hid (Kept [] w w3) := HK2.out.then k3
                       have HRW3 : Hid (Kept [] wr w3) := HRW2.out.then k3
                       have d1 : w3.cell? ⟨b, off + k * 4 + 1, none⟩ = some (.string SD) := HRW.out w3 HRW3.out 1 _ rfl
                       clear k3)
                    | (go_at_call 38; refine (hput _).mono ?_; rintro e w4 ⟨rfl, q, rfl⟩)
                    | (go_at_call 35; refine (hgd _).mono ?_; rintro e w5 ⟨rfl, k5⟩
                       have HK5 : Hid (Kept [] w w5) := (HK3.out.drewN q).then k5
                       have HRW5 : Hid (Kept [] wr w5) := (HRW3.out.drewN q).then k5
                       have f1 : ∀ n, (w5.drewN n).cell? ⟨b, off + k * 4 + 1, none⟩ = some (.string SD) := fun n => HRW.out w5 HRW5.out 1 _ rfl
                       have f2 : ∀ n, (w5.drewN n).cell? ⟨b, off + k * 4 + 2, none⟩ = some (.bool force) := fun n => HRW.out w5 HRW5.out 2 _ rfl
                       clear k5))
                  go_quiet (first | (go_at_call 38; with_reducible exact Calls.quiet_of (hput _)))
                  go_wp2
                  go_ret3
                  exact ⟨by rw [HFn.out, mapV_some, ← HSP.out]; rfl, HK5.out.drewN _⟩
          · have t0 : decide ((k : Int) < (rs.length : Int)) = false := by simp; omega
            have HF2 : Hid (res = none) := HR.out.trans (find_end HA.out (by omega))
            go_wp2
            go_ret3
            exact ⟨by rw [HF2.out, mapV_none]; rfl, HK.out⟩
end Go.Proofs.YtmjbaficdoehfaaDoor
