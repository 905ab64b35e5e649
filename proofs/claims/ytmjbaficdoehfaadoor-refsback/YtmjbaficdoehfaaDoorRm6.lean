/-
  WALKS: refs.Map, Unmap.
-/
import Derived.Test.YtmjbaficdoehfaaDoorRm5
namespace Go.Proofs.YtmjbaficdoehfaaDoor
open Go.RowKit

def mapV (r : Option (List Int × Bool)) : Value := .tuple #[.string (strOfNums ((r.map Prod.fst).getD [])), .bool ((r.map Prod.snd).getD false), .bool r.isSome]
theorem mapV_none : mapV none = .tuple #[.string ⟨#[]⟩, .bool false, .bool false] := rfl
theorem mapV_some (t : List Int) (f : Bool) : mapV (some (t, f)) = .tuple #[.string (strOfNums t), .bool f, .bool true] := rfl
theorem carry_octs {a b s t : List Int} (h : carryL a b s = some t) (hb : Octs b) (hs : Octs s) : Octs t ∧ t.length ≤ 255 := by
  unfold carryL at h
  cases hf : fitL a s with
  | none => rw [hf] at h; cases h
  | some m =>
    rw [hf] at h
    simp only at h
    split at h
    · rename_i hc
      injection h with h
      subst h
      refine ⟨octs_put hb (fit_octs hf hs).1, ?_⟩
      have hck := hc.2
      unfold checkB at hck
      simp only [Bool.and_eq_true, decide_eq_true_eq] at hck
      exact hck.1.1.2
    · cases h
theorem rule_of_carry {name : List Int} {r : RuleL} (hn : r.neg = false) {o : Option (List Int)} (h : carryL r.src r.dst name = o) : ruleL name r = o.map fun t => (t, r.force) := by
  unfold ruleL
  rw [hn, h]
  rfl

set_option maxRecDepth 100000 in
set_option maxHeartbeats 4000000 in
theorem Map_any (v : Value) (rs : List RuleL) (name : List Int) (w : World) (hv : RulesAt w v rs) (hg : ∀ r, r ∈ rs → r.Good) (ho : Octs name) (hl : name.length ≤ 100000000000000000) (hT : Tabs w) (hM : MaxW w) :
    Calls Tryd.prog 8 #[v, .string (strOfNums name)] w fun e w' => e = .returned (mapV (mapL rs name)) ∧ Kept [] w w' := by
  have HV : Hid (∀ W, Kept [] w W → RulesAt W v rs) := fun W k => hv.kept k
  have hchk := Check_any name ho (by omega) w hT
  have HLF : Hid (∀ W, Kept [] w W → Calls Tryd.prog 23 #[v, .string (strOfNums name)] W fun e w' => e = .returned (.bool (leftB rs name)) ∧ Kept [] W w') := fun W k => left_any v rs name W (hv.kept k) hg ho hl
  have HC : Hid (∀ r, r ∈ rs → ∀ W, Kept [] w W → Calls Tryd.prog 24 #[.string (strOfNums r.src), .string (strOfNums r.dst), .string (strOfNums name)] W fun e w' => e = .returned (optV (carryL r.src r.dst name)) ∧ Kept [] W w') := fun r hr W k => carry_any _ _ _ (hg r hr).s (hg r hr).d ho (by have := (hg r hr).sl; omega) (by have := (hg r hr).dl; omega) hl W (hT.kept k) (hM.kept k)
  obtain ⟨ao, cap, rfl, hcap, hlen⟩ := hv.form
  have hui := Tryd.underlying37
  clear hv hg ho hT hM
  by_cases hc : checkB name = true
  · rw [if_pos hc] at hchk
    cases hlo : leftB rs name with
    | true =>
      have hN : mapL rs name = none := by unfold mapL; exact if_neg fun h => by rw [hlo] at h; cases h.2
      rw [hN, mapV_none]
      rw [hlo] at HLF
      clear hc hlo hN HC
      generalize strOfNums name = S at *
      go_enter Tryd.func8, Tryd.ntmps8
      go_wp2_with (first
        | (go_at_call 11; refine hchk.mono ?_; rintro e w1 ⟨rfl, k1⟩
           have HK1 : Hid (Kept [] w w1) := k1
           clear k1)
        | (go_at_call 23; refine (HLF.out w1 HK1.out).mono ?_; rintro e w2 ⟨rfl, k2⟩
           have HK2 : Hid (Kept [] w w2) := HK1.out.then k2
           clear k2))
      go_ret3
      exact ⟨rfl, HK2.out⟩
    | false =>
      have HR : Hid (mapL rs name = rs.findSome? (ruleL name)) := by
        have h : mapL rs name = rs.findSome? (ruleL name) := by unfold mapL; exact if_pos ⟨hc, hlo⟩
        exact h
      rw [hlo] at HLF
      clear hc hlo
      obtain ⟨res, hres⟩ : ∃ res, res = mapL rs name := ⟨_, rfl⟩
      rw [← hres] at HR ⊢
      clear hres
      obtain ⟨S, hS⟩ : ∃ S, S = strOfNums name := ⟨_, rfl⟩
      rw [← hS] at hchk HLF HC ⊢
      clear hS
      go_enter Tryd.func8, Tryd.ntmps8
      go_wp2_with (first
        | (go_at_call 11; refine hchk.mono ?_; rintro e w1 ⟨rfl, k1⟩
           have HK1 : Hid (Kept [] w w1) := k1
           clear k1)
        | (go_at_call 23; refine (HLF.out w1 HK1.out).mono ?_; rintro e w2 ⟨rfl, k2⟩
           have HK2 : Hid (Kept [] w w2) := HK1.out.then k2
           clear k2))
      go_loopw [21] (fun s21 wr => ∃ k : Nat, k ≤ rs.length ∧ s21 = .int .i64 k ∧ Hid (Kept [] w wr) ∧ Hid ((rs.take k).findSome? (ruleL name) = none)) (fun s21 _ => rs.length - (intOf s21).toNat)
      case atStart => exact ⟨0, Nat.zero_le _, rfl, HK2.out, rfl⟩
      case round =>
        obtain ⟨k, hk, rfl, HK, HA⟩ := hrel
        clear HK1 HK2
        by_cases hlt : k < rs.length
        · have t0 : decide ((k : Int) < (rs.length : Int)) = true := by simp; omega
          obtain ⟨r, hr⟩ : ∃ r, rs[k]? = some r := ⟨_, List.getElem?_eq_getElem hlt⟩
          obtain ⟨b, off, rfl, hrow⟩ := (HV.out wr HK.out).at hr
          have HCR : Hid (∀ W, Kept [] w W → Calls Tryd.prog 24 #[.string (strOfNums r.src), .string (strOfNums r.dst), .string S] W fun e w' => e = .returned (optV (carryL r.src r.dst name)) ∧ Kept [] W w') := HC.out r (List.mem_of_getElem? hr)
          have HX : Hid (∀ x, ruleL name r = some x → res = some x) := fun x h => HR.out.trans (find_hit HA.out hr h)
          have HY : Hid (ruleL name r = none → (rs.take (k + 1)).findSome? (ruleL name) = none) := fun h => find_next HA.out hr h
          have i0 : (0 : Int) ≤ (k : Int) := by omega
          have i1 : (k : Int) < (rs.length : Int) := by omega
          have hso : (Tryd.prog.info? 37).map (·.size) = some r.row.length := Tryd.ruleSize
          have HKA : Hid (∀ o, Kept [] w (wr.alloc o)) := fun o => HK.out.alloc o
          clear hr HA
          obtain ⟨src, dst, force, neg⟩ := r
          unfold RuleL.row at hrow hso
          simp only at hrow HCR hso
          have hsz4 : (Tryd.prog.info? 37).map (·.size) = some (#[Value.string (strOfNums src), .string (strOfNums dst), .bool force, .bool neg] : Array Value).size := Tryd.ruleSize
          cases neg with
          | true =>
            have HN : Hid ((rs.take (k + 1)).findSome? (ruleL name) = none) := HY.out rfl
            clear HX HY HCR
            generalize strOfNums src = SS at *
            generalize strOfNums dst = SD at *
            go_wp2_with (first
              | (refine wpList_load_mid (by rfl) 37 (.tmp 23) (by rfl) b (off + k * 4) (by rfl) _ _ hrow hui rfl hso ?_)
              | (refine wpList_store_row (by rfl) 37 (.tmp 8) (.tmp 24) (by rfl) wr.heap.size _ (by rfl) (by rfl) 37 _ (heap_alloc_new wr _) hsz4 rfl rfl ?_; rw [World.setRow_alloc_new]))
            go_roundw
            case rel => exact ⟨k + 1, by omega, by go_num, HKA.out _, HN⟩
            case measure => simp [intOf]; omega
          | false =>
            cases hf : carryL src dst name with
            | none =>
              have HN : Hid ((rs.take (k + 1)).findSome? (ruleL name) = none) := HY.out (rule_of_carry (r := ⟨src, dst, force, false⟩) rfl hf)
              rw [hf, optV_none] at HCR
              clear HX HY hf
              have hcr := fun o => HCR.out _ (HKA.out o)
              clear HCR
              generalize strOfNums src = SS at *
              generalize strOfNums dst = SD at *
              go_wp2_with (first
                | (refine wpList_load_mid (by rfl) 37 (.tmp 23) (by rfl) b (off + k * 4) (by rfl) _ _ hrow hui rfl hso ?_)
                | (refine wpList_store_row (by rfl) 37 (.tmp 8) (.tmp 24) (by rfl) wr.heap.size _ (by rfl) (by rfl) 37 _ (heap_alloc_new wr _) hsz4 rfl rfl ?_; rw [World.setRow_alloc_new])
                | (go_at_call 24; refine (hcr _).mono ?_; rintro e w3 ⟨rfl, k3⟩
                   have HK3 : Hid (Kept [] w w3) := (HKA.out _).then k3
                   clear k3))
              go_roundw
              case rel => exact ⟨k + 1, by omega, by go_num, HK3, HN⟩
              case measure => simp [intOf]; omega
            | some t =>
              have HF : Hid (res = some (t, force)) := HX.out _ (rule_of_carry (r := ⟨src, dst, force, false⟩) rfl hf)
              rw [hf, optV_some] at HCR
              clear HX HY hf
              have hcr := fun o => HCR.out _ (HKA.out o)
              clear HCR
              obtain ⟨ST, hST⟩ : ∃ ST, ST = strOfNums t := ⟨_, rfl⟩
              have HST : Hid (ST = strOfNums t) := hST
              rw [← hST] at hcr
              clear hST
              generalize strOfNums src = SS at *
              generalize strOfNums dst = SD at *
              go_wp2_with (first
                | (refine wpList_load_mid (by rfl) 37 (.tmp 23) (by rfl) b (off + k * 4) (by rfl) _ _ hrow hui rfl hso ?_)
                | (refine wpList_store_row (by rfl) 37 (.tmp 8) (.tmp 24) (by rfl) wr.heap.size _ (by rfl) (by rfl) 37 _ (heap_alloc_new wr _) hsz4 rfl rfl ?_; rw [World.setRow_alloc_new])
                | (go_at_call 24; refine (hcr _).mono ?_; rintro e w3 ⟨rfl, k3⟩
                   have HK3 : Hid (Kept [] w w3) := (HKA.out _).then k3
                   have hb3 : w3.heap[wr.heap.size]? = some (.cells #[Value.string SS, .string SD, .bool force, .bool false] 37 (0, 0)) := k3.heap (heap_alloc_new wr _) (by simp)
                   have hc2 : ∀ n, (w3.drewN n).cell? ⟨wr.heap.size, 2, none⟩ = some (.bool force) := fun n => by
                     show w3.cell? _ = _
                     rw [cell_of_row _ _ _ _ _ _ hb3]; rfl
                   have hc20 : w3.cell? ⟨wr.heap.size, 2, none⟩ = some (.bool force) := by rw [cell_of_row _ _ _ _ _ _ hb3]; rfl
                   clear k3 hb3))
              go_quiet (fail)
              go_wp2
              go_ret3
              exact ⟨by rw [HF.out, mapV_some, ← HST.out]; rfl, HK3.out.drewN _⟩
        · have t0 : decide ((k : Int) < (rs.length : Int)) = false := by simp; omega
          have HF : Hid (res = none) := HR.out.trans (find_end HA.out (by omega))
          go_wp2
          go_ret3
          exact ⟨by rw [HF.out, mapV_none]; rfl, HK.out⟩
  · have hN : mapL rs name = none := by unfold mapL; exact if_neg fun h => hc h.1
    rw [hN, mapV_none]
    rw [if_neg hc] at hchk
    clear hc hN HC
    generalize strOfNums name = S at *
    go_enter Tryd.func8, Tryd.ntmps8
    go_wp2_with (go_at_call 11; refine hchk.mono ?_; rintro e w1 ⟨rfl, k1⟩)
    go_ret3
    exact ⟨rfl, k1⟩

theorem unrule_step {rs : List RuleL} {target src dst : List Int} {force : Bool} {o : Option (List Int)} : carryL dst src target = o → unruleL rs target ⟨src, dst, force, false⟩ = match o with | none => none | some n => if (mapL rs n).map Prod.fst = some target then some n else none := fun h => by
  rw [unrule_carry]
  simp only
  rw [h]
  rfl
theorem map_octs {rs : List RuleL} (hg : ∀ r, r ∈ rs → r.Good) {name t : List Int} {f : Bool} (ho : Octs name) (h : mapL rs name = some (t, f)) : Octs t ∧ t.length ≤ 255 := by
  unfold mapL at h
  split at h
  · obtain ⟨l, r, _, e, hr, _⟩ := List.findSome?_eq_some_iff.1 h
    have hm : r ∈ rs := by rw [e]; simp
    unfold ruleL at hr
    split at hr
    · cases hr
    · cases hc : carryL r.src r.dst name with
      | none => rw [hc] at hr; cases hr
      | some t2 =>
        rw [hc] at hr
        simp only [Option.map_some, Option.some.injEq, Prod.mk.injEq] at hr
        obtain ⟨rfl, _⟩ := hr
        exact carry_octs hc (hg r hm).d ho
  · cases h

set_option maxRecDepth 100000 in
set_option maxHeartbeats 4000000 in
theorem Unmap_any (v : Value) (rs : List RuleL) (target : List Int) (w : World) (hv : RulesAt w v rs) (hg : ∀ r, r ∈ rs → r.Good) (ho : Octs target) (hl : target.length ≤ 100000000000000000) (hT : Tabs w) (hM : MaxW w) :
    Calls Tryd.prog 9 #[v, .string (strOfNums target)] w fun e w' => e = .returned (optV (unmapL rs target)) ∧ Kept [] w w' := by
  have HV : Hid (∀ W, Kept [] w W → RulesAt W v rs) := fun W k => hv.kept k
  have HC : Hid (∀ r, r ∈ rs → ∀ W, Kept [] w W → Calls Tryd.prog 24 #[.string (strOfNums r.dst), .string (strOfNums r.src), .string (strOfNums target)] W fun e w' => e = .returned (optV (carryL r.dst r.src target)) ∧ Kept [] W w') := fun r hr W k => carry_any _ _ _ (hg r hr).d (hg r hr).s ho (by have := (hg r hr).dl; omega) (by have := (hg r hr).sl; omega) hl W (hT.kept k) (hM.kept k)
  have HMP : Hid (∀ n, Octs n → n.length ≤ 255 → ∀ W, Kept [] w W → Calls Tryd.prog 8 #[v, .string (strOfNums n)] W fun e w' => e = .returned (mapV (mapL rs n)) ∧ Kept [] W w') := fun n hn hnl W k => Map_any v rs n W (hv.kept k) hg hn (by omega) (hT.kept k) (hM.kept k)
  have HEQ : Hid (∀ t : List Int, Octs t → ((strOfNums t).toList == (strOfNums target).toList) = decide (t = target)) := fun t hto => by
    have hq := str_list t (strOfNums target).data.toList target hto ho rfl
    rw [Bool.eq_iff_iff, beq_iff_eq, decide_eq_true_eq]
    have e1 : (strOfNums target).toList = (strOfNums target).data.toList := by rw [Lib.toList_data]
    rw [e1]
    exact hq
  have HCO : Hid (∀ r, r ∈ rs → ∀ n, carryL r.dst r.src target = some n → Octs n ∧ n.length ≤ 255) := fun r hr n h => carry_octs h (hg r hr).s ho
  have HMO : Hid (∀ n t f, Octs n → mapL rs n = some (t, f) → Octs t) := fun n t f hn h => (map_octs hg hn h).1
  obtain ⟨ao, cap, rfl, hcap, hlen⟩ := hv.form
  have hui := Tryd.underlying37
  obtain ⟨res, hres⟩ : ∃ res, res = unmapL rs target := ⟨_, rfl⟩
  have HR : Hid (res = rs.findSome? (unruleL rs target)) := hres
  rw [← hres]
  clear hv hg ho hT hM hres
  obtain ⟨S, hS⟩ : ∃ S, S = strOfNums target := ⟨_, rfl⟩
  rw [← hS] at HC HEQ ⊢
  clear hS
  go_enter Tryd.func9, Tryd.ntmps9
  go_wp2
  go_loopw [15] (fun s15 wr => ∃ k : Nat, k ≤ rs.length ∧ s15 = .int .i64 k ∧ Hid (Kept [] w wr) ∧ Hid ((rs.take k).findSome? (unruleL rs target) = none)) (fun s15 _ => rs.length - (intOf s15).toNat)
  case atStart => exact ⟨0, Nat.zero_le _, rfl, Kept.refl _ _, rfl⟩
  case round =>
    obtain ⟨k, hk, rfl, HK, HA⟩ := hrel
    by_cases hlt : k < rs.length
    · have t0 : decide ((k : Int) < (rs.length : Int)) = true := by simp; omega
      obtain ⟨r, hr⟩ : ∃ r, rs[k]? = some r := ⟨_, List.getElem?_eq_getElem hlt⟩
      obtain ⟨b, off, rfl, hrow⟩ := (HV.out wr HK.out).at hr
      have HCR : Hid (∀ W, Kept [] w W → Calls Tryd.prog 24 #[.string (strOfNums r.dst), .string (strOfNums r.src), .string S] W fun e w' => e = .returned (optV (carryL r.dst r.src target)) ∧ Kept [] W w') := HC.out r (List.mem_of_getElem? hr)
      have HCO1 : Hid (∀ n, carryL r.dst r.src target = some n → Octs n ∧ n.length ≤ 255) := HCO.out r (List.mem_of_getElem? hr)
      have HX : Hid (∀ x, unruleL rs target r = some x → res = some x) := fun x h => HR.out.trans (find_hit HA.out hr h)
      have HY : Hid (unruleL rs target r = none → (rs.take (k + 1)).findSome? (unruleL rs target) = none) := fun h => find_next HA.out hr h
      have i0 : (0 : Int) ≤ (k : Int) := by omega
      have i1 : (k : Int) < (rs.length : Int) := by omega
      have hso : (Tryd.prog.info? 37).map (·.size) = some r.row.length := Tryd.ruleSize
      have HKA : Hid (∀ o, Kept [] w (wr.alloc o)) := fun o => HK.out.alloc o
      clear hr HA
      obtain ⟨src, dst, force, neg⟩ := r
      unfold RuleL.row at hrow hso
      simp only at hrow HCR hso HCO1
      have hsz4 : (Tryd.prog.info? 37).map (·.size) = some (#[Value.string (strOfNums src), .string (strOfNums dst), .bool force, .bool neg] : Array Value).size := Tryd.ruleSize
      cases neg with
      | true =>
        have HN : Hid ((rs.take (k + 1)).findSome? (unruleL rs target) = none) := HY.out rfl
        clear HX HY HCR
        generalize strOfNums src = SS at *
        generalize strOfNums dst = SD at *
        go_wp2_with (first
          | (refine wpList_load_mid (by rfl) 37 (.tmp 17) (by rfl) b (off + k * 4) (by rfl) _ _ hrow hui rfl hso ?_)
          | (refine wpList_store_row (by rfl) 37 (.tmp 7) (.tmp 18) (by rfl) wr.heap.size _ (by rfl) (by rfl) 37 _ (heap_alloc_new wr _) hsz4 rfl rfl ?_; rw [World.setRow_alloc_new]))
        go_roundw
        case rel => exact ⟨k + 1, by omega, by go_num, HKA.out _, HN⟩
        case measure => simp [intOf]; omega
      | false =>
        cases hf : carryL dst src target with
        | none =>
          have HN : Hid ((rs.take (k + 1)).findSome? (unruleL rs target) = none) := HY.out (unrule_step hf)
          rw [hf, optV_none] at HCR
          clear HX HY hf
          have hcr := fun o => HCR.out _ (HKA.out o)
          clear HCR
          generalize strOfNums src = SS at *
          generalize strOfNums dst = SD at *
          go_wp2_with (first
            | (refine wpList_load_mid (by rfl) 37 (.tmp 17) (by rfl) b (off + k * 4) (by rfl) _ _ hrow hui rfl hso ?_)
            | (refine wpList_store_row (by rfl) 37 (.tmp 7) (.tmp 18) (by rfl) wr.heap.size _ (by rfl) (by rfl) 37 _ (heap_alloc_new wr _) hsz4 rfl rfl ?_; rw [World.setRow_alloc_new])
            | (go_at_call 24; refine (hcr _).mono ?_; rintro e w3 ⟨rfl, k3⟩
               have HK3 : Hid (Kept [] w w3) := (HKA.out _).then k3
               clear k3))
          go_roundw
          case rel => exact ⟨k + 1, by omega, by go_num, HK3, HN⟩
          case measure => simp [intOf]; omega
        | some n =>
          obtain ⟨hno, hnl⟩ := HCO1.out n hf
          have hun : unruleL rs target ⟨src, dst, force, false⟩ = if (mapL rs n).map Prod.fst = some target then some n else none := unrule_step hf
          rw [hf, optV_some] at HCR
          have hcr := fun o => HCR.out _ (HKA.out o)
          have HMN : Hid (∀ W, Kept [] w W → Calls Tryd.prog 8 #[.slice (some ⟨b, off, none⟩) rs.length cap, .string (strOfNums n)] W fun e w' => e = .returned (mapV (mapL rs n)) ∧ Kept [] W w') := HMP.out n hno hnl
          clear HCR hf
          obtain ⟨SN, hSN⟩ : ∃ SN, SN = strOfNums n := ⟨_, rfl⟩
          have HSN : Hid (SN = strOfNums n) := hSN
          rw [← hSN] at hcr HMN
          clear hSN
          generalize strOfNums src = SS at *
          generalize strOfNums dst = SD at *
          cases hm : mapL rs n with
          | none =>
            have HN : Hid ((rs.take (k + 1)).findSome? (unruleL rs target) = none) := HY.out (by rw [hun, hm]; rfl)
            rw [hm, mapV_none] at HMN
            clear HX HY hun hm hno
            go_wp2_with (first
              | (refine wpList_load_mid (by rfl) 37 (.tmp 17) (by rfl) b (off + k * 4) (by rfl) _ _ hrow hui rfl hso ?_)
              | (refine wpList_store_row (by rfl) 37 (.tmp 7) (.tmp 18) (by rfl) wr.heap.size _ (by rfl) (by rfl) 37 _ (heap_alloc_new wr _) hsz4 rfl rfl ?_; rw [World.setRow_alloc_new])
              | (go_at_call 24; refine (hcr _).mono ?_; rintro e w3 ⟨rfl, k3⟩
                 have HK3 : Hid (Kept [] w w3) := (HKA.out _).then k3
                 clear k3)
              | (go_at_call 8; refine (HMN.out w3 HK3.out).mono ?_; rintro e w4 ⟨rfl, k4⟩
                 have HK4 : Hid (Kept [] w w4) := HK3.out.then k4
                 clear k4))
            go_roundw
            case rel => exact ⟨k + 1, by omega, by go_num, HK4, HN⟩
            case measure => simp [intOf]; omega
          | some tf =>
            obtain ⟨t, f⟩ := tf
            have hto := HMO.out n t f hno hm
            have heq := HEQ.out t hto
            rw [hm, mapV_some] at HMN
            generalize strOfNums t = ST at *
            by_cases htt : t = target
            · have HF : Hid (res = some n) := HX.out n (by rw [hun, hm, htt]; exact if_pos rfl)
              rw [decide_eq_true htt] at heq
              clear HX HY hun hm hno hto htt
              go_wp2_with (first
                | (refine wpList_load_mid (by rfl) 37 (.tmp 17) (by rfl) b (off + k * 4) (by rfl) _ _ hrow hui rfl hso ?_)
                | (refine wpList_store_row (by rfl) 37 (.tmp 7) (.tmp 18) (by rfl) wr.heap.size _ (by rfl) (by rfl) 37 _ (heap_alloc_new wr _) hsz4 rfl rfl ?_; rw [World.setRow_alloc_new])
                | (go_at_call 24; refine (hcr _).mono ?_; rintro e w3 ⟨rfl, k3⟩
                   have HK3 : Hid (Kept [] w w3) := (HKA.out _).then k3
                   clear k3)
                | (go_at_call 8; refine (HMN.out w3 HK3.out).mono ?_; rintro e w4 ⟨rfl, k4⟩
                   have HK4 : Hid (Kept [] w w4) := HK3.out.then k4
                   clear k4))
              go_ret2
              exact ⟨by rw [HF.out, optV_some, ← HSN.out]; rfl, HK4.out⟩
            · have HN : Hid ((rs.take (k + 1)).findSome? (unruleL rs target) = none) := HY.out (by
                rw [hun, hm]
                refine if_neg fun h => htt ?_
                simp only [Option.map_some, Option.some.injEq] at h
                exact h)
              rw [decide_eq_false htt] at heq
              clear HX HY hun hm hno hto htt
              go_wp2_with (first
                | (refine wpList_load_mid (by rfl) 37 (.tmp 17) (by rfl) b (off + k * 4) (by rfl) _ _ hrow hui rfl hso ?_)
                | (refine wpList_store_row (by rfl) 37 (.tmp 7) (.tmp 18) (by rfl) wr.heap.size _ (by rfl) (by rfl) 37 _ (heap_alloc_new wr _) hsz4 rfl rfl ?_; rw [World.setRow_alloc_new])
                | (go_at_call 24; refine (hcr _).mono ?_; rintro e w3 ⟨rfl, k3⟩
                   have HK3 : Hid (Kept [] w w3) := (HKA.out _).then k3
                   clear k3)
                | (go_at_call 8; refine (HMN.out w3 HK3.out).mono ?_; rintro e w4 ⟨rfl, k4⟩
                   have HK4 : Hid (Kept [] w w4) := HK3.out.then k4
                   clear k4))
              go_roundw
              case rel => exact ⟨k + 1, by omega, by go_num, HK4, HN⟩
              case measure => simp [intOf]; omega
    · have t0 : decide ((k : Int) < (rs.length : Int)) = false := by simp; omega
      have HF : Hid (res = none) := HR.out.trans (find_end HA.out (by omega))
      go_wp2
      go_ret2
      exact ⟨by rw [HF.out, optV_none]; rfl, HK.out⟩
end Go.Proofs.YtmjbaficdoehfaaDoor
