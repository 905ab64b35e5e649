/-
  WALKS: refs.carry, isLeftOut.
-/
import Derived.Test.YtmjbaficdoehfaaDoorRm4
import Derived.Test.YtmjbaficdoehfaaDoorEnt0
import Derived.Deep.WholeRow
namespace Go.Proofs.YtmjbaficdoehfaaDoor
open Go.RowKit

set_option maxRecDepth 100000 in
set_option maxHeartbeats 2000000 in
theorem carry_any (a b s : List Int) (ha : Octs a) (hb : Octs b) (hs : Octs s) (hl : a.length ≤ 100000000000000000) (hl2 : b.length ≤ 100000000000000000) (hl3 : s.length ≤ 100000000000000000) (w : World) (hT : Tabs w) (hM : MaxW w) :
    Calls Tryd.prog 24 #[.string (strOfNums a), .string (strOfNums b), .string (strOfNums s)] w fun e w' => e = .returned (optV (carryL a b s)) ∧ Kept [] w w' := by
  have hmid := middle_any a s ha hs hl hl3 w
  have hsa := hasStar_any a ha
  have hsb := hasStar_any b hb
  cases hf : fitL a s with
  | none =>
    have hN : carryL a b s = none := by unfold carryL; rw [hf]
    rw [hN, optV_none]
    rw [hf, optV_none] at hmid
    clear hf hN ha hb hs hT hM
    generalize strOfNums a = SA at *
    generalize strOfNums b = SB at *
    generalize strOfNums s = SS at *
    go_enter Tryd.func24, Tryd.ntmps24
    go_wp2_with (go_at_call 40; refine hmid.mono ?_; rintro e w1 ⟨rfl, k1⟩)
    go_ret2
    exact ⟨rfl, k1⟩
  | some m =>
    obtain ⟨hmo, hml⟩ := fit_octs hf hs
    have HFI : Hid (∀ W, Kept [] w W → Calls Tryd.prog 41 #[.string (strOfNums b), .string (strOfNums m)] W fun e w' => e = .returned (optV (if b.length + m.length ≤ 256 ∧ checkB (fillL b m) = true then some (fillL b m) else none)) ∧ Kept [] W w') := fun W k => fill_any b m hb hmo hl2 (by omega) W (hT.kept k) (hM.kept k)
    have hC : carryL a b s = if starB a = starB b ∧ checkB (fillL b m) = true then some (fillL b m) else none := by unfold carryL; rw [hf]
    rw [hf, optV_some] at hmid
    by_cases hc : b.length + m.length ≤ 256 ∧ checkB (fillL b m) = true
    · rw [if_pos hc, optV_some] at HFI
      by_cases hst : starB a = starB b
      · rw [hC, if_pos ⟨hst, hc.2⟩, optV_some]
        rw [← hst] at hsb
        have hne : (starB a == starB a) = true := by simp
        clear hf hC hmo ha hb hs hT hM hc hst
        generalize strOfNums (fillL b m) = SP at *
        generalize strOfNums m = SM at *
        generalize strOfNums a = SA at *
        generalize strOfNums b = SB at *
        generalize strOfNums s = SS at *
        generalize starB a = q at *
        go_enter Tryd.func24, Tryd.ntmps24
        go_wp2_with (first
          | (go_at_call 40; refine hmid.mono ?_; rintro e w1 ⟨rfl, k1⟩
             have HK1 : Hid (Kept [] w w1) := k1
             clear k1)
          | (go_at_call 41; refine (HFI.out w1 HK1.out).mono ?_; rintro e w2 ⟨rfl, k2⟩
             have HK2 : Hid (Kept [] w w2) := HK1.out.then k2
             clear k2)
          | (go_at_call 42; with_reducible refine (hsa _).mono ?_; rintro e w9 ⟨rfl, hw9⟩; subst w9)
          | (go_at_call 42; with_reducible refine (hsb _).mono ?_; rintro e w8 ⟨rfl, hw8⟩; subst w8))
        go_ret2
        exact ⟨rfl, HK2.out⟩
      · rw [hC, if_neg (fun h => hst h.1), optV_none]
        have hne : (starB a == starB b) = false := by simpa using hst
        clear hf hC hmo ha hb hs hT hM hc hst
        generalize strOfNums (fillL b m) = SP at *
        generalize strOfNums m = SM at *
        generalize strOfNums a = SA at *
        generalize strOfNums b = SB at *
        generalize strOfNums s = SS at *
        generalize starB a = q at *
        generalize starB b = q2 at *
        go_enter Tryd.func24, Tryd.ntmps24
        go_wp2_with (first
          | (go_at_call 40; refine hmid.mono ?_; rintro e w1 ⟨rfl, k1⟩
             have HK1 : Hid (Kept [] w w1) := k1
             clear k1)
          | (go_at_call 41; refine (HFI.out w1 HK1.out).mono ?_; rintro e w2 ⟨rfl, k2⟩
             have HK2 : Hid (Kept [] w w2) := HK1.out.then k2
             clear k2)
          | (go_at_call 42; with_reducible refine (hsa _).mono ?_; rintro e w9 ⟨rfl, hw9⟩; subst w9)
          | (go_at_call 42; with_reducible refine (hsb _).mono ?_; rintro e w8 ⟨rfl, hw8⟩; subst w8))
        go_ret2
        exact ⟨rfl, HK2.out⟩
    · have hN : carryL a b s = none := by
        rw [hC]
        refine if_neg fun h => hc ⟨?_, h.2⟩
        have hck := h.2
        unfold checkB at hck
        simp only [Bool.and_eq_true, decide_eq_true_eq] at hck
        have hle := hck.1.1.2
        cases hsb2 : starB b with
        | true => have := put_len b m hsb2; omega
        | false =>
          have hm0 := fit_nostar hf (h.1.trans hsb2)
          rw [put_no b m hsb2] at hle
          rw [hm0]
          simp
          omega
      rw [hN, optV_none]
      rw [if_neg hc, optV_none] at HFI
      clear hf hC hmo ha hb hs hT hM hc hN
      generalize strOfNums m = SM at *
      generalize strOfNums a = SA at *
      generalize strOfNums b = SB at *
      generalize strOfNums s = SS at *
      go_enter Tryd.func24, Tryd.ntmps24
      go_wp2_with (first
        | (go_at_call 40; refine hmid.mono ?_; rintro e w1 ⟨rfl, k1⟩
           have HK1 : Hid (Kept [] w w1) := k1
           clear k1)
        | (go_at_call 41; refine (HFI.out w1 HK1.out).mono ?_; rintro e w2 ⟨rfl, k2⟩
           have HK2 : Hid (Kept [] w w2) := HK1.out.then k2
           clear k2))
      go_ret2
      exact ⟨rfl, HK2.out⟩

def RuleL.row (r : RuleL) : List Value := [.string (strOfNums r.src), .string (strOfNums r.dst), .bool r.force, .bool r.neg]
structure RuleL.Good (r : RuleL) : Prop where
  s : Octs r.src
  d : Octs r.dst
  sl : r.src.length ≤ 10000000000000000
  dl : r.dst.length ≤ 10000000000000000
/-- A list of rules lies so. -/
def RulesAt (w : World) (v : Value) (rs : List RuleL) : Prop := RowsAt w v 4 (rs.map RuleL.row)
theorem RulesAt.kept {w w' : World} {v : Value} {rs : List RuleL} (h : RulesAt w v rs) (k : Kept [] w w') : RulesAt w' v rs := RowsAt.keep h k (fun _ _ _ => by simp)
theorem RulesAt.form {w : World} {v : Value} {rs : List RuleL} (h : RulesAt w v rs) : ∃ ao cap, v = .slice ao rs.length cap ∧ rs.length ≤ cap ∧ rs.length ≤ 140737488351232 := by
  obtain ⟨ao, cap, rfl, h1, _, h2, _⟩ := h
  rw [List.length_map] at *
  exact ⟨ao, cap, rfl, h1, h2⟩
theorem RulesAt.at {w : World} {ao : Option Addr} {n cap : Nat} {rs : List RuleL} (h : RulesAt w (.slice ao n cap) rs) {k : Nat} {r : RuleL} (hr : rs[k]? = some r) : ∃ b off, ao = some ⟨b, off, none⟩ ∧ w.rangeAt b (off + k * 4) r.row := by
  obtain ⟨ao', cap', he, _, _, _, hc⟩ := h
  injection he with h1 h2 h3
  obtain ⟨b, off, hb, hh⟩ := hc (fun e => by
    rw [List.map_eq_nil_iff] at e
    subst e
    simp at hr)
  exact ⟨b, off, h1.trans hb, hh k _ (by rw [List.getElem?_map, hr]; rfl)⟩
theorem Tryd.ruleSize : (Tryd.prog.info? 37).map (·.size) = some 4 := by kernel_rfl

set_option maxRecDepth 100000 in
set_option maxHeartbeats 4000000 in
theorem left_any (v : Value) (rs : List RuleL) (name : List Int) (w : World) (hv : RulesAt w v rs) (hg : ∀ r, r ∈ rs → r.Good) (ho : Octs name) (hl : name.length ≤ 100000000000000000) :
    Calls Tryd.prog 23 #[v, .string (strOfNums name)] w fun e w' => e = .returned (.bool (leftB rs name)) ∧ Kept [] w w' := by
  have HV : Hid (∀ W, Kept [] w W → RulesAt W v rs) := fun W k => hv.kept k
  have HG : Hid (∀ r, r ∈ rs → r.Good) := hg
  have HM : Hid (∀ r, r ∈ rs → ∀ W, Calls Tryd.prog 40 #[.string (strOfNums r.src), .string (strOfNums name)] W fun e w' => e = .returned (optV (fitL r.src name)) ∧ Kept [] W w') := fun r hr W => middle_any _ _ (hg r hr).s ho (by have := (hg r hr).sl; omega) hl W
  obtain ⟨ao, cap, rfl, hcap, hlen⟩ := hv.form
  have hui := Tryd.underlying37
  obtain ⟨res, hres⟩ : ∃ res, res = leftB rs name := ⟨_, rfl⟩
  have HRS : Hid (res = rs.any fun r => r.neg && (fitL r.src name).isSome) := hres
  rw [← hres]
  clear hv hg ho hres
  generalize strOfNums name = S at *
  go_enter Tryd.func23, Tryd.ntmps23
  go_wp2
  go_loopw [11] (fun s11 wr => ∃ k : Nat, k ≤ rs.length ∧ s11 = .int .i64 k ∧ Hid (Kept [] w wr) ∧ Hid ((rs.take k).any (fun r => r.neg && (fitL r.src name).isSome) = false)) (fun s11 _ => rs.length - (intOf s11).toNat)
  case atStart => exact ⟨0, Nat.zero_le _, rfl, Kept.refl _ _, rfl⟩
  case round =>
    obtain ⟨k, hk, rfl, HK, HA⟩ := hrel
    by_cases hlt : k < rs.length
    · have t0 : decide ((k : Int) < (rs.length : Int)) = true := by simp; omega
      obtain ⟨r, hr⟩ : ∃ r, rs[k]? = some r := ⟨_, List.getElem?_eq_getElem hlt⟩
      obtain ⟨b, off, rfl, hrow⟩ := (HV.out wr HK.out).at hr
      have hmid := HM.out r (List.mem_of_getElem? hr)
      have HX : Hid ((r.neg && (fitL r.src name).isSome) = true → res = true) := fun h => HRS.out.trans (any_hit hr h)
      have HY : Hid ((r.neg && (fitL r.src name).isSome) = false → (rs.take (k + 1)).any (fun r => r.neg && (fitL r.src name).isSome) = false) := fun h => any_next HA.out hr h
      have i0 : (0 : Int) ≤ (k : Int) := by omega
      have i1 : (k : Int) < (rs.length : Int) := by omega
      have hso : (Tryd.prog.info? 37).map (·.size) = some r.row.length := Tryd.ruleSize
      clear hr HA
      obtain ⟨src, dst, force, neg⟩ := r
      unfold RuleL.row at hrow hso
      simp only at hrow hmid HX HY hso
      have hsz4 : (Tryd.prog.info? 37).map (·.size) = some (#[Value.string (strOfNums src), .string (strOfNums dst), .bool force, .bool neg] : Array Value).size := Tryd.ruleSize
      cases neg with
      | false =>
        have HN : Hid ((rs.take (k + 1)).any (fun r => r.neg && (fitL r.src name).isSome) = false) := HY.out rfl
        have HKA : Hid (∀ o, Kept [] w (wr.alloc o)) := fun o => HK.out.alloc o
        clear HX HY hmid
        generalize strOfNums src = SS at *
        generalize strOfNums dst = SD at *
        go_wp2_with (first
          | (refine wpList_load_mid (by rfl) 37 (.tmp 13) (by rfl) b (off + k * 4) (by rfl) _ _ hrow hui rfl hso ?_)
          | (refine wpList_store_row (by rfl) 37 (.tmp 6) (.tmp 14) (by rfl) wr.heap.size _ (by rfl) (by rfl) 37 _ (heap_alloc_new wr _) hsz4 rfl rfl ?_; rw [World.setRow_alloc_new]))
        go_roundw
        case rel => exact ⟨k + 1, by omega, by go_num, HKA.out _, HN⟩
        case measure => simp [intOf]; omega
      | true =>
        have HKA : Hid (∀ o, Kept [] w (wr.alloc o)) := fun o => HK.out.alloc o
        cases hf : fitL src name with
        | none =>
          rw [hf] at hmid HX HY
          rw [optV_none] at hmid
          have HN : Hid ((rs.take (k + 1)).any (fun r => r.neg && (fitL r.src name).isSome) = false) := HY.out rfl
          clear HX HY hf
          generalize strOfNums src = SS at *
          generalize strOfNums dst = SD at *
          go_wp2_with (first
            | (refine wpList_load_mid (by rfl) 37 (.tmp 13) (by rfl) b (off + k * 4) (by rfl) _ _ hrow hui rfl hso ?_)
            | (refine wpList_store_row (by rfl) 37 (.tmp 6) (.tmp 14) (by rfl) wr.heap.size _ (by rfl) (by rfl) 37 _ (heap_alloc_new wr _) hsz4 rfl rfl ?_; rw [World.setRow_alloc_new])
            | (go_at_call 40; refine (hmid _).mono ?_; rintro e w2 ⟨rfl, k2⟩
               have HK2 : Hid (Kept [] w w2) := (HKA.out _).then k2
               clear k2))
          go_roundw
          case rel => exact ⟨k + 1, by omega, by go_num, HK2, HN⟩
          case measure => simp [intOf]; omega
        | some m =>
          rw [hf] at hmid HX HY
          rw [optV_some] at hmid
          have HR : Hid (res = true) := HX.out rfl
          clear HX HY hf
          generalize strOfNums src = SS at *
          generalize strOfNums dst = SD at *
          generalize strOfNums m = SM at *
          go_wp2_with (first
            | (refine wpList_load_mid (by rfl) 37 (.tmp 13) (by rfl) b (off + k * 4) (by rfl) _ _ hrow hui rfl hso ?_)
            | (refine wpList_store_row (by rfl) 37 (.tmp 6) (.tmp 14) (by rfl) wr.heap.size _ (by rfl) (by rfl) 37 _ (heap_alloc_new wr _) hsz4 rfl rfl ?_; rw [World.setRow_alloc_new])
            | (go_at_call 40; refine (hmid _).mono ?_; rintro e w2 ⟨rfl, k2⟩
               have HK2 : Hid (Kept [] w w2) := (HKA.out _).then k2
               clear k2))
          go_ret
          exact ⟨by rw [HR.out]; rfl, HK2.out⟩
    · have t0 : decide ((k : Int) < (rs.length : Int)) = false := by simp; omega
      have HR : Hid (res = false) := HRS.out.trans (any_end HA.out (by omega))
      go_wp2
      go_ret
      exact ⟨by rw [HR.out]; rfl, HK.out⟩
end Go.Proofs.YtmjbaficdoehfaaDoor
