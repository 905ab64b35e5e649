/-
  WALKS: satchelref0.HasID; satchelref2.half, IsHex.
-/
import Derived.Test.YtlljiipmkjjhhaaDoorFd9
import Derived.Test.YtlljiipmkjjhhaaDoorShort2
import Derived.Test.YtlljiipmkjjhhaaDoorHex1
namespace Go.Proofs.YtlljiipmkjjhhaaDoor
open Go.RowKit

set_option maxRecDepth 100000 in
set_option maxHeartbeats 4000000 in
theorem HasID_any (v : Value) (ids : List (List Int)) (id : List Int) (w : World) (hv : IdsAt w v ids) (hg : ∀ o, o ∈ ids → GoodID o) (hid : GoodID id) :
    Calls Tryd.prog 12 #[v, .agg (idC id)] w fun e w' => e = .returned (.bool (decide (id ∈ ids))) ∧ Kept [] w w' := by
  obtain ⟨W0, hW0⟩ : ∃ W0, W0 = w.alloc (.cells (idC id) 24) := ⟨_, rfl⟩
  have HW0 : Hid (W0 = w.alloc (.cells (idC id) 24)) := hW0
  have k0 : Kept [] w W0 := by rw [hW0]; exact (Kept.refl _ _).alloc _
  have HK0 : Hid (Kept [] w W0) := k0
  have HV : Hid (∀ W, Kept [] W0 W → IdsAt W v ids) := fun W k => hv.onK (k0.then k)
  have HBX : Hid (∀ W, Kept [] W0 W → W.rangeAt w.heap.size 0 (id.map (Value.int .u8))) := fun W k => row_range (k.heap (show W0.heap[w.heap.size]? = some (.cells (id.map (Value.int .u8)).toArray 24 (0, 0)) by rw [hW0]; exact heap_alloc_new w _) (by simp))
  have HG : Hid (∀ o, o ∈ ids → GoodID o) := hg
  have hid32 : id.length = 32 := hid.1
  have hui := Tryd.underlying24
  obtain ⟨ao, cap, rfl, hcap, _, hlen, _⟩ := hv
  clear hg hid k0 hW0
  go_enter Tryd.func12, Tryd.ntmps12
  go_wp2
  go_loopw [5] (fun s5 wr => ∃ k : Nat, k ≤ ids.length ∧ s5 = .int .i64 k ∧ Hid (Kept [] W0 wr) ∧ Hid (id ∉ ids.take k)) (fun s5 _ => ids.length - (intOf s5).toNat)
  case atStart => exact ⟨0, Nat.zero_le _, rfl, by rw [HW0.out]; exact Kept.refl _ _, fun h => by simp at h⟩
  case round =>
    obtain ⟨k, hk, rfl, HK, HN⟩ := hrel
    by_cases hlt : k < ids.length
    · have t1 : decide ((k : Int) < (ids.length : Int)) = true := decide_eq_true (by omega)
      obtain ⟨o, ho⟩ : ∃ o, ids[k]? = some o := ⟨_, List.getElem?_eq_getElem hlt⟩
      have hgo := HG.out o (List.mem_of_getElem? ho)
      obtain ⟨ao', cap', he, _, _, _, hc⟩ := HV.out wr HK.out
      injection he with e1 e2 e3
      subst e1 e3
      obtain ⟨b, off, rfl, hh⟩ := hc (by rintro rfl; simp at hlt)
      have hr := hh k o ho
      have HTK : Hid (ids.take (k + 1) = ids.take k ++ [o]) := by
        have h : ids.take (k + 1) = ids.take k ++ [o] := by rw [List.take_add_one, ho]; rfl
        exact h
      have HMO : Hid (o ∈ ids) := List.mem_of_getElem? ho
      have HEQ : Hid (∀ W, (Op.equalIn 10000 24 (.agg (o.map (Value.int .u8)).toArray) (.agg (id.map (Value.int .u8)).toArray)).run Tryd.prog W = .ok (decide (o = id)) W) := fun W => idEq o id W hgo.1 hid32
      have HR1 : Hid (∀ W, Kept [] wr W → W.rangeAt b (off + k * 32) (o.map (Value.int .u8))) := fun W hW => range_kept hr hW (by simp)
      have HR2 : Hid (∀ W, Kept [] wr W → W.rangeAt w.heap.size 0 (id.map (Value.int .u8))) := fun W hW => HBX.out W (HK.out.then hW)
      have hszo : (Tryd.prog.info? 24).map (·.size) = some (o.map (Value.int .u8)).length := by rw [List.length_map, hgo.1]; exact Tryd.infoID
      have hszi : (Tryd.prog.info? 24).map (·.size) = some (id.map (Value.int .u8)).length := by rw [List.length_map, hid32]; exact Tryd.infoID
      have i0 : (0 : Int) ≤ (k : Int) := by omega
      have i1 : (k : Int) < (ids.length : Int) := by omega
      clear hh hc ho hr
      generalize o.map (Value.int .u8) = us at *
      generalize id.map (Value.int .u8) = xs at *
      by_cases hoi : o = id
      · have heq : ∀ W, (Op.equalIn 10000 24 (.agg us.toArray) (.agg xs.toArray)).run Tryd.prog W = .ok true W := fun W => by have h := HEQ.out W; rwa [decide_eq_true hoi] at h
        have HIN : Hid (id ∈ ids) := by have h := HMO.out; rw [hoi] at h; exact h
        clear hoi
        go_wp2_with fail
        refine region_quiet (Kept [] wr) (by kernel_rfl) (by kernel_rfl) (Kept.refl [] wr).drew ?_
        with_reducible refine wpQuiet_step ?_
        intro K hK
        rw [if_pos (by go_simp)]
        refine move_at (.tmp 0) rfl (.slice (some ⟨b, off, none⟩) ids.length cap) rfl (hK _ ?_)
        clear hK K
        simp only [Act.put, List.setIfInBounds_toArray, List.set_cons_zero, List.set_cons_succ]
        with_reducible refine wpQuiet_step ?_
        intro K hK
        rw [if_pos (by go_simp)]
        refine move_at (.tmp 5) rfl (.int .i64 k) rfl (hK _ ?_)
        clear hK K
        simp only [Act.put, List.setIfInBounds_toArray, List.set_cons_zero, List.set_cons_succ]
        with_reducible refine wpQuiet_step ?_
        intro K hK
        rw [if_pos (by go_simp)]
        refine val_at (.pointer (some ⟨b, off + k * 32, none⟩)) (fun W => by go_simp) (hK _ ?_)
        clear hK K
        simp only [Act.put, List.setIfInBounds_toArray, List.set_cons_zero, List.set_cons_succ]
        with_reducible refine wpQuiet_step ?_
        intro K hK
        rw [if_pos (by go_simp)]
        refine row_at 24 (.tmp 14) rfl b (off + k * 32) rfl us _ HR1.out hui rfl hszo (hK _ ?_)
        clear hK K
        simp only [Act.put, List.setIfInBounds_toArray, List.set_cons_zero, List.set_cons_succ]
        with_reducible refine wpQuiet_step ?_
        intro K hK
        rw [if_pos (by go_simp)]
        refine row_at 24 (.tmp 3) rfl w.heap.size 0 rfl xs _ HR2.out hui rfl hszi (hK _ ?_)
        clear hK K
        simp only [Act.put, List.setIfInBounds_toArray, List.set_cons_zero, List.set_cons_succ]
        with_reducible refine wpQuiet_step ?_
        intro K hK
        rw [if_pos (by go_simp)]
        refine eql_at (.tmp 15) (.tmp 16) _ rfl us.toArray xs.toArray rfl rfl true heq (hK _ ?_)
        clear hK K
        simp only [Act.put, List.setIfInBounds_toArray, List.set_cons_zero, List.set_cons_succ]
        refine wpQuiet_nil ?_
        intro wz hkz
        have HKZ : Hid (Kept [] W0 wz) := HK.out.then hkz
        clear hkz
        go_wp2
        go_ret
        exact ⟨by rw [decide_eq_true HIN.out]; rfl, HK0.out.then HKZ.out⟩
      · have heq : ∀ W, (Op.equalIn 10000 24 (.agg us.toArray) (.agg xs.toArray)).run Tryd.prog W = .ok false W := fun W => by have h := HEQ.out W; rwa [decide_eq_false hoi] at h
        have HOI : Hid (¬ o = id) := hoi
        clear hoi
        go_wp2_with fail
        refine region_quiet (Kept [] wr) (by kernel_rfl) (by kernel_rfl) (Kept.refl [] wr).drew ?_
        with_reducible refine wpQuiet_step ?_
        intro K hK
        rw [if_pos (by go_simp)]
        refine move_at (.tmp 0) rfl (.slice (some ⟨b, off, none⟩) ids.length cap) rfl (hK _ ?_)
        clear hK K
        simp only [Act.put, List.setIfInBounds_toArray, List.set_cons_zero, List.set_cons_succ]
        with_reducible refine wpQuiet_step ?_
        intro K hK
        rw [if_pos (by go_simp)]
        refine move_at (.tmp 5) rfl (.int .i64 k) rfl (hK _ ?_)
        clear hK K
        simp only [Act.put, List.setIfInBounds_toArray, List.set_cons_zero, List.set_cons_succ]
        with_reducible refine wpQuiet_step ?_
        intro K hK
        rw [if_pos (by go_simp)]
        refine val_at (.pointer (some ⟨b, off + k * 32, none⟩)) (fun W => by go_simp) (hK _ ?_)
        clear hK K
        simp only [Act.put, List.setIfInBounds_toArray, List.set_cons_zero, List.set_cons_succ]
        with_reducible refine wpQuiet_step ?_
        intro K hK
        rw [if_pos (by go_simp)]
        refine row_at 24 (.tmp 14) rfl b (off + k * 32) rfl us _ HR1.out hui rfl hszo (hK _ ?_)
        clear hK K
        simp only [Act.put, List.setIfInBounds_toArray, List.set_cons_zero, List.set_cons_succ]
        with_reducible refine wpQuiet_step ?_
        intro K hK
        rw [if_pos (by go_simp)]
        refine row_at 24 (.tmp 3) rfl w.heap.size 0 rfl xs _ HR2.out hui rfl hszi (hK _ ?_)
        clear hK K
        simp only [Act.put, List.setIfInBounds_toArray, List.set_cons_zero, List.set_cons_succ]
        with_reducible refine wpQuiet_step ?_
        intro K hK
        rw [if_pos (by go_simp)]
        refine eql_at (.tmp 15) (.tmp 16) _ rfl us.toArray xs.toArray rfl rfl false heq (hK _ ?_)
        clear hK K
        simp only [Act.put, List.setIfInBounds_toArray, List.set_cons_zero, List.set_cons_succ]
        refine wpQuiet_nil ?_
        intro wz hkz
        have HKZ : Hid (Kept [] W0 wz) := HK.out.then hkz
        clear hkz
        go_wp2
        go_roundw
        case rel =>
          refine ⟨k + 1, by omega, by go_num, HKZ, ?_⟩
          show id ∉ ids.take (k + 1)
          rw [HTK.out, List.mem_append, List.mem_singleton]
          rintro (h | h)
          · exact HN.out h
          · exact HOI.out h.symm
        case measure => simp [intOf]; omega
    · have t1 : decide ((k : Int) < (ids.length : Int)) = false := decide_eq_false (by omega)
      have HF : Hid (id ∉ ids) := by
        have h := HN.out
        rw [List.take_of_length_le (by omega)] at h
        exact h
      go_wp2
      go_ret
      exact ⟨by rw [decide_eq_false HF.out]; rfl, HK0.out.then HK.out⟩
set_option maxHeartbeats 4000000 in
/-- satchelref2.half: what a digit says; -1: it is none. -/
theorem rhalf_any (c : Int) (h0 : 0 ≤ c) (h1 : c ≤ 255) (w : World) :
    Calls Tryd.prog 79 #[.int .u8 c] w fun e w' => (∃ n : Int, e = .returned (.int .i64 n) ∧ (isDigit c → 0 ≤ n) ∧ (¬ isDigit c → n = -1)) ∧ Kept [] w w' := by
  have HD : Hid (∀ k : Nat, k < 16 → ∀ W, Calls Tryd.prog 88 #[.int .i64 k] W fun e w' => e = .returned (.int .u8 (digitL k)) ∧ w' = W) := fun k hk W => rdigit_any k W (by omega) (by omega)
  go_enter Tryd.func79, Tryd.ntmps79
  go_wp2
  go_loopw [3] (fun s3 wr => ∃ k : Nat, k ≤ 16 ∧ s3 = .int .i64 k ∧ Hid (Kept [] w wr) ∧ Hid (∀ j : Nat, j < k → digitL j ≠ c)) (fun s3 _ => 16 - (intOf s3).toNat)
  case atStart => exact ⟨0, Nat.zero_le _, rfl, Kept.refl _ _, fun j hj => by omega⟩
  case round =>
    obtain ⟨k, hk, rfl, HK, HN⟩ := hrel
    by_cases hlt : k < 16
    · have t1 : decide ((k : Int) < 16) = true := decide_eq_true (by omega)
      have hdk := HD.out k hlt
      obtain ⟨dk, hdq⟩ : ∃ dk, dk = digitL k := ⟨_, rfl⟩
      have HDK : Hid (dk = digitL k) := hdq
      rw [← hdq] at hdk
      clear hdq
      by_cases hc : dk = c
      · subst hc
        have HIS : Hid (isDigit dk) := by
          have h := HDK.out
          show isDigit dk
          unfold digitL at h
          unfold isDigit
          split at h <;> omega
        go_wp2_with (go_at_call 88; refine (hdk _).mono ?_; rintro e w9 ⟨rfl, hw9⟩; subst w9)
        go_ret
        exact ⟨⟨_, rfl, fun _ => by omega, fun h => absurd HIS.out h⟩, HK.out⟩
      · have t2 : decide (dk = c) = false := decide_eq_false hc
        have t3 : (dk == c) = false := by simpa using hc
        have HNC : Hid (dk ≠ c) := hc
        clear hc
        go_wp2_with (go_at_call 88; refine (hdk _).mono ?_; rintro e w9 ⟨rfl, hw9⟩; subst w9)
        go_roundw
        case rel =>
          refine ⟨k + 1, by omega, by go_num, HK, fun j hj => ?_⟩
          rcases (by omega : j < k ∨ j = k) with h | rfl
          · exact HN.out j h
          · rw [← HDK.out]
            exact HNC.out
        case measure => simp [intOf]; omega
    · have t1 : decide ((k : Int) < 16) = false := decide_eq_false (by omega)
      have HNO : Hid (¬ isDigit c) := fun h => by
        unfold isDigit at h
        rcases h with h | h
        · refine HN.out (c - 48).toNat (by omega) ?_
          unfold digitL
          rw [if_pos (by omega)]
          omega
        · refine HN.out (c - 87).toNat (by omega) ?_
          unfold digitL
          rw [if_neg (by omega)]
          omega
      go_wp2
      go_ret
      exact ⟨⟨_, rfl, fun h => absurd h HNO.out, fun _ => rfl⟩, HK.out⟩
set_option maxHeartbeats 4000000 in
theorem IsHex_any (p : List Int) (hp : Octs p) (hl : p.length ≤ 1000000000) (w : World) :
    Calls Tryd.prog 55 #[.string (strOfNums p), .int .i64 4, .int .i64 64] w fun e w' => e = .returned (.bool (decide (4 ≤ p.length ∧ p.length ≤ 64 ∧ ∀ c, c ∈ p → isDigit c))) ∧ Kept [] w w' := by
  have hps : (strOfNums p).size = p.length := strOfNums_size p
  have HIX : Hid (∀ k : Nat, ∀ h : k < p.length, (strOfNums p)[k]'(by rw [hps]; exact h) = UInt8.ofNat (p[k]).toNat) := fun k h => by
    show (strOfNums p).data[k]'_ = _
    simp [strOfNums]
  have HO : Hid (Octs p) := hp
  obtain ⟨S, hS⟩ : ∃ S, S = strOfNums p := ⟨_, rfl⟩
  have HIS : Hid (∀ k : Nat, k < p.length → ∀ W, (Instr.index 9 (.string S) (.int .i64 k)).run Tryd.prog W = .ok (.int .u8 (p[k]?.getD 0)) W) := fun k hk W => by
    rw [hS]
    exact str_index p hp k hk W
  rw [← hS] at hps ⊢
  clear hS hp HIX
  by_cases hb : 4 ≤ p.length ∧ p.length ≤ 64
  · have t1 : decide ((p.length : Int) < 4) = false := decide_eq_false (by omega)
    have t2 : decide ((64 : Int) < (p.length : Int)) = false := decide_eq_false (by omega)
    have HB : Hid (4 ≤ p.length ∧ p.length ≤ 64) := hb
    have t1' : ¬ (p.length < 4) := by omega
    have t2' : ¬ (64 < p.length) := by omega
    go_enter Tryd.func55, Tryd.ntmps55
    go_wp2
    go_loopw [7] (fun s7 wr => ∃ k : Nat, k ≤ p.length ∧ s7 = .int .i64 k ∧ Hid (Kept [] w wr) ∧ Hid (∀ c, c ∈ p.take k → isDigit c)) (fun s7 _ => p.length - (intOf s7).toNat)
    case atStart => exact ⟨0, Nat.zero_le _, rfl, Kept.refl _ _, fun c hc => by simp at hc⟩
    case round =>
      obtain ⟨k, hk, rfl, HK, HN⟩ := hrel
      by_cases hlt : k < p.length
      · have t3 : decide ((k : Int) < (p.length : Int)) = true := decide_eq_true (by omega)
        have hix := HIS.out k hlt
        obtain ⟨c, hc⟩ : ∃ c, p[k]? = some c := ⟨_, List.getElem?_eq_getElem hlt⟩
        have hmem := List.mem_of_getElem? hc
        have hoc := HO.out c hmem
        rw [hc, Option.getD_some] at hix
        have hhf := rhalf_any c hoc.1 hoc.2
        have HTK : Hid (p.take (k + 1) = p.take k ++ [c]) := by
          have h : p.take (k + 1) = p.take k ++ [c] := by rw [List.take_add_one, hc]; rfl
          exact h
        have HMC : Hid (c ∈ p) := hmem
        have i0 : (0 : Int) ≤ (k : Int) := by omega
        have i1 : (k : Int) < (p.length : Int) := by omega
        clear hc hmem
        go_wp2_with fail
        go_at_call 79
        refine (hhf _).mono ?_
        rintro e w2 ⟨⟨n, rfl, hn1, hn2⟩, k2⟩
        have HK2 : Hid (Kept [] w w2) := HK.out.then k2
        clear hhf k2
        by_cases hd : isDigit c
        · have hn := hn1 hd
          have t4 : decide (n < 0) = false := decide_eq_false (by omega)
          have HD : Hid (isDigit c) := hd
          clear hn1 hn2 hd
          go_wp2
          go_roundw
          case rel =>
            refine ⟨k + 1, by omega, by go_num, HK2, fun x hx => ?_⟩
            rw [HTK.out] at hx
            rcases List.mem_append.1 hx with h | h
            · exact HN.out x h
            · rw [List.mem_singleton.1 h]; exact HD.out
          case measure => simp [intOf]; omega
        · have hn := hn2 hd
          subst hn
          have HF : Hid (¬ (4 ≤ p.length ∧ p.length ≤ 64 ∧ ∀ c, c ∈ p → isDigit c)) := fun h => hd (h.2.2 c HMC.out)
          clear hn1 hn2 hd
          go_wp2
          go_ret
          exact ⟨by rw [decide_eq_false HF.out]; rfl, HK2.out⟩
      · have t3 : decide ((k : Int) < (p.length : Int)) = false := decide_eq_false (by omega)
        have HF : Hid (4 ≤ p.length ∧ p.length ≤ 64 ∧ ∀ c, c ∈ p → isDigit c) := by
          have h := HN.out
          rw [List.take_of_length_le (by omega)] at h
          exact ⟨HB.out.1, HB.out.2, h⟩
        go_wp2
        go_ret
        exact ⟨by rw [decide_eq_true HF.out]; rfl, HK.out⟩
  · have HF : Hid (¬ (4 ≤ p.length ∧ p.length ≤ 64 ∧ ∀ c, c ∈ p → isDigit c)) := fun h => hb ⟨h.1, h.2.1⟩
    rw [decide_eq_false HF.out]
    by_cases h4 : p.length < 4
    · have t1 : decide ((p.length : Int) < 4) = true := decide_eq_true (by omega)
      clear hb HF
      go_enter Tryd.func55, Tryd.ntmps55
      go_wp2
      go_ret
      exact ⟨rfl, Kept.refl _ _⟩
    · have t1 : decide ((p.length : Int) < 4) = false := decide_eq_false (by omega)
      have t2 : decide ((64 : Int) < (p.length : Int)) = true := decide_eq_true (by omega)
      have t2' : 64 < p.length := by omega
      clear hb HF
      go_enter Tryd.func55, Tryd.ntmps55
      go_wp2
      go_ret
      exact ⟨rfl, Kept.refl _ _⟩
end Go.Proofs.YtlljiipmkjjhhaaDoor
