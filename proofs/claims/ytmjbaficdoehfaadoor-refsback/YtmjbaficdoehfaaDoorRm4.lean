/-
  WALKS: refs.middle, fill, carry.
-/
import Derived.Test.YtmjbaficdoehfaaDoorRm3
namespace Go.Proofs.YtmjbaficdoehfaaDoor
open Go.RowKit

theorem fit_octs {side s m : List Int} (h : fitL side s = some m) (ho : Octs s) : Octs m ∧ m.length ≤ s.length := by
  unfold fitL at h
  split at h
  · split at h
    · injection h with h
      subst h
      exact ⟨octs_take (octs_drop ho _) _, by rw [List.length_take, List.length_drop]; omega⟩
    · cases h
  · split at h
    · injection h with h
      subst h
      exact ⟨fun u hu => by simp at hu, by simp⟩
    · cases h
theorem fit_nostar {side s m : List Int} (h : fitL side s = some m) (hs : starB side = false) : m = [] := by
  unfold fitL at h
  rw [hs] at h
  simp only [Bool.false_eq_true, if_false] at h
  split at h
  · injection h with h; exact h.symm
  · cases h
theorem optV_none : optV none = .tuple #[.string ⟨#[]⟩, .bool false] := rfl
theorem optV_some (m : List Int) : optV (some m) = .tuple #[.string (strOfNums m), .bool true] := rfl

set_option maxRecDepth 100000 in
set_option maxHeartbeats 2000000 in
theorem middle_any (side text : List Int) (hs : Octs side) (ht : Octs text) (hl : side.length ≤ 100000000000000000) (hl2 : text.length ≤ 100000000000000000) (w : World) :
    Calls Tryd.prog 40 #[.string (strOfNums side), .string (strOfNums text)] w fun e w' => e = .returned (optV (fitL side text)) ∧ Kept [] w w' := by
  have hz1 := strOfNums_size side
  have hz2 := strOfNums_size text
  by_cases hlong : text.length + 1 < side.length
  · have t1 : decide ((text.length : Int) + 1 < (side.length : Int)) = true := by simp; omega
    rw [fit_long hlong, optV_none]
    clear hlong hs ht
    generalize strOfNums side = S at *
    generalize strOfNums text = T at *
    go_enter Tryd.func40, Tryd.ntmps40
    go_wp2
    go_ret2
    exact ⟨rfl, Kept.refl _ _⟩
  have t1 : decide ((text.length : Int) + 1 < (side.length : Int)) = false := by simp; omega
  have hcut := Cut_any side hs (by omega) w
  cases h : starB side with
  | false =>
    rw [h] at hcut
    simp only [Bool.false_eq_true, if_false] at hcut
    have hr : optV (fitL side text) = .tuple #[.string ⟨#[]⟩, .bool (decide (side = text))] := by
      unfold fitL
      rw [h]
      simp only [Bool.false_eq_true, if_false]
      by_cases he : side = text
      · rw [if_pos he, decide_eq_true he]; rfl
      · rw [if_neg he, decide_eq_false he]; rfl
    rw [hr]
    have heq : ((strOfNums text).toList == (strOfNums side).toList) = decide (side = text) := by
      have hq := str_list text (strOfNums side).data.toList side ht hs rfl
      rw [Bool.eq_iff_iff, beq_iff_eq, decide_eq_true_eq]
      have e1 : (strOfNums side).toList = (strOfNums side).data.toList := by rw [Lib.toList_data]
      rw [e1]
      exact hq.trans ⟨fun h => h.symm, fun h => h.symm⟩
    clear h hr hs ht hlong
    generalize strOfNums side = S at *
    generalize strOfNums text = T at *
    generalize decide (side = text) = b at *
    generalize strOfNums [] = E at *
    go_enter Tryd.func40, Tryd.ntmps40
    go_wp2_with (go_at_call 51; refine hcut.mono ?_; rintro e w1 ⟨rfl, n, rfl⟩)
    go_ret2
    exact ⟨rfl, (Kept.refl _ _).drewN n⟩
  | true =>
    rw [h] at hcut
    simp only [if_true] at hcut
    have hA := octs_ahead hs
    have hB := octs_behind hs
    have hcp := CutP_any text (aheadL side) ht hA
    have HF : Hid (fitL side text = if (aheadL side).isPrefixOf text = true ∧ (behindL side).isSuffixOf (if (aheadL side).isPrefixOf text = true then text.drop (aheadL side).length else text) = true then some ((text.drop (aheadL side).length).take ((text.drop (aheadL side).length).length - (behindL side).length)) else none) := fit_cut h
    obtain ⟨R, hR⟩ : ∃ R, R = (if (aheadL side).isPrefixOf text = true then text.drop (aheadL side).length else text) := ⟨_, rfl⟩
    have hRo : Octs R := by rw [hR]; split; exact octs_drop ht _; exact ht
    have hRl : R.length ≤ 100000000000000000 := by rw [hR]; split; (rw [List.length_drop]; omega); omega
    have hcs := CutS_any R (behindL side) hRo hB (by omega)
    rw [← hR] at hcp HF
    have HR : Hid ((aheadL side).isPrefixOf text = true → R = text.drop (aheadL side).length) := fun hp => by rw [hR, if_pos hp]
    clear hR hRo hRl h hs ht hlong hA hB
    cases hp : (aheadL side).isPrefixOf text with
    | false =>
      have hN : fitL side text = none := by rw [HF.out]; exact if_neg fun hc => by rw [hp] at hc; cases hc.1
      rw [hN, optV_none]
      rw [hp] at hcp
      clear hN hp HF HR
      generalize strOfNums (aheadL side) = SA at *
      generalize strOfNums (behindL side) = SB at *
      generalize strOfNums R = SR at *
      generalize strOfNums (if (behindL side).isSuffixOf R = true then R.take (R.length - (behindL side).length) else R) = SM at *
      generalize (behindL side).isSuffixOf R = b2 at *
      generalize strOfNums side = S at *
      generalize strOfNums text = T at *
      go_enter Tryd.func40, Tryd.ntmps40
      go_wp2_with (first
        | (go_at_call 51; refine hcut.mono ?_; rintro e w1 ⟨rfl, n, rfl⟩)
        | (go_at_call 49; refine (hcp _).mono ?_; rintro e w2 ⟨rfl, hw2⟩; subst w2)
        | (go_at_call 56; refine (hcs _).mono ?_; rintro e w3 ⟨rfl, hw3⟩; subst w3))
      go_ret2
      exact ⟨rfl, (Kept.refl _ _).drewN n⟩
    | true =>
      rw [hp] at hcp
      have hRr := HR.out hp
      cases hq : (behindL side).isSuffixOf R with
      | false =>
        have hN : fitL side text = none := by rw [HF.out]; exact if_neg fun hc => by rw [hq] at hc; cases hc.2
        rw [hN, optV_none]
        rw [hq] at hcs
        simp only [Bool.false_eq_true, if_false] at hcs
        clear hN hp hq HF HR hRr
        generalize strOfNums (aheadL side) = SA at *
        generalize strOfNums (behindL side) = SB at *
        generalize strOfNums R = SR at *
        generalize strOfNums side = S at *
        generalize strOfNums text = T at *
        go_enter Tryd.func40, Tryd.ntmps40
        go_wp2_with (first
          | (go_at_call 51; refine hcut.mono ?_; rintro e w1 ⟨rfl, n, rfl⟩)
          | (go_at_call 49; refine (hcp _).mono ?_; rintro e w2 ⟨rfl, hw2⟩; subst w2)
          | (go_at_call 56; refine (hcs _).mono ?_; rintro e w3 ⟨rfl, hw3⟩; subst w3))
        go_ret2
        exact ⟨rfl, (Kept.refl _ _).drewN n⟩
      | true =>
        have hN : fitL side text = some (R.take (R.length - (behindL side).length)) := by
          rw [HF.out, if_pos ⟨hp, hq⟩, ← hRr]
        rw [hN, optV_some]
        rw [hq] at hcs
        simp only [if_true] at hcs
        clear hN hp hq HF HR hRr
        generalize strOfNums (aheadL side) = SA at *
        generalize strOfNums (R.take (R.length - (behindL side).length)) = SM at *
        generalize strOfNums (behindL side) = SB at *
        generalize strOfNums R = SR at *
        generalize strOfNums side = S at *
        generalize strOfNums text = T at *
        go_enter Tryd.func40, Tryd.ntmps40
        go_wp2_with (first
          | (go_at_call 51; refine hcut.mono ?_; rintro e w1 ⟨rfl, n, rfl⟩)
          | (go_at_call 49; refine (hcp _).mono ?_; rintro e w2 ⟨rfl, hw2⟩; subst w2)
          | (go_at_call 56; refine (hcs _).mono ?_; rintro e w3 ⟨rfl, hw3⟩; subst w3))
        go_ret2
        exact ⟨rfl, (Kept.refl _ _).drewN n⟩

set_option maxRecDepth 100000 in
set_option maxHeartbeats 2000000 in
theorem fill_any (side text : List Int) (hs : Octs side) (ht : Octs text) (hl : side.length ≤ 100000000000000000) (hl2 : text.length ≤ 100000000000000000) (w : World) (hT : Tabs w) (hM : MaxW w) :
    Calls Tryd.prog 41 #[.string (strOfNums side), .string (strOfNums text)] w fun e w' => e = .returned (optV (if side.length + text.length ≤ 256 ∧ checkB (fillL side text) = true then some (fillL side text) else none)) ∧ Kept [] w w' := by
  have hz1 := strOfNums_size side
  have hz2 := strOfNums_size text
  by_cases hlong : 256 < side.length + text.length
  · have t1 : decide ((256 : Int) < (side.length : Int) + (text.length : Int)) = true := by simp; omega
    rw [if_neg (fun hc => by omega), optV_none]
    clear hs ht hlong
    generalize strOfNums side = S at *
    generalize strOfNums text = T at *
    go_enter Tryd.func41, Tryd.ntmps41
    go_wp2
    go_ret2
    exact ⟨rfl, Kept.refl _ _⟩
  have t1 : decide ((256 : Int) < (side.length : Int) + (text.length : Int)) = false := by simp; omega
  have hrep := Rep_any side text hs ht (by omega) (by omega) w hM
  have hpl : (fillL side text).length ≤ 256 := by
    cases h : starB side with
    | true => have := put_len side text h; omega
    | false => rw [put_no side text h]; omega
  have HCK : Hid (∀ W, Kept [] w W → Calls Tryd.prog 11 #[.string (strOfNums (fillL side text))] W fun e w' => e = .returned (.int .i64 (if checkB (fillL side text) = true then 0 else 140)) ∧ Kept [] W w') := fun W k => Check_any _ (octs_put hs ht) (by omega) W (hT.kept k)
  clear hT hM
  by_cases hc : checkB (fillL side text) = true
  · rw [if_pos ⟨by omega, hc⟩, optV_some]
    rw [if_pos hc] at HCK
    clear hc hs ht hlong
    generalize strOfNums (fillL side text) = P at *
    generalize strOfNums side = S at *
    generalize strOfNums text = T at *
    go_enter Tryd.func41, Tryd.ntmps41
    go_wp2_with (first
      | (go_at_call 57; with_reducible refine hrep.mono ?_; rintro e w1 ⟨rfl, k1⟩
         have HK1 : Hid (Kept [] w w1) := k1
         clear k1)
      | (go_at_call 11; with_reducible refine (HCK.out w1 HK1.out).mono ?_; rintro e w2 ⟨rfl, k2⟩
         have HK2 : Hid (Kept [] w w2) := HK1.out.then k2
         clear k2))
    go_ret2
    exact ⟨rfl, HK2.out⟩
  · rw [if_neg (fun h => hc h.2), optV_none]
    rw [if_neg hc] at HCK
    clear hc hs ht hlong
    generalize strOfNums (fillL side text) = P at *
    generalize strOfNums side = S at *
    generalize strOfNums text = T at *
    go_enter Tryd.func41, Tryd.ntmps41
    go_wp2_with (first
      | (go_at_call 57; with_reducible refine hrep.mono ?_; rintro e w1 ⟨rfl, k1⟩
         have HK1 : Hid (Kept [] w w1) := k1
         clear k1)
      | (go_at_call 11; with_reducible refine (HCK.out w1 HK1.out).mono ?_; rintro e w2 ⟨rfl, k2⟩
         have HK2 : Hid (Kept [] w w2) := HK1.out.then k2
         clear k2))
    go_ret2
    exact ⟨rfl, HK2.out⟩
end Go.Proofs.YtmjbaficdoehfaaDoor
