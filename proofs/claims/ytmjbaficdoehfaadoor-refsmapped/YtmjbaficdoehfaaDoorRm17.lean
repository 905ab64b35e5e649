/-
  WALKS: satchellaw14's intact, untold: what is lent is as it was, the room behind it too.
-/
import Derived.Test.YtmjbaficdoehfaaDoorRm16
namespace Go.Proofs.YtmjbaficdoehfaaDoor
open Go.RowKit

set_option maxRecDepth 100000 in
set_option maxHeartbeats 4000000 in
theorem intact_any (ao : Option Addr) (cap : Nat) (l : Value) (rs : List RuleL) (w : World) (h1 : RulesAt w (.slice ao (rs.length + 1) cap) (rs ++ [markR])) (h2 : RulesAt w l rs) (hl : rs.length ≤ 100000) :
    Calls Tryd.prog 21 #[.slice ao rs.length cap, l] w fun e w' => e = .returned (.bool true) ∧ Kept [] w w' := by
  have h3 : RulesAt w (.slice ao rs.length cap) rs := by
    have h := h1.take (m := rs.length) (by simp)
    rwa [List.take_left' rfl] at h
  have hsame := sameRules_any _ _ rs w h3 h2
  obtain ⟨b, off, rfl, hrow⟩ := h1.at (k := rs.length) (r := markR) (by simp)
  obtain ⟨a2, c2, rfl, _, _⟩ := h2.form
  obtain ⟨_, _, he, hc, _⟩ := h1.form
  injection he with e1 e2 e3
  subst e1 e3
  clear e2
  rw [List.length_append] at hc
  have hcap : rs.length + 1 ≤ cap := hc
  have hue := Tryd.underlying37
  have hso : (Tryd.prog.info? 37).map (·.size) = some markR.row.length := Tryd.ruleSize
  have I0 : (0 : Int) ≤ (rs.length : Int) := by omega
  have I1 : (rs.length : Int) < ((rs.length + 1 : Nat) : Int) := by omega
  have HR : Hid (∀ W, Kept [] w W → W.rangeAt b (off + rs.length * 4) markR.row) := fun W k => range_kept hrow k (by simp)
  clear h1 h2 h3 hrow hc
  rw [markR_row] at HR
  have HCP : Hid (rs.length + 1 ≤ cap) := hcap
  have S0 : Hid (((rs.length : Int) + 1) = ((rs.length + 1 : Nat) : Int)) := by show ((rs.length : Int) + 1) = ((rs.length + 1 : Nat) : Int); omega
  go_enter Tryd.func21, Tryd.ntmps21
  go_wp2_with (refine wpList_upto rfl 22 4 (by kernel_rfl) (by kernel_rfl) (.tmp 6) (.tmp 9) rfl b off rs.length cap rfl (rs.length + 1) ((rs.length : Int) + 1) S0.out rfl HCP.out ?_; simp only [Act.put, List.setIfInBounds_toArray, List.set_cons_zero, List.set_cons_succ])
  go_at_call 16
  refine hsame.mono ?_
  rintro e w1 ⟨rfl, k1⟩
  have hr1 := HR.out w1 k1
  have c0 := hr1 0 _ rfl
  have c1 := hr1 1 _ rfl
  have c3 := hr1 2 _ rfl
  have c4 := hr1 3 _ rfl
  rw [Nat.add_zero] at c0
  have HK1 : Hid (Kept [] w w1) := k1
  clear k1
  go_wp2
  go_ret
  exact ⟨rfl, HK1.out⟩
set_option maxRecDepth 100000 in
set_option maxHeartbeats 4000000 in
theorem untold_any (ao : Option Addr) (cap : Nat) (l : Value) (L : List (List Int)) (w : World) (h1 : StrsAt w (.slice ao (L.length + 2) cap) (L ++ [markN, markN])) (h2 : StrsAt w l L) (hl : L.length ≤ 100000) :
    Calls Tryd.prog 22 #[.slice ao L.length cap, l] w fun e w' => e = .returned (.bool true) ∧ Kept [] w w' := by
  have h3 : StrsAt w (.slice ao L.length cap) L := by
    have h := h1.take (m := L.length) (by simp)
    rwa [List.take_left' rfl] at h
  have hsame := EqStrings_any _ _ L w h3 h2 hl
  obtain ⟨b, off, rfl, g1⟩ := h1.at (k := L.length) (p := markN) (by simp)
  obtain ⟨b', off', hb, g2⟩ := h1.at (k := L.length + 1) (p := markN) (by simp)
  cases hb
  obtain ⟨a2, c2, rfl, _, _⟩ := h2
  obtain ⟨_, _, he, hc, _⟩ := h1
  injection he with e1 e2 e3
  subst e1 e3
  clear e2
  rw [List.length_append] at hc
  have hcap : L.length + 2 ≤ cap := hc
  rw [markN_str] at g1 g2
  have HR : Hid (∀ W, Kept [] w W → W.cell? ⟨b, off + L.length, none⟩ = some (.string ⟨#[109, 97, 114, 107]⟩) ∧ W.cell? ⟨b, off + (L.length + 1), none⟩ = some (.string ⟨#[109, 97, 114, 107]⟩)) := fun W k => ⟨k.cell g1 (by simp), k.cell g2 (by simp)⟩
  have I0 : (0 : Int) ≤ (L.length : Int) := by omega
  have I1 : (L.length : Int) < ((L.length + 2 : Nat) : Int) := by omega
  have I2 : (0 : Int) ≤ (L.length : Int) + 1 := by omega
  have I3 : (L.length : Int) + 1 < ((L.length + 2 : Nat) : Int) := by omega
  have HCP : Hid (L.length + 2 ≤ cap) := hcap
  have S0 : Hid (((L.length : Int) + 2) = ((L.length + 2 : Nat) : Int)) := by show ((L.length : Int) + 2) = ((L.length + 2 : Nat) : Int); omega
  clear h3 hc g1 g2
  go_enter Tryd.func22, Tryd.ntmps22
  go_wp2_with (refine wpList_upto rfl 23 1 (by kernel_rfl) (by kernel_rfl) (.tmp 6) (.tmp 9) rfl b off L.length cap rfl (L.length + 2) ((L.length : Int) + 2) S0.out rfl HCP.out ?_; simp only [Act.put, List.setIfInBounds_toArray, List.set_cons_zero, List.set_cons_succ])
  go_at_call 39
  refine hsame.mono ?_
  rintro e w1 ⟨rfl, k1⟩
  obtain ⟨g1, g2⟩ := HR.out w1 k1
  have HK1 : Hid (Kept [] w w1) := k1
  clear k1
  go_wp2
  go_ret
  exact ⟨rfl, HK1.out⟩
end Go.Proofs.YtmjbaficdoehfaaDoor
