/-
  What was lent is written to; and the WALK of satchelref1.Text.
-/
import Derived.Test.YtnnbfdnkpohnfaaLend
import Derived.Maps.AppendAt
namespace Go.Proofs.Ytnnbfdnkpohnfaa
open Go.RowKit

theorem Lent.set {w : World} {B g cap : Nat} {ys : List Int} (h : Lent w B g cap ys) (j : Nat) (hj : j < ys.length) (u : Int) : Lent (w.setCell ⟨g, j, none⟩ (.int .u8 u)) B g cap (ys.set j u) := by
  unfold Lent OwnB at *
  rw [List.length_append] at *
  have h1 := (World.ownsRow.stored h j (.int .u8 u)).1
  rw [List.length_set]
  have e : ((ys ++ [165, 90, 165]).map (Value.int .u8)).set j (.int .u8 u) = (ys.set j u ++ [165, 90, 165]).map (Value.int .u8) := by
    rw [← List.map_set, List.set_append_left _ _ hj]
  rw [e] at h1
  exact h1
theorem Lent.frozen {w : World} {B g cap : Nat} {ys : List Int} (h : Lent w B g cap ys) (j : Nat) : w.frozen? ⟨g, j, none⟩ = false := by
  unfold Lent OwnB at h
  rw [List.length_append] at h
  exact World.ownsRow.frozenAt h j

theorem mid_set (zs ys : List Int) (k : Nat) (h : k < zs.length) (hl : ys.length = zs.length) : (zs.take k ++ ys.drop k).set k (zs[k]?.getD 0) = zs.take (k + 1) ++ ys.drop (k + 1) := by
  have hk : (zs.take k).length = k := by simp; omega
  rw [List.set_append_right _ _ (by omega), hk, Nat.sub_self, List.drop_eq_getElem_cons (show k < ys.length by omega), List.set_cons_zero, List.getElem?_eq_getElem h, List.take_succ_eq_append_getElem h, List.append_assoc]
  rfl

set_option maxHeartbeats 1000000 in
/-- satchelref1.Text: the length's shortest form, then the bytes, in new memory. -/
theorem RText_any (v : Value) (xs : List Int) (w : World) (h : BytesAt w v xs) (hm : xs.length ≤ 140737488351232) :
    Calls Try.prog 17 #[v] w fun e w' => ∃ u, e = .returned u ∧ OwnB w' w.heap.size u (varB xs.length ++ xs) ∧ Kept [] w w' := by
  obtain ⟨i0, hi, hz0, hz1, hz2⟩ := info_parts Try.info_u8
  have hmx : maxLen = 9223372036854775807 := rfl
  have hvar := RVar_any _ (xs.length : Int) w (by omega) (by omega) (Nat.le_refl _)
  have hvl := varB_len (xs.length : Int) (by omega) (by omega)
  have hwr : IntKind.u64.wrap (xs.length : Int) = xs.length := by rw [IntKind.wrap_u64]; omega
  obtain ⟨ao, cap, rfl, hc, hnil, hcell⟩ := h
  generalize hvs : varB (xs.length : Int) = vs at *
  clear hvs
  cases ao with
  | none =>
    obtain rfl : xs = [] := by
      by_cases hy : xs = []
      · exact hy
      · obtain ⟨b, off, hb, _⟩ := hcell hy; cases hb
    obtain rfl := hnil rfl
    clear hcell hnil
    go_enter Try.func17, Try.ntmps17
    go_wp2_with (first
      | (go_at_call 44; refine hvar.mono ?_; rintro e w1 ⟨u, rfl, hu, hk⟩; have HU : Hid (OwnB w1 w.heap.size u vs) := hu; clear hu)
      | (at_builtin; refine wpList_append_own_none rfl (.tmp 8) (.tmp 9) 22 rfl w.heap.size 5 i0 1 Try.underlying22 hi u vs.length (vs.map (Value.int .u8)) rfl HU.out rfl ?_))
    go_ret
    exact ⟨u, rfl, by rw [List.append_nil]; exact HU.out, hk⟩
  | some a =>
    have HN : Hid (∀ w1, Kept [] w w1 → ∀ j u, (xs.map (Value.int .u8))[j]? = some u → w1.cell? (a.add j) = some u) := by
      intro w1 hk j u hu
      simp only [List.getElem?_map, Option.map_eq_some_iff] at hu
      obtain ⟨z, hz, rfl⟩ := hu
      obtain ⟨b, off, hb, hh⟩ := hcell (by rintro rfl; simp at hz)
      cases hb
      rw [Addr.add_mid]
      exact hk.cell (hh j z hz) (by simp)
    clear hcell hnil
    obtain ⟨cs, hcs⟩ : ∃ cs, cs = xs.map (Value.int .u8) := ⟨_, rfl⟩
    rw [← hcs] at HN
    have hcl : cs.length = xs.length * 1 := by rw [hcs]; simp
    have hco : ∀ u ∈ cs, u.oneCell' = true := by rw [hcs]; exact map_oneCell _
    have HC : Hid (cs = xs.map (Value.int .u8)) := hcs
    clear hcs
    go_enter Try.func17, Try.ntmps17
    go_wp2_with (first
      | (go_at_call 44; refine hvar.mono ?_; rintro e w1 ⟨u, rfl, hu, hk⟩; have HU : Hid (OwnB w1 w.heap.size u vs) := hu; have hnews := HN.out w1 hk; have HK : Hid (Kept [] w w1) := hk; clear hu hk)
      | (at_builtin; refine wpList_append_own_at _ rfl (.tmp 8) (.tmp 9) 22 rfl w.heap.size 5 i0 (.int .u8 0) 1 1 Try.underlying22 hi hz0 hz1 hz2 rfl (by decide) u vs.length (vs.map (Value.int .u8)) rfl HU.out a xs.length cap cs rfl hcl hnews hco (by omega) (by omega) HK.out.size ?_; intro v' w2 ho' hgr hnl hat))
    go_ret
    refine ⟨v', rfl, ?_, HK.out.grown hgr (fun k hk => Or.inr (World.ownsRow.lt HU.out k hk).1)⟩
    unfold OwnB
    rw [List.length_append, List.map_append, ← HC.out]
    exact ho'
end Go.Proofs.Ytnnbfdnkpohnfaa
