/-
  WALK: satchellaw14.rules once more: its list is memory of its own.
-/
import Derived.Test.YtmjbaficdoehfaaDoorRm15
import Derived.Test.YtmjbaficdoehfaaDoorRm6
import Derived.Test.YtmjbaficdoehfaaDoorRb0
namespace Go.Proofs.YtmjbaficdoehfaaDoor
open Go.RowKit

theorem owns_less {w : World} {B : Nat} {e : TypeId} {k n : Nat} {ao : Option Addr} {cap : Nat} {xs ys : List Value} (h : w.ownsRow B e k (.slice ao (n + 1) cap) (n + 1) (xs ++ ys)) (hx : xs.length = n * k) : w.ownsRow B e k (.slice ao n cap) n xs := by
  obtain ⟨hl, h | ⟨g, cap', cur, hv, hB, hh, hc, hm, hcs, ht⟩⟩ := h
  · obtain ⟨_, h0⟩ := h
    omega
  · injection hv with e1 e2 e3
    subst e1 e3
    refine ⟨hx, Or.inr ⟨g, cap, cur, rfl, hB, hh, by omega, hm, hcs, ?_⟩⟩
    have h2 := congrArg (List.take (n * k)) ht
    rw [List.take_take, Nat.min_eq_left (Nat.mul_le_mul_right _ (by omega)), List.take_left' hx] at h2
    exact h2
theorem flat_rules (rs : List RuleL) : ((rs.map RuleL.row).flatten).length = rs.length * 4 := by
  induction rs with
  | nil => rfl
  | cons r l ih =>
    rw [List.map_cons, List.flatten_cons, List.length_append, ih, List.length_cons]
    have : r.row.length = 4 := rfl
    omega
set_option maxRecDepth 100000 in
set_option maxHeartbeats 4000000 in
theorem rules_own (v : Value) (rs : List RuleL) (w : World) (hv : RulesAt w v rs) (hl : rs.length ≤ 100000) :
    Calls Tryd.prog 12 #[v] w fun e w' => ∃ ao cap, e = .returned (.slice ao rs.length cap) ∧ rs.length + 1 ≤ cap ∧ RulesAt w' (.slice ao (rs.length + 1) cap) (rs ++ [markR]) ∧ w'.ownsRow w.heap.size 37 4 (.slice ao rs.length cap) rs.length (rs.map RuleL.row).flatten ∧ Kept [] w w' := by
  have HV : Hid (RulesAt w v rs) := hv
  obtain ⟨va, vc, rfl, _, _⟩ := hv.form
  have hlm : (rs.map RuleL.row).length = rs.length := List.length_map _
  have HNil : Hid (w.ownsRow w.heap.size 37 4 (.slice none 0 0) 0 []) := World.ownsRow_nil _ _ _ _
  have HFin : Hid (∀ (W : World) (u : Value), W.ownsRow w.heap.size 37 4 u (rs.length + 1) ((rs.map RuleL.row).flatten ++ markR.row) → ∃ ao cap, u = .slice ao (rs.length + 1) cap ∧ rs.length + 1 ≤ cap ∧ RulesAt W u (rs ++ [markR])) := fun W u h => by
    have h2 : W.ownsRow w.heap.size 37 4 u ((rs ++ [markR]).map RuleL.row).length ((rs ++ [markR]).map RuleL.row).flatten := by
      rw [List.length_map, List.length_append, List.map_append, List.flatten_append]
      simpa using h
    have h3 : RulesAt W u (rs ++ [markR]) := ownsK_rows (by decide) (rows_len _) h2 (by rw [List.length_map, List.length_append]; simp; omega)
    obtain ⟨ao, cap, he, hc, _⟩ := h3.form
    rw [List.length_append] at he hc
    exact ⟨ao, cap, he, hc, h3⟩
  clear hv
  go_enter Tryd.func12, Tryd.ntmps12
  go_wp2_with (first
    | (at_builtin; refine wpList_append_rows rfl (.tmp 4) (.tmp 5) 22 37 _ 4 40 Tryd.underlying22 Tryd.info_rule rfl (by decide) rfl rfl HNil.out rfl HV.out (rows_len _) (rows_one _) (by omega) (by decide) (Nat.le_refl _) ?_
       intro v2 w2 h2 k2
       rw [List.nil_append, Nat.zero_add, hlm] at h2
       have HO2 : Hid (w2.ownsRow w.heap.size 37 4 v2 rs.length (rs.map RuleL.row).flatten) := h2
       have HK2 : Hid (Kept [] w w2) := k2
       clear h2 k2)
    | (refine wpList_build_some (by rfl) 37 _ (by rfl) #[.string ⟨#[42]⟩, .string ⟨#[109, 97, 114, 107, 42]⟩, .bool false, .bool false] (by simp; exact Tryd.built_mark) ?_)
    | (refine wpList_build_k (by rfl) Tryd.underlying22 Tryd.info_rule (by decide) (by decide) _ (by rfl) [.string ⟨#[42]⟩, .string ⟨#[109, 97, 114, 107, 42]⟩, .bool false, .bool false] (by rfl) (by rfl) ?_)
    | (at_builtin; refine wpList_append_rows rfl (.tmp 7) (.tmp 9) 22 37 _ 4 40 Tryd.underlying22 Tryd.info_rule rfl (by decide) rfl (B := w.heap.size) (n := rs.length) (xs := (rs.map RuleL.row).flatten) rfl (ownsK_on' HO2.out ((Kept.refl [] w2).alloc _)) (rows := [markR.row]) rfl (by rw [markR_row]; exact row_at_new _ _ _ _) (by rw [markR_row]; simp) (by rw [markR_row]; simp [Value.oneCell']) (by simp; omega) (by decide) (Nat.le_trans HK2.out.size (by simp)) ?_
       intro v3 w3 h3 k3
       obtain ⟨ao, cap, rfl, hcap, HR3⟩ := HFin.out w3 v3 (by simpa using h3)
       have HR3' : Hid (RulesAt w3 (.slice ao (rs.length + 1) cap) (rs ++ [markR])) := HR3
       have HK3 : Hid (Kept v2.ownBlock.toList (w2.alloc (.cells markR.row.toArray 37)) w3) := k3
       have HCP : Hid (rs.length + 1 ≤ cap) := hcap
       have HOW : Hid (w3.ownsRow w.heap.size 37 4 (.slice ao rs.length cap) rs.length (rs.map RuleL.row).flatten) := owns_less (by simpa using h3) (flat_rules rs)
       clear h3 k3 HR3))
  go_ret
  refine ⟨ao, cap, rfl, HCP.out, HR3'.out, HOW.out, (HK2.out.alloc _).trans HK3.out fun y hy => Or.inr ?_⟩
  exact (World.ownsRow.lt HO2.out y (by simpa using hy)).1
theorem unmap_octs {rs : List RuleL} (hg : ∀ r, r ∈ rs → r.Good) {t n : List Int} (ho : Octs t) (h : unmapL rs t = some n) : Octs n ∧ n.length ≤ 255 := by
  unfold unmapL at h
  obtain ⟨l, r, l2, e, hr, _⟩ := List.findSome?_eq_some_iff.1 h
  rw [unrule_carry] at hr
  split at hr
  · cases hr
  · cases hc : carryL r.dst r.src t with
    | none => rw [hc] at hr; cases hr
    | some m =>
      rw [hc] at hr
      simp only at hr
      split at hr
      · injection hr with hr
        subst hr
        exact carry_octs hc (hg r (by rw [e]; simp)).s ho
      · cases hr
end Go.Proofs.YtmjbaficdoehfaaDoor
