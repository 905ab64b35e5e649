/-
  WALKS: satchellaw14's rules, texts.
-/
import Derived.Test.YtmjbaficdoehfaaDoorRm14
namespace Go.Proofs.YtmjbaficdoehfaaDoor
open Go.RowKit

theorem wpList_build_k {ops : Array Oper} {rest : List Oper} {o : Oper} {a : Act} {w : World} {Q : Exit → Act → World → Prop} (hgd : o.guard = none) {t e : TypeId} {z : List Value} {k bytes : Nat} (hT : Tryd.prog.underlying t = some (.slice e)) (hinfo : (Tryd.prog.info? e).map (fun i => (i.zero, i.size, i.bytes)) = some (some (.agg z.toArray), k, bytes)) (hk : 0 < k) (hk2 : k ≤ 1000)
    (x : Operand) (ho : o.op = .buildSlice t 1 #[(0, x)]) (us : List Value) (hx : a.eval x = .agg us.toArray) (hul : us.length = k)
    (h : wpList Tryd.prog ops Q rest (a.put o.dst (.slice (some ⟨w.heap.size, 0, none⟩) 1 1)) (w.alloc (.cells us.toArray e))) : wpList Tryd.prog ops Q (o :: rest) a w := by
  refine wpList_plain hgd fun K hK => ?_
  have hr := run_build_k hT hinfo hk hk2 us hul w
  unfold Oper.wp execOp
  simp only [ho, Sem.run_bind, Sem.run_pure, Result.andThen_ok, List.map_toArray, List.map_cons, List.map_nil, hx, hr]
  exact hK _ _ h
def markN : List Int := [109, 97, 114, 107]
def markR : RuleL := ⟨[42], [109, 97, 114, 107, 42], false, false⟩
theorem markR_row : markR.row = [.string ⟨#[42]⟩, .string ⟨#[109, 97, 114, 107, 42]⟩, .bool false, .bool false] := by kernel_rfl
theorem markN_str : strOfNums markN = ⟨#[109, 97, 114, 107]⟩ := by kernel_rfl
theorem Tryd.info_rule : (Tryd.prog.info? 37).map (fun i => (i.zero, i.size, i.bytes)) = some (some (.agg [Value.string ⟨#[]⟩, .string ⟨#[]⟩, .bool false, .bool false].toArray), 4, 40) := by kernel_rfl
theorem Tryd.built_mark : Tryd.prog.built 37 [(0, .string ⟨#[42]⟩), (1, .string ⟨#[109, 97, 114, 107, 42]⟩)] = some #[.string ⟨#[42]⟩, .string ⟨#[109, 97, 114, 107, 42]⟩, .bool false, .bool false] := by kernel_rfl
theorem rows_len (rs : List RuleL) : ∀ r, r ∈ rs.map RuleL.row → r.length = 4 := fun r hr => by
  obtain ⟨x, _, rfl⟩ := List.mem_map.1 hr
  rfl
theorem rows_one (rs : List RuleL) : ∀ r, r ∈ rs.map RuleL.row → ∀ u, u ∈ r → u.oneCell' = true := fun r hr u hu => by
  obtain ⟨x, _, rfl⟩ := List.mem_map.1 hr
  unfold RuleL.row at hu
  rcases List.mem_cons.1 hu with rfl | hu
  · rfl
  rcases List.mem_cons.1 hu with rfl | hu
  · rfl
  rcases List.mem_cons.1 hu with rfl | hu
  · rfl
  rcases List.mem_cons.1 hu with rfl | hu
  · rfl
  cases hu
theorem row_at_new (w : World) (us : List Value) (e : TypeId) (k : Nat) : RowsAt (w.alloc (.cells us.toArray e)) (.slice (some ⟨w.heap.size, 0, none⟩) 1 1) k [us] := by
  refine ⟨_, 1, rfl, by simp, fun e => by simp at e, by simp, fun _ => ⟨_, 0, rfl, fun i cs hi j u hj => ?_⟩⟩
  rw [cell_of_row _ _ _ _ _ _ (heap_alloc_new w _)]
  match i with
  | 0 => simp at hi; subst hi; simpa using hj
  | i + 1 => simp at hi
set_option maxRecDepth 100000 in
set_option maxHeartbeats 4000000 in
theorem rules_any (v : Value) (rs : List RuleL) (w : World) (hv : RulesAt w v rs) (hl : rs.length ≤ 100000) :
    Calls Tryd.prog 12 #[v] w fun e w' => ∃ ao cap, e = .returned (.slice ao rs.length cap) ∧ rs.length + 1 ≤ cap ∧ RulesAt w' (.slice ao (rs.length + 1) cap) (rs ++ [markR]) ∧ Kept [] w w' := by
  have HV : Hid (RulesAt w v rs) := hv
  obtain ⟨va, vc, rfl, _, _⟩ := hv.form
  have hlm : (rs.map RuleL.row).length = rs.length := List.length_map _
  have HNil : Hid (w.ownsRow w.heap.size 37 4 (.slice none 0 0) 0 []) := World.ownsRow_nil _ _ _ _
  have HFin : Hid (∀ (W : World) (u : Value), W.ownsRow w.heap.size 37 4 u (rs.length + 1) ((rs.map RuleL.row).flatten ++ markR.row) → ∃ ao cap, u = .slice ao (rs.length + 1) cap ∧ rs.length + 1 ≤ cap ∧ RulesAt W u (rs ++ [markR])) := fun W u h => by
    have h2 : W.ownsRow w.heap.size 37 4 u ((rs ++ [markR]).map RuleL.row).length ((rs ++ [markR]).map RuleL.row).flatten := by
      rw [List.length_map, List.length_append, List.map_append, List.flatten_append]
      simpa using h
    have h3 : RulesAt W u (rs ++ [markR]) := ownsK_rows (by decide) (rows_len _) h2 (by rw [List.length_map, List.length_append]; simp; omega)
    obtain ⟨ao, cap, he, hc, _⟩ := h3.form
    rw [List.length_append] at he hc
    exact ⟨ao, cap, he, hc, h3⟩
  clear hv
  go_enter Tryd.func12, Tryd.ntmps12
  go_wp2_with (first
    | (at_builtin; refine wpList_append_rows rfl (.tmp 4) (.tmp 5) 22 37 _ 4 40 Tryd.underlying22 Tryd.info_rule rfl (by decide) rfl rfl HNil.out rfl HV.out (rows_len _) (rows_one _) (by omega) (by decide) (Nat.le_refl _) ?_
       intro v2 w2 h2 k2
       rw [List.nil_append, Nat.zero_add, hlm] at h2
       have HO2 : Hid (w2.ownsRow w.heap.size 37 4 v2 rs.length (rs.map RuleL.row).flatten) := h2
       have HK2 : Hid (Kept [] w w2) := k2
       clear h2 k2)
    | (refine wpList_build_some (by rfl) 37 _ (by rfl) #[.string ⟨#[42]⟩, .string ⟨#[109, 97, 114, 107, 42]⟩, .bool false, .bool false] (by simp; exact Tryd.built_mark) ?_)
    | (refine wpList_build_k (by rfl) Tryd.underlying22 Tryd.info_rule (by decide) (by decide) _ (by rfl) [.string ⟨#[42]⟩, .string ⟨#[109, 97, 114, 107, 42]⟩, .bool false, .bool false] (by rfl) (by rfl) ?_)
    | (at_builtin; refine wpList_append_rows rfl (.tmp 7) (.tmp 9) 22 37 _ 4 40 Tryd.underlying22 Tryd.info_rule rfl (by decide) rfl (B := w.heap.size) (n := rs.length) (xs := (rs.map RuleL.row).flatten) rfl (ownsK_on' HO2.out ((Kept.refl [] w2).alloc _)) (rows := [markR.row]) rfl (by rw [markR_row]; exact row_at_new _ _ _ _) (by rw [markR_row]; simp) (by rw [markR_row]; simp [Value.oneCell']) (by simp; omega) (by decide) (Nat.le_trans HK2.out.size (by simp)) ?_
       intro v3 w3 h3 k3
       obtain ⟨ao, cap, rfl, hcap, HR3⟩ := HFin.out w3 v3 (by simpa using h3)
       have HR3' : Hid (RulesAt w3 (.slice ao (rs.length + 1) cap) (rs ++ [markR])) := HR3
       have HK3 : Hid (Kept v2.ownBlock.toList (w2.alloc (.cells markR.row.toArray 37)) w3) := k3
       have HCP : Hid (rs.length + 1 ≤ cap) := hcap
       clear h3 k3 HR3))
  go_ret
  refine ⟨ao, cap, rfl, HCP.out, HR3'.out, (HK2.out.alloc _).trans HK3.out fun y hy => Or.inr ?_⟩
  exact (World.ownsRow.lt HO2.out y (by simpa using hy)).1

theorem StrsAt.rows {w : World} {v : Value} {L : List (List Int)} (h : StrsAt w v L) (hl : L.length ≤ 100000) : RowsAt w v 1 (L.map fun p => [Value.string (strOfNums p)]) := by
  obtain ⟨ao, cap, rfl, h1, h0, hc⟩ := h
  refine ⟨ao, cap, by rw [List.length_map], by rw [List.length_map]; exact h1, h0, by rw [List.length_map]; omega, fun hne => ?_⟩
  obtain ⟨b, off, hb, hh⟩ := hc (fun e => hne (by rw [e]; rfl))
  refine ⟨b, off, hb, fun i cs hi j u hj => ?_⟩
  rw [List.getElem?_map] at hi
  obtain ⟨p, hp, rfl⟩ := Option.map_eq_some_iff.1 hi
  cases j with
  | zero =>
    simp only [List.getElem?_cons_zero, Option.some.injEq] at hj
    subst hj
    rw [Nat.mul_one, Nat.add_zero]
    exact hh i p hp
  | succ j => simp at hj
theorem strs_of_rows {w : World} {v : Value} {L : List (List Int)} (h : RowsAt w v 1 (L.map fun p => [Value.string (strOfNums p)])) : StrsAt w v L := by
  obtain ⟨ao, cap, rfl, h1, h0, _, hc⟩ := h
  rw [List.length_map] at *
  refine ⟨ao, cap, rfl, h1, h0, fun hne => ?_⟩
  obtain ⟨b, off, hb, hh⟩ := hc (fun e => hne (by simpa using e))
  refine ⟨b, off, hb, fun i p hi => ?_⟩
  have h2 := hh i [.string (strOfNums p)] (by rw [List.getElem?_map, hi]; rfl) 0 _ rfl
  rwa [Nat.mul_one, Nat.add_zero] at h2
theorem strs_len (L : List (List Int)) : ∀ r, r ∈ (L.map fun p => [Value.string (strOfNums p)]) → r.length = 1 := fun r hr => by
  obtain ⟨x, _, rfl⟩ := List.mem_map.1 hr
  rfl
theorem strs_one (L : List (List Int)) : ∀ r, r ∈ (L.map fun p => [Value.string (strOfNums p)]) → ∀ u, u ∈ r → u.oneCell' = true := fun r hr u hu => by
  obtain ⟨x, _, rfl⟩ := List.mem_map.1 hr
  obtain rfl := List.mem_singleton.1 hu
  rfl
theorem two_at_new (w : World) (a b : Value) (e : TypeId) : RowsAt (w.alloc (.cells #[a, b] e)) (.slice (some ⟨w.heap.size, 0, none⟩) 2 2) 1 [[a], [b]] := by
  refine ⟨_, 2, rfl, by simp, fun e => by simp at e, by simp, fun _ => ⟨_, 0, rfl, fun i cs hi j u hj => ?_⟩⟩
  rw [cell_of_row _ _ _ _ _ _ (heap_alloc_new w _)]
  match i, j with
  | 0, 0 => simp at hi; subst hi; simpa using hj
  | 1, 0 => simp at hi; subst hi; simpa using hj
  | 0, j + 1 => simp at hi; subst hi; simp at hj
  | 1, j + 1 => simp at hi; subst hi; simp at hj
  | i + 2, j => simp at hi
set_option maxRecDepth 100000 in
set_option maxHeartbeats 4000000 in
theorem texts_any (v : Value) (L : List (List Int)) (w : World) (hv : StrsAt w v L) (hl : L.length ≤ 100000) :
    Calls Tryd.prog 19 #[v] w fun e w' => ∃ ao cap, e = .returned (.slice ao L.length cap) ∧ L.length + 2 ≤ cap ∧ StrsAt w' (.slice ao (L.length + 2) cap) (L ++ [markN, markN]) ∧ Kept [] w w' := by
  have HV : Hid (RowsAt w v 1 (L.map fun p => [Value.string (strOfNums p)])) := hv.rows hl
  obtain ⟨va, vc, rfl, _, _⟩ := hv
  have hlm : (L.map fun p => [Value.string (strOfNums p)]).length = L.length := List.length_map _
  have HNil : Hid (w.ownsRow w.heap.size 9 1 (.slice none 0 0) 0 []) := World.ownsRow_nil _ _ _ _
  have HFin : Hid (∀ (W : World) (u : Value), W.ownsRow w.heap.size 9 1 u (L.length + 2) ((L.map fun p => [Value.string (strOfNums p)]).flatten ++ [[Value.string (strOfNums markN)], [Value.string (strOfNums markN)]].flatten) → ∃ ao cap, u = .slice ao (L.length + 2) cap ∧ L.length + 2 ≤ cap ∧ StrsAt W u (L ++ [markN, markN])) := fun W u h => by
    have h2 : W.ownsRow w.heap.size 9 1 u ((L ++ [markN, markN]).map fun p => [Value.string (strOfNums p)]).length ((L ++ [markN, markN]).map fun p => [Value.string (strOfNums p)]).flatten := by
      rw [List.length_map, List.length_append, List.map_append, List.flatten_append]
      exact h
    have h3 : StrsAt W u (L ++ [markN, markN]) := strs_of_rows (ownsK_rows (by decide) (strs_len _) h2 (by rw [List.length_map, List.length_append]; simp; omega))
    have h4 := h3
    obtain ⟨ao, cap, he, hc, _⟩ := h4
    rw [List.length_append] at he hc
    exact ⟨ao, cap, he, hc, h3⟩
  rw [markN_str] at HFin
  go_enter Tryd.func19, Tryd.ntmps19
  go_wp2_with (first
    | (at_builtin; refine wpList_append_rows rfl (.tmp 4) (.tmp 5) 23 9 _ 1 16 Tryd.underlying23 Tryd.info_str rfl (by decide) rfl rfl HNil.out rfl HV.out (strs_len _) (strs_one _) (by omega) (by decide) (Nat.le_refl _) ?_
       intro v2 w2 h2 k2
       rw [List.nil_append, Nat.zero_add, hlm] at h2
       have HO2 : Hid (w2.ownsRow w.heap.size 9 1 v2 L.length (L.map fun p => [Value.string (strOfNums p)]).flatten) := h2
       have HK2 : Hid (Kept [] w w2) := k2
       clear h2 k2)
    | (at_builtin; refine wpList_append_rows rfl (.tmp 7) (.tmp 8) 23 9 _ 1 16 Tryd.underlying23 Tryd.info_str rfl (by decide) rfl (B := w.heap.size) (n := L.length) (xs := (L.map fun p => [Value.string (strOfNums p)]).flatten) rfl (ownsK_on' HO2.out ((Kept.refl [] w2).alloc _)) (rows := [[Value.string ⟨#[109, 97, 114, 107]⟩], [Value.string ⟨#[109, 97, 114, 107]⟩]]) rfl (two_at_new _ _ _ _) (by simp) (by simp [Value.oneCell']) (by simp; omega) (by decide) (Nat.le_trans HK2.out.size (by simp)) ?_
       intro v3 w3 h3 k3
       obtain ⟨ao, cap, rfl, hcap, HR3⟩ := HFin.out w3 v3 h3
       have HR3' : Hid (StrsAt w3 (.slice ao (L.length + 2) cap) (L ++ [markN, markN])) := HR3
       have HK3 : Hid (Kept v2.ownBlock.toList (w2.alloc (.cells #[.string ⟨#[109, 97, 114, 107]⟩, .string ⟨#[109, 97, 114, 107]⟩] 9)) w3) := k3
       have HCP : Hid (L.length + 2 ≤ cap) := hcap
       clear h3 k3 HR3))
  go_ret
  refine ⟨ao, cap, rfl, HCP.out, HR3'.out, (HK2.out.alloc _).trans HK3.out fun y hy => Or.inr ?_⟩
  exact (World.ownsRow.lt HO2.out y (by simpa using hy)).1
end Go.Proofs.YtmjbaficdoehfaaDoor
