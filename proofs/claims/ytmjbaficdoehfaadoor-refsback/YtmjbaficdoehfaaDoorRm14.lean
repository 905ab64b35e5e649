/-
  WALKS: satchellaw14's few, rules, texts, sameRules, intact, untold.
-/
import Derived.Test.YtmjbaficdoehfaaDoorRm12
import Derived.Test.YtmjbaficdoehfaaDoorAppR
namespace Go.Proofs.YtmjbaficdoehfaaDoor
open Go.RowKit

def BxM (W : World) (n : Nat) (r v : Value) : Prop := W.heap[n]? = some (.cells #[r, v] 25 (0, 0))
theorem BxM.c0 {W : World} {n : Nat} {r v : Value} (h : BxM W n r v) : W.cell? ⟨n, 0, none⟩ = some r := by rw [cell_of_row _ _ _ _ _ _ h]; rfl
theorem BxM.c1 {W : World} {n : Nat} {r v : Value} (h : BxM W n r v) : W.cell? ⟨n, 1, none⟩ = some v := by rw [cell_of_row _ _ _ _ _ _ h]; rfl
theorem BxM.s0 {W : World} {n : Nat} {r v : Value} (h : BxM W n r v) (u : Value) : BxM (W.setCell ⟨n, 0, none⟩ u) n u v := by
  unfold BxM
  rw [heap_setCell_same W n 0 _ _ u h]
  rfl
theorem BxM.s1 {W : World} {n : Nat} {r v : Value} (h : BxM W n r v) (u : Value) : BxM (W.setCell ⟨n, 1, none⟩ u) n r u := by
  unfold BxM
  rw [heap_setCell_same W n 1 _ _ u h]
  rfl
theorem RowsAt.take {w : World} {ao : Option Addr} {n cap k : Nat} {rows : List (List Value)} {m : Nat} (h : RowsAt w (.slice ao n cap) k rows) (hm : m ≤ rows.length) : RowsAt w (.slice ao m cap) k (rows.take m) := by
  obtain ⟨ao', cap', he, h1, h0, h2, hc⟩ := h
  injection he with e1 e2 e3
  subst e1 e3
  refine ⟨ao, cap, by rw [List.length_take, Nat.min_eq_left hm], by rw [List.length_take]; omega, h0, by rw [List.length_take]; omega, fun hne => ?_⟩
  obtain ⟨b, off, hb, hh⟩ := hc (fun e => hne (by rw [e]; simp))
  refine ⟨b, off, hb, fun i cs hi => hh i cs ?_⟩
  by_cases him : i < m
  · rwa [List.getElem?_take_of_lt him] at hi
  · rw [List.getElem?_eq_none (by rw [List.length_take]; omega)] at hi
    cases hi
theorem RulesAt.take {w : World} {ao : Option Addr} {n cap : Nat} {rs : List RuleL} {m : Nat} (h : RulesAt w (.slice ao n cap) rs) (hm : m ≤ rs.length) : RulesAt w (.slice ao m cap) (rs.take m) := by
  have h2 := RowsAt.take h (m := m) (by rw [List.length_map]; exact hm)
  rwa [← List.map_take] at h2
theorem StrsAt.take {w : World} {ao : Option Addr} {n cap : Nat} {L : List (List Int)} {m : Nat} (h : StrsAt w (.slice ao n cap) L) (hm : m ≤ L.length) : StrsAt w (.slice ao m cap) (L.take m) := by
  obtain ⟨ao', cap', he, h1, h0, hc⟩ := h
  injection he with e1 e2 e3
  subst e1 e3
  refine ⟨ao, cap, by rw [List.length_take, Nat.min_eq_left hm], by rw [List.length_take]; omega, h0, fun hne => ?_⟩
  obtain ⟨b, off, hb, hh⟩ := hc (fun e => hne (by rw [e]; simp))
  refine ⟨b, off, hb, fun i p hi => hh i p ?_⟩
  by_cases him : i < m
  · rwa [List.getElem?_take_of_lt him] at hi
  · rw [List.getElem?_eq_none (by rw [List.length_take]; omega)] at hi
    cases hi

theorem alloc_two (w : World) (a b : Obj) : ((w.alloc a).alloc b).heap[w.heap.size + 1]? = some b := by
  have h := heap_alloc_new (w.alloc a) b
  have e : (w.alloc a).heap.size = w.heap.size + 1 := by simp
  rwa [e] at h
theorem set_other (W : World) (n i m : Nat) (u : Value) (h : m ≠ n) : (W.setCell ⟨n, i, none⟩ u).heap[m]? = W.heap[m]? := by
  unfold World.setCell
  show (W.heap.modify n _)[m]? = _
  rw [Array.getElem?_modify, if_neg (fun e => h e.symm)]
theorem kept_cellA {w W : World} {n : Nat} (k : Kept [] w W) (hn : w.heap.size ≤ n) (i : Nat) (u : Value) : Kept [] w (W.setCell ⟨n, i, none⟩ u) := by
  refine k.trans (S' := [n]) ⟨rfl, rfl, rfl, by simp, fun m _ hm => set_other W n i m u (by simpa using hm)⟩ (fun y hy => Or.inr ?_)
  obtain rfl : y = n := by simpa using hy
  exact hn
set_option maxRecDepth 100000 in
set_option maxHeartbeats 4000000 in
theorem few_any (rv nv : Value) (rs : List RuleL) (L : List (List Int)) (w : World) (hr : RulesAt w rv rs) (hn : StrsAt w nv L) :
    Calls Tryd.prog 6 #[.agg #[rv, nv]] w fun e w' => ∃ rv' nv', e = .returned (.agg #[rv', nv']) ∧ (∀ W, RulesAt W rv rs → RulesAt W rv' (rs.take 64)) ∧ (∀ W, StrsAt W nv L → StrsAt W nv' (L.take 200)) ∧ Kept [] w w' := by
  have HR : Hid (RulesAt w rv rs) := hr
  have HN : Hid (StrsAt w nv L) := hn
  obtain ⟨ra, rc, rfl, hrc, hrl⟩ := hr.form
  obtain ⟨na, nc, rfl, hnc, _⟩ := hn
  have hun := Tryd.underlying25
  have hzs : (Tryd.prog.info? 25).map (·.size) = some 2 := by kernel_rfl
  have HB : Hid (∀ o, BxM ((w.alloc (.cells #[.slice ra rs.length rc, .slice na L.length nc] 25)).alloc o) w.heap.size (.slice ra rs.length rc) (.slice na L.length nc)) := fun o => by
    have h := heap_alloc_new w (.cells #[.slice ra rs.length rc, .slice na L.length nc] 25)
    exact ((Kept.refl [] _).alloc o).heap h (by simp)
  clear hr
  have HK : Hid (Kept [] w ((w.alloc (.cells #[.slice ra rs.length rc, .slice na L.length nc] 25)).alloc (.cells #[.slice none 0 0, .slice none 0 0] 25))) := ((Kept.refl [] w).alloc _).alloc _
  have hz0 : ((w.alloc (.cells #[.slice ra rs.length rc, .slice na L.length nc] 25)).alloc (.cells #[.slice none 0 0, .slice none 0 0] 25)).heap[w.heap.size + 1]? = some (.cells #[.slice none 0 0, .slice none 0 0] 25) := by
    have h := heap_alloc_new (w.alloc (.cells #[.slice ra rs.length rc, .slice na L.length nc] 25)) (.cells #[.slice none 0 0, .slice none 0 0] 25)
    simpa using h
  have HZ : Hid _ := hz0
  clear hz0
  have HK : Hid (Kept [] w ((w.alloc (.cells #[.slice ra rs.length rc, .slice na L.length nc] 25)).alloc (.cells #[.slice none 0 0, .slice none 0 0] 25))) := ((Kept.refl [] w).alloc _).alloc _
  have hz0 : ((w.alloc (.cells #[.slice ra rs.length rc, .slice na L.length nc] 25)).alloc (.cells #[.slice none 0 0, .slice none 0 0] 25)).heap[w.heap.size + 1]? = some (.cells #[.slice none 0 0, .slice none 0 0] 25) := by
    have h := heap_alloc_new (w.alloc (.cells #[.slice ra rs.length rc, .slice na L.length nc] 25)) (.cells #[.slice none 0 0, .slice none 0 0] 25)
    simpa using h
  have HZ : Hid _ := hz0
  clear hz0
  by_cases hA : rs.length ≤ 64
  · have t0 : decide ((64 : Int) < (rs.length : Int)) = false := by simp; omega
    by_cases hB : L.length ≤ 200
    · have t1 : decide ((200 : Int) < (L.length : Int)) = false := by simp; omega
      have b0 := HB.out (.cells #[.slice none 0 0, .slice none 0 0] 25)
      have c0 := b0.c0
      have c1 := b0.c1
      have hq : Kept [] w ((w.alloc (.cells #[.slice ra rs.length rc, .slice na L.length nc] 25)).alloc (.cells #[.slice none 0 0, .slice none 0 0] 25)) := HK.out
      have hy : ((w.alloc (.cells #[.slice ra rs.length rc, .slice na L.length nc] 25)).alloc (.cells #[.slice none 0 0, .slice none 0 0] 25)).heap[w.heap.size + 1]? = some (.cells #[.slice none 0 0, .slice none 0 0] 25) := HZ.out
      have HX : Hid (((w.alloc (.cells #[.slice ra rs.length rc, .slice na L.length nc] 25)).alloc (.cells #[.slice none 0 0, .slice none 0 0] 25)).heap[w.heap.size]? = some (.cells #[.slice ra rs.length rc, .slice na L.length nc] 25 (0, 0))) := b0
      have HQ : Hid (Kept [] w ((w.alloc (.cells #[.slice ra rs.length rc, .slice na L.length nc] 25)).alloc (.cells #[.slice none 0 0, .slice none 0 0] 25))) := hq
      have HY : Hid (((w.alloc (.cells #[.slice ra rs.length rc, .slice na L.length nc] 25)).alloc (.cells #[.slice none 0 0, .slice none 0 0] 25)).heap[w.heap.size + 1]? = some (.cells #[.slice none 0 0, .slice none 0 0] 25)) := hy
      clear b0   hq hy HB HK HZ
      go_enter Tryd.func6, Tryd.ntmps6
      go_wp2_with (first
        | (refine wpList_load_row (by rfl) 25 (.tmp 1) (by rfl) w.heap.size (by rfl) 25 _ (0, 0) _ HX.out hun rfl hzs ?_)
        | (refine wpList_store_row (by rfl) 25 (.tmp 2) (.tmp 19) (by rfl) (w.heap.size + 1) _ (by rfl) (by rfl) 25 _ HY.out hzs (by rfl) (by rfl) ?_))
      refine bodyPost_ret (v := .agg #[.slice ra rs.length rc, .slice na L.length nc]) ?_ rfl ⟨_, _, rfl, ?_, ?_, ?_⟩
      · rw [results_cell1 rfl]
        have hld := run_loadVar_row (P := Tryd.prog) _ (w.heap.size + 1) 25 25 #[.slice ra rs.length rc, .slice na L.length nc] (0, 0) _ (alloc_two w (.cells #[.slice ra rs.length rc, .slice na L.length nc] 25) (.cells #[.slice ra rs.length rc, .slice na L.length nc] 25)) hun rfl hzs
        simp [asAddr, Result.andThen, hld]
      · exact fun W h => by rw [List.take_of_length_le hA]; exact h
      · exact fun W h => by rw [List.take_of_length_le hB]; exact h
      · exact (((Kept.refl [] w).alloc _).alloc _)
    · have t1 : decide ((200 : Int) < (L.length : Int)) = true := by simp; omega
      have t3 : 200 ≤ nc := by omega
      have b0 := HB.out (.cells #[.slice none 0 0, .slice none 0 0] 25)
      have c0 := b0.c0
      have c1 := b0.c1
      have b2 := b0.s1 (.slice na 200 nc)
      have e0 := b2.c0
      have e1 := b2.c1
      have hq : Kept [] w (((w.alloc (.cells #[.slice ra rs.length rc, .slice na L.length nc] 25)).alloc (.cells #[.slice none 0 0, .slice none 0 0] 25)).setCell ⟨w.heap.size, 1, none⟩ (.slice na 200 nc)) := (kept_cellA HK.out (Nat.le_refl _) 1 (.slice na 200 nc))
      have hy : (((w.alloc (.cells #[.slice ra rs.length rc, .slice na L.length nc] 25)).alloc (.cells #[.slice none 0 0, .slice none 0 0] 25)).setCell ⟨w.heap.size, 1, none⟩ (.slice na 200 nc)).heap[w.heap.size + 1]? = some (.cells #[.slice none 0 0, .slice none 0 0] 25) := ((set_other _ _ _ _ _ (by omega)).trans HZ.out)
      have HX : Hid ((((w.alloc (.cells #[.slice ra rs.length rc, .slice na L.length nc] 25)).alloc (.cells #[.slice none 0 0, .slice none 0 0] 25)).setCell ⟨w.heap.size, 1, none⟩ (.slice na 200 nc)).heap[w.heap.size]? = some (.cells #[.slice ra rs.length rc, .slice na 200 nc] 25 (0, 0))) := b2
      have HQ : Hid (Kept [] w (((w.alloc (.cells #[.slice ra rs.length rc, .slice na L.length nc] 25)).alloc (.cells #[.slice none 0 0, .slice none 0 0] 25)).setCell ⟨w.heap.size, 1, none⟩ (.slice na 200 nc))) := hq
      have HY : Hid ((((w.alloc (.cells #[.slice ra rs.length rc, .slice na L.length nc] 25)).alloc (.cells #[.slice none 0 0, .slice none 0 0] 25)).setCell ⟨w.heap.size, 1, none⟩ (.slice na 200 nc)).heap[w.heap.size + 1]? = some (.cells #[.slice none 0 0, .slice none 0 0] 25)) := hy
      clear b0  b2 hq hy HB HK HZ
      go_enter Tryd.func6, Tryd.ntmps6
      go_wp2_with (first
        | (refine wpList_load_row (by rfl) 25 (.tmp 1) (by rfl) w.heap.size (by rfl) 25 _ (0, 0) _ HX.out hun rfl hzs ?_)
        | (refine wpList_store_row (by rfl) 25 (.tmp 2) (.tmp 19) (by rfl) (w.heap.size + 1) _ (by rfl) (by rfl) 25 _ HY.out hzs (by rfl) (by rfl) ?_))
      refine bodyPost_ret (v := .agg #[.slice ra rs.length rc, .slice na 200 nc]) ?_ rfl ⟨_, _, rfl, ?_, ?_, ?_⟩
      · rw [results_cell1 rfl]
        have hld := run_loadVar_row (P := Tryd.prog) _ (w.heap.size + 1) 25 25 #[.slice ra rs.length rc, .slice na 200 nc] (0, 0) _ (alloc_two w (.cells #[.slice ra rs.length rc, .slice na 200 nc] 25) (.cells #[.slice ra rs.length rc, .slice na 200 nc] 25)) hun rfl hzs
        simp [asAddr, Result.andThen, hld]
      · exact fun W h => by rw [List.take_of_length_le hA]; exact h
      · exact fun W h => h.take (m := 200) (by omega)
      · exact (((Kept.refl [] w).alloc _).alloc _)
  · have t0 : decide ((64 : Int) < (rs.length : Int)) = true := by simp; omega
    have t2 : 64 ≤ rc := by omega
    by_cases hB : L.length ≤ 200
    · have t1 : decide ((200 : Int) < (L.length : Int)) = false := by simp; omega
      have b0 := HB.out (.cells #[.slice none 0 0, .slice none 0 0] 25)
      have c0 := b0.c0
      have c1 := b0.c1
      have b1 := b0.s0 (.slice ra 64 rc)
      have d0 := b1.c0
      have d1 := b1.c1
      have hq : Kept [] w (((w.alloc (.cells #[.slice ra rs.length rc, .slice na L.length nc] 25)).alloc (.cells #[.slice none 0 0, .slice none 0 0] 25)).setCell ⟨w.heap.size, 0, none⟩ (.slice ra 64 rc)) := (kept_cellA HK.out (Nat.le_refl _) 0 (.slice ra 64 rc))
      have hy : (((w.alloc (.cells #[.slice ra rs.length rc, .slice na L.length nc] 25)).alloc (.cells #[.slice none 0 0, .slice none 0 0] 25)).setCell ⟨w.heap.size, 0, none⟩ (.slice ra 64 rc)).heap[w.heap.size + 1]? = some (.cells #[.slice none 0 0, .slice none 0 0] 25) := ((set_other _ _ _ _ _ (by omega)).trans HZ.out)
      have HX : Hid ((((w.alloc (.cells #[.slice ra rs.length rc, .slice na L.length nc] 25)).alloc (.cells #[.slice none 0 0, .slice none 0 0] 25)).setCell ⟨w.heap.size, 0, none⟩ (.slice ra 64 rc)).heap[w.heap.size]? = some (.cells #[.slice ra 64 rc, .slice na L.length nc] 25 (0, 0))) := b1
      have HQ : Hid (Kept [] w (((w.alloc (.cells #[.slice ra rs.length rc, .slice na L.length nc] 25)).alloc (.cells #[.slice none 0 0, .slice none 0 0] 25)).setCell ⟨w.heap.size, 0, none⟩ (.slice ra 64 rc))) := hq
      have HY : Hid ((((w.alloc (.cells #[.slice ra rs.length rc, .slice na L.length nc] 25)).alloc (.cells #[.slice none 0 0, .slice none 0 0] 25)).setCell ⟨w.heap.size, 0, none⟩ (.slice ra 64 rc)).heap[w.heap.size + 1]? = some (.cells #[.slice none 0 0, .slice none 0 0] 25)) := hy
      clear b0 b1  hq hy HB HK HZ
      go_enter Tryd.func6, Tryd.ntmps6
      go_wp2_with (first
        | (refine wpList_load_row (by rfl) 25 (.tmp 1) (by rfl) w.heap.size (by rfl) 25 _ (0, 0) _ HX.out hun rfl hzs ?_)
        | (refine wpList_store_row (by rfl) 25 (.tmp 2) (.tmp 19) (by rfl) (w.heap.size + 1) _ (by rfl) (by rfl) 25 _ HY.out hzs (by rfl) (by rfl) ?_))
      refine bodyPost_ret (v := .agg #[.slice ra 64 rc, .slice na L.length nc]) ?_ rfl ⟨_, _, rfl, ?_, ?_, ?_⟩
      · rw [results_cell1 rfl]
        have hld := run_loadVar_row (P := Tryd.prog) _ (w.heap.size + 1) 25 25 #[.slice ra 64 rc, .slice na L.length nc] (0, 0) _ (alloc_two w (.cells #[.slice ra 64 rc, .slice na L.length nc] 25) (.cells #[.slice ra 64 rc, .slice na L.length nc] 25)) hun rfl hzs
        simp [asAddr, Result.andThen, hld]
      · exact fun W h => h.take (m := 64) (by omega)
      · exact fun W h => by rw [List.take_of_length_le hB]; exact h
      · exact (((Kept.refl [] w).alloc _).alloc _)
    · have t1 : decide ((200 : Int) < (L.length : Int)) = true := by simp; omega
      have t3 : 200 ≤ nc := by omega
      have b0 := HB.out (.cells #[.slice none 0 0, .slice none 0 0] 25)
      have c0 := b0.c0
      have c1 := b0.c1
      have b1 := b0.s0 (.slice ra 64 rc)
      have d0 := b1.c0
      have d1 := b1.c1
      have b2 := b1.s1 (.slice na 200 nc)
      have e0 := b2.c0
      have e1 := b2.c1
      have hq : Kept [] w ((((w.alloc (.cells #[.slice ra rs.length rc, .slice na L.length nc] 25)).alloc (.cells #[.slice none 0 0, .slice none 0 0] 25)).setCell ⟨w.heap.size, 0, none⟩ (.slice ra 64 rc)).setCell ⟨w.heap.size, 1, none⟩ (.slice na 200 nc)) := (kept_cellA (kept_cellA HK.out (Nat.le_refl _) 0 (.slice ra 64 rc)) (Nat.le_refl _) 1 (.slice na 200 nc))
      have hy : ((((w.alloc (.cells #[.slice ra rs.length rc, .slice na L.length nc] 25)).alloc (.cells #[.slice none 0 0, .slice none 0 0] 25)).setCell ⟨w.heap.size, 0, none⟩ (.slice ra 64 rc)).setCell ⟨w.heap.size, 1, none⟩ (.slice na 200 nc)).heap[w.heap.size + 1]? = some (.cells #[.slice none 0 0, .slice none 0 0] 25) := ((set_other _ _ _ _ _ (by omega)).trans ((set_other _ _ _ _ _ (by omega)).trans HZ.out))
      have HX : Hid (((((w.alloc (.cells #[.slice ra rs.length rc, .slice na L.length nc] 25)).alloc (.cells #[.slice none 0 0, .slice none 0 0] 25)).setCell ⟨w.heap.size, 0, none⟩ (.slice ra 64 rc)).setCell ⟨w.heap.size, 1, none⟩ (.slice na 200 nc)).heap[w.heap.size]? = some (.cells #[.slice ra 64 rc, .slice na 200 nc] 25 (0, 0))) := b2
      have HQ : Hid (Kept [] w ((((w.alloc (.cells #[.slice ra rs.length rc, .slice na L.length nc] 25)).alloc (.cells #[.slice none 0 0, .slice none 0 0] 25)).setCell ⟨w.heap.size, 0, none⟩ (.slice ra 64 rc)).setCell ⟨w.heap.size, 1, none⟩ (.slice na 200 nc))) := hq
      have HY : Hid (((((w.alloc (.cells #[.slice ra rs.length rc, .slice na L.length nc] 25)).alloc (.cells #[.slice none 0 0, .slice none 0 0] 25)).setCell ⟨w.heap.size, 0, none⟩ (.slice ra 64 rc)).setCell ⟨w.heap.size, 1, none⟩ (.slice na 200 nc)).heap[w.heap.size + 1]? = some (.cells #[.slice none 0 0, .slice none 0 0] 25)) := hy
      clear b0 b1 b2 hq hy HB HK HZ
      go_enter Tryd.func6, Tryd.ntmps6
      go_wp2_with (first
        | (refine wpList_load_row (by rfl) 25 (.tmp 1) (by rfl) w.heap.size (by rfl) 25 _ (0, 0) _ HX.out hun rfl hzs ?_)
        | (refine wpList_store_row (by rfl) 25 (.tmp 2) (.tmp 19) (by rfl) (w.heap.size + 1) _ (by rfl) (by rfl) 25 _ HY.out hzs (by rfl) (by rfl) ?_))
      refine bodyPost_ret (v := .agg #[.slice ra 64 rc, .slice na 200 nc]) ?_ rfl ⟨_, _, rfl, ?_, ?_, ?_⟩
      · rw [results_cell1 rfl]
        have hld := run_loadVar_row (P := Tryd.prog) _ (w.heap.size + 1) 25 25 #[.slice ra 64 rc, .slice na 200 nc] (0, 0) _ (alloc_two w (.cells #[.slice ra 64 rc, .slice na 200 nc] 25) (.cells #[.slice ra 64 rc, .slice na 200 nc] 25)) hun rfl hzs
        simp [asAddr, Result.andThen, hld]
      · exact fun W h => h.take (m := 64) (by omega)
      · exact fun W h => h.take (m := 200) (by omega)
      · exact (((Kept.refl [] w).alloc _).alloc _)
end Go.Proofs.YtmjbaficdoehfaaDoor
