/-
  WALK: satchelref14.better: which of two stamps of one name counts.
-/
import Derived.Test.YtmjbaficdoehfaaMg7
import Derived.Test.YtmjbaficdoehfaaCm0
namespace Go.Proofs.Ytmjbaficdoehfaa
open Go.RowKit Go.Sort

theorem cmpZ_pos (xs ys : List Int) : 0 < cmpZ xs ys ↔ cmpB ys xs < 0 := by
  rw [cmpZ_cmpB, cmpB_is xs ys]
  by_cases h : cmpB xs ys < 0
  · rw [if_pos h]
    exact ⟨fun h => by omega, fun h' => absurd h (cmpB_swap _ _ h')⟩
  · rw [if_neg h]
    by_cases h2 : cmpB ys xs < 0
    · rw [if_pos h2]; exact ⟨fun _ => h2, fun _ => by decide⟩
    · rw [if_neg h2]; exact ⟨fun h => by omega, fun h => absurd h h2⟩
set_option maxRecDepth 100000 in
set_option maxHeartbeats 1000000 in
theorem Better_any (x y : StampE) (w : World) : Calls Try.prog 16 #[.agg x.row.toArray, .agg y.row.toArray] w fun e w' => e = .returned (.bool (decide (Beat y x))) ∧ Kept [] w w' := by
  obtain ⟨w2, hw2⟩ : ∃ w2, w2 = (w.alloc (.cells x.row.toArray 32)).alloc (.cells y.row.toArray 32) := ⟨_, rfl⟩
  have HW : Hid (w2 = (w.alloc (.cells x.row.toArray 32)).alloc (.cells y.row.toArray 32)) := hw2
  have HK : Hid (Kept [] w w2) := by
    have h : Kept [] w w2 := by rw [hw2]; exact ((Kept.refl _ _).alloc _).alloc _
    exact h
  have hb1 : w2.heap[w.heap.size]? = some (.cells x.row.toArray 32 (0, 0)) := by
    rw [hw2, Below.heap_alloc _ _ _ (by rw [World.size_alloc]; omega)]
    exact heap_alloc_new w _
  have hb2 : w2.heap[w.heap.size + 1]? = some (.cells y.row.toArray 32 (0, 0)) := by
    have := heap_alloc_new (w.alloc (.cells x.row.toArray 32)) (.cells y.row.toArray 32)
    rw [World.size_alloc] at this
    rw [hw2]
    exact this
  have HSX : Hid (∀ W, Kept [] w2 W → W.cell? ⟨w.heap.size, 33, none⟩ = some (.int .u64 x.seq)) := fun W k => k.cell (stampCells hb1 (Gr.refl w2)).2.1 (by simp)
  have HSY : Hid (∀ W, Kept [] w2 W → W.cell? ⟨w.heap.size + 1, 33, none⟩ = some (.int .u64 y.seq)) := fun W k => k.cell (stampCells hb2 (Gr.refl w2)).2.1 (by simp)
  have hrng : ∀ (x : StampE) (g : Nat), w2.heap[g]? = some (.cells x.row.toArray 32 (0, 0)) → w2.rangeAt g 1 (x.id.map (Value.int .u8)) := fun x g hb j v hv => by
    rw [List.getElem?_map] at hv
    obtain ⟨a, ha, rfl⟩ := Option.map_eq_some_iff.1 hv
    have h := (stampCells hb (Gr.refl w2)).2.2 j a ha
    rwa [Addr.add_mid] at h
  have HIX : Hid (∀ W, Kept [] w2 W → W.rangeAt w.heap.size 1 (x.id.map (Value.int .u8))) := fun W k => range_kept (hrng x _ hb1) k (by simp)
  have HIY : Hid (∀ W, Kept [] w2 W → W.rangeAt (w.heap.size + 1) 1 (y.id.map (Value.int .u8))) := fun W k => range_kept (hrng y _ hb2) k (by simp)
  have hui := Try.underlying29
  have has := Try.underlying32
  have hzx : (Try.prog.info? 29).map (·.size) = some (x.id.map (Value.int .u8)).length := by rw [List.length_map, x.gi.1]; exact Try.infoID
  have hzy : (Try.prog.info? 29).map (·.size) = some (y.id.map (Value.int .u8)).length := by rw [List.length_map, y.gi.1]; exact Try.infoID
  have HCM : Hid (∀ W, Kept [] w2 W → Calls Try.prog 8 #[.agg (x.id.map (Value.int .u8)).toArray, .agg (y.id.map (Value.int .u8)).toArray] W fun e w' => e = .returned (.int .i64 (cmpZ x.id y.id)) ∧ Kept [] w2 w') := fun W k => (CmpID_any x.id y.id W x.gi y.gi).mono fun e w' ⟨h1, h2⟩ => ⟨h1, k.then h2⟩
  have HBT : Hid (Beat y x ↔ (y.seq < x.seq ∨ y.seq = x.seq ∧ 0 < cmpZ x.id y.id)) := by
    have h : Beat y x ↔ (y.seq < x.seq ∨ y.seq = x.seq ∧ 0 < cmpZ x.id y.id) := by rw [cmpZ_pos]; rfl
    exact h
  have s1 : (Try.prog.info? 32).map (·.size) = some x.row.toArray.size := by rw [List.size_toArray, x.row_len]; exact stampSize
  have s2 : (Try.prog.info? 32).map (·.size) = some y.row.toArray.size := by rw [List.size_toArray, y.row_len]; exact stampSize
  obtain ⟨r, hr⟩ : ∃ r, r = decide (Beat y x) := ⟨_, rfl⟩
  rw [← hr]
  have HR : Hid (r = decide (Beat y x)) := hr
  have cx := HSX.out w2 (Kept.refl _ _)
  have cy := HSY.out w2 (Kept.refl _ _)
  have LIX : Hid (w2.rangeAt w.heap.size 1 (x.id.map (Value.int .u8))) := HIX.out w2 (Kept.refl _ _)
  have LIY : Hid (w2.rangeAt (w.heap.size + 1) 1 (y.id.map (Value.int .u8))) := HIY.out w2 (Kept.refl _ _)
  have LK : Hid (Kept [] w w2) := HK
  have LCM : Hid (Calls Try.prog 8 #[.agg (x.id.map (Value.int .u8)).toArray, .agg (y.id.map (Value.int .u8)).toArray] w2 fun e w' => e = .returned (.int .i64 (cmpZ x.id y.id)) ∧ Kept [] w2 w') := HCM.out w2 (Kept.refl _ _)
  clear hr hrng hb1 hb2 HSX HSY HIX HIY HK HCM HW
  subst hw2
  generalize x.row.toArray = c1 at *
  generalize y.row.toArray = c2 at *
  generalize x.id.map (Value.int .u8) = ix at *
  generalize y.id.map (Value.int .u8) = iy at *
  generalize cmpZ x.id y.id = c at *
  generalize x.seq = m at *
  generalize y.seq = n at *
  by_cases h1 : n < m
  · have t1 : decide (n < m) = true := decide_eq_true h1
    have HF : Hid (r = true) := by
      have h : r = true := by rw [HR.out]; exact decide_eq_true (HBT.out.2 (Or.inl h1))
      exact h
    go_enter Try.func16, Try.ntmps16
    go_wp2
    go_ret
    exact ⟨by rw [HF.out]; rfl, LK.out⟩
  have t1 : decide (n < m) = false := decide_eq_false h1
  by_cases h2 : n = m
  · subst h2
    by_cases h3 : 0 < c
    · have t3 : decide (0 < c) = true := decide_eq_true h3
      have HF : Hid (r = true) := by
        have h : r = true := by rw [HR.out]; exact decide_eq_true (HBT.out.2 (Or.inr ⟨rfl, h3⟩))
        exact h
      go_enter Try.func16, Try.ntmps16
      go_wp2_with (first
        | ((with_reducible refine wpList_step ?_); intro K hK; rw [if_pos (by kernel_rfl)]; (with_reducible refine wp_load_mid 29 (.tmp 17) ?ho w.heap.size 1 ?hx ix _ LIX.out hui ?hd hzx ?kk); (case ho => rfl); (case hx => rfl); (case hd => rfl); refine hK _ _ ?_; clear hK K; simp only [Act.put, List.setIfInBounds_toArray, List.set_cons_zero, List.set_cons_succ])
        | ((with_reducible refine wpList_step ?_); intro K hK; rw [if_pos (by kernel_rfl)]; (with_reducible refine wp_load_mid 29 (.tmp 19) ?ho2 (w.heap.size + 1) 1 ?hx2 iy _ LIY.out hui ?hd2 hzy ?kk2); (case ho2 => rfl); (case hx2 => rfl); (case hd2 => rfl); refine hK _ _ ?_; clear hK K; simp only [Act.put, List.setIfInBounds_toArray, List.set_cons_zero, List.set_cons_succ])
        | (go_at_call 8; refine LCM.out.mono ?_; rintro e w3 ⟨rfl, k3⟩; have HK3 : Hid (Kept [] w w3) := (LK.out.then k3); clear k3))
      go_ret
      exact ⟨by rw [HF.out]; rfl, HK3.out⟩
    · have t3 : decide (0 < c) = false := decide_eq_false h3
      have HF : Hid (r = false) := by
        have h : r = false := by rw [HR.out]; exact decide_eq_false (fun h => (HBT.out.1 h).elim (fun k => h1 k) (fun k => h3 k.2))
        exact h
      go_enter Try.func16, Try.ntmps16
      go_wp2_with (first
        | ((with_reducible refine wpList_step ?_); intro K hK; rw [if_pos (by kernel_rfl)]; (with_reducible refine wp_load_mid 29 (.tmp 17) ?hob w.heap.size 1 ?hxb ix _ LIX.out hui ?hdb hzx ?kkb); (case hob => rfl); (case hxb => rfl); (case hdb => rfl); refine hK _ _ ?_; clear hK K; simp only [Act.put, List.setIfInBounds_toArray, List.set_cons_zero, List.set_cons_succ])
        | ((with_reducible refine wpList_step ?_); intro K hK; rw [if_pos (by kernel_rfl)]; (with_reducible refine wp_load_mid 29 (.tmp 19) ?hob2 (w.heap.size + 1) 1 ?hxb2 iy _ LIY.out hui ?hdb2 hzy ?kkb2); (case hob2 => rfl); (case hxb2 => rfl); (case hdb2 => rfl); refine hK _ _ ?_; clear hK K; simp only [Act.put, List.setIfInBounds_toArray, List.set_cons_zero, List.set_cons_succ])
        | (go_at_call 8; refine LCM.out.mono ?_; rintro e w3 ⟨rfl, k3⟩; have HK3 : Hid (Kept [] w w3) := (LK.out.then k3); clear k3))
      go_ret
      exact ⟨by rw [HF.out]; rfl, HK3.out⟩
  · have t2 : (m == n) = false := by simpa using fun h => h2 h.symm
    have t2' : ¬ m = n := fun h => h2 h.symm
    have HF : Hid (r = false) := by
      have h : r = false := by rw [HR.out]; exact decide_eq_false (fun h => (HBT.out.1 h).elim (fun k => h1 k) (fun k => h2 k.1))
      exact h
    go_enter Try.func16, Try.ntmps16
    go_wp2
    go_ret
    exact ⟨by rw [HF.out]; rfl, LK.out⟩
end Go.Proofs.Ytmjbaficdoehfaa
