/-
  WALK: satchelref3.Same, of two objects that say the same.
-/
import Derived.Test.YtfcoeinhfdbcgaaGreatDoorSame0
import Derived.Test.YtfcoeinhfdbcgaaGreatDoorLk4
import Derived.Test.YtfcoeinhfdbcgaaGreatDoorGs2
namespace Go.Proofs.YtfcoeinhfdbcgaaGreatDoor
open Go.RowKit


set_option maxRecDepth 100000 in
set_option maxHeartbeats 4000000 in
theorem Same_eq (o : ObjL) (v1 u1 p1 v2 u2 p2 : Value) (w : World) (hg1 : ObjL.Good w { o with bv := v1, ev := u1, pv := p1 }) (hg2 : ObjL.Good w { o with bv := v2, ev := u2, pv := p2 }) :
    Calls Tryz.prog 11 #[.agg ({ o with bv := v1, ev := u1, pv := p1 } : ObjL).row.toArray, .agg ({ o with bv := v2, ev := u2, pv := p2 } : ObjL).row.toArray] w fun e w' => e = .returned (.bool true) ∧ Kept [] w w' := by
  obtain ⟨ab1, cb1, e1⟩ : ∃ ao cap, v1 = .slice ao o.blob.length cap := by obtain ⟨a, c, h, _⟩ := hg1.bv; exact ⟨a, c, h⟩
  obtain ⟨ab2, cb2, e2⟩ : ∃ ao cap, v2 = .slice ao o.blob.length cap := by obtain ⟨a, c, h, _⟩ := hg2.bv; exact ⟨a, c, h⟩
  obtain ⟨ae1, ce1, e3⟩ : ∃ ao cap, u1 = .slice ao o.es.length cap := by obtain ⟨a, c, h, _⟩ := hg1.ev.form; exact ⟨a, c, h⟩
  obtain ⟨ae2, ce2, e4⟩ : ∃ ao cap, u2 = .slice ao o.es.length cap := by obtain ⟨a, c, h, _⟩ := hg2.ev.form; exact ⟨a, c, h⟩
  obtain ⟨ao1, cap1, e5⟩ : ∃ ao cap, p1 = .slice ao o.com.parents.length cap := by obtain ⟨a, c, h, _⟩ := hg1.pv; exact ⟨a, c, h⟩
  obtain ⟨ao2, cap2, e6⟩ : ∃ ao cap, p2 = .slice ao o.com.parents.length cap := by obtain ⟨a, c, h, _⟩ := hg2.pv; exact ⟨a, c, h⟩
  subst e1 e2 e3 e4 e5 e6
  have hl := hg1.com.tree.1
  have htl : o.tag.target.length = 32 := hg1.tag.target.1
  obtain ⟨wb, hwb⟩ : ∃ x, x = (w.alloc (.cells ({ o with bv := .slice ab1 o.blob.length cb1, ev := .slice ae1 o.es.length ce1, pv := .slice ao1 o.com.parents.length cap1 } : ObjL).row.toArray 37)).alloc (.cells ({ o with bv := .slice ab2 o.blob.length cb2, ev := .slice ae2 o.es.length ce2, pv := .slice ao2 o.com.parents.length cap2 } : ObjL).row.toArray 37) := ⟨_, rfl⟩
  have HK0 : Hid (Kept [] w wb) := by rw [hwb]; exact ((Kept.refl _ _).alloc _).alloc _
  have HB1 : Hid (wb.heap[w.heap.size]? = some (.cells ({ o with bv := .slice ab1 o.blob.length cb1, ev := .slice ae1 o.es.length ce1, pv := .slice ao1 o.com.parents.length cap1 } : ObjL).row.toArray 37 (0, 0))) := by rw [hwb]; exact (Below.heap_alloc _ _ _ (by rw [World.size_alloc]; omega)).trans (heap_alloc_new w _)
  have HB2 : Hid (wb.heap[w.heap.size + 1]? = some (.cells ({ o with bv := .slice ab2 o.blob.length cb2, ev := .slice ae2 o.es.length ce2, pv := .slice ao2 o.com.parents.length cap2 } : ObjL).row.toArray 37 (0, 0))) := by
    have h := heap_alloc_new (w.alloc (.cells ({ o with bv := .slice ab1 o.blob.length cb1, ev := .slice ae1 o.es.length ce1, pv := .slice ao1 o.com.parents.length cap1 } : ObjL).row.toArray 37)) (.cells ({ o with bv := .slice ab2 o.blob.length cb2, ev := .slice ae2 o.es.length ce2, pv := .slice ao2 o.com.parents.length cap2 } : ObjL).row.toArray 37)
    rw [World.size_alloc] at h
    rw [hwb]; exact h
  have HC : Hid (∀ W, Kept [] wb W → W.cell? ⟨w.heap.size, 0, none⟩ = some (.int .i64 o.kind) ∧ W.cell? ⟨w.heap.size, 1, none⟩ = some (.slice ab1 o.blob.length cb1) ∧ W.cell? ⟨w.heap.size, 2, none⟩ = some (.slice ae1 o.es.length ce1) ∧ W.rangeAt w.heap.size 3 (o.com.row (.slice ao1 o.com.parents.length cap1)) ∧ W.rangeAt w.heap.size 39 o.tag.row ∧
      W.cell? ⟨w.heap.size + 1, 0, none⟩ = some (.int .i64 o.kind) ∧ W.cell? ⟨w.heap.size + 1, 1, none⟩ = some (.slice ab2 o.blob.length cb2) ∧ W.cell? ⟨w.heap.size + 1, 2, none⟩ = some (.slice ae2 o.es.length ce2) ∧ W.rangeAt (w.heap.size + 1) 3 (o.com.row (.slice ao2 o.com.parents.length cap2)) ∧ W.rangeAt (w.heap.size + 1) 39 o.tag.row) := fun W hW => by
    obtain ⟨a1, a2, a3, a4, a5⟩ := obj_cells (o := ({ o with bv := .slice ab1 o.blob.length cb1, ev := .slice ae1 o.es.length ce1, pv := .slice ao1 o.com.parents.length cap1 } : ObjL)) hl (hW.heap HB1.out (by simp))
    obtain ⟨b1, b2, b3, b4, b5⟩ := obj_cells (o := ({ o with bv := .slice ab2 o.blob.length cb2, ev := .slice ae2 o.es.length ce2, pv := .slice ao2 o.com.parents.length cap2 } : ObjL)) hl (hW.heap HB2.out (by simp))
    exact ⟨a1, a2, a3, a4, a5, b1, b2, b3, b4, b5⟩
  have HP : Hid (∀ W, Kept [] wb W → W.cell? ⟨w.heap.size, 35, none⟩ = some (.slice ao1 o.com.parents.length cap1) ∧ W.cell? ⟨w.heap.size + 1, 35, none⟩ = some (.slice ao2 o.com.parents.length cap2)) := fun W hW => by
    obtain ⟨_, _, _, a4, _, _, _, _, b4, _⟩ := HC.out W hW
    have key : ∀ pv : Value, (o.com.row pv)[32]? = some pv := fun pv => by
      unfold ComL.row
      rw [List.getElem?_append_right (by rw [List.length_map, hl]; exact Nat.le_refl _), List.length_map, hl]
      rfl
    exact ⟨a4 32 _ (key (.slice ao1 o.com.parents.length cap1)), b4 32 _ (key (.slice ao2 o.com.parents.length cap2))⟩
  have HV1 : Hid (∀ W, Kept [] wb W → IdsAt W (.slice ao1 o.com.parents.length cap1) o.com.parents) := fun W hW => hg1.pv.keep (HK0.out.then hW) (fun _ _ _ => by simp)
  have HV2 : Hid (∀ W, Kept [] wb W → IdsAt W (.slice ao2 o.com.parents.length cap2) o.com.parents) := fun W hW => hg2.pv.keep (HK0.out.then hW) (fun _ _ _ => by simp)
  have HN1 : Hid (∀ W, Kept [] wb W → EntsAt W (.slice ae1 o.es.length ce1) o.es) := fun W hW => hg1.ev.keep (HK0.out.then hW) (fun _ _ _ => by simp)
  have HN2 : Hid (∀ W, Kept [] wb W → EntsAt W (.slice ae2 o.es.length ce2) o.es) := fun W hW => hg2.ev.keep (HK0.out.then hW) (fun _ _ _ => by simp)
  have heq0 := Eq_same (w := wb) (hg1.bv.keep HK0.out (fun _ _ _ => by simp)) (hg2.bv.keep HK0.out (fun _ _ _ => by simp)) (Nat.le_trans hg1.blob.2 (by decide))
  have heq0 : Calls Tryz.prog 16 #[(.slice ab1 o.blob.length cb1), (.slice ab2 o.blob.length cb2)] wb fun e w' => e = .returned (.bool true) ∧ ∃ n, w' = wb.drewN n := heq0
  have HG : Hid (∀ x, x ∈ o.com.parents → GoodID x) := hg1.com.parents
  have HGE : Hid (∀ x, x ∈ o.es → x.Good) := hg1.es
  have hlen : o.com.parents.length ≤ 140737488351232 := by obtain ⟨_, _, _, _, _, h, _⟩ := hg1.pv; exact h
  have hlenE : o.es.length ≤ 140737488351232 := by obtain ⟨_, _, _, _, h, _⟩ := hg1.ev.form; exact h
  obtain ⟨a1, a2, a3, a4, a5, b1, b2, b3, b4, b5⟩ := HC.out wb (Kept.refl _ _)
  obtain ⟨q1, q2⟩ := HP.out wb (Kept.refl _ _)
  subst hwb
  clear hg1 hg2
  generalize ({ o with bv := .slice ab1 o.blob.length cb1, ev := .slice ae1 o.es.length ce1, pv := .slice ao1 o.com.parents.length cap1 } : ObjL).row.toArray = o1 at *
  generalize ({ o with bv := .slice ab2 o.blob.length cb2, ev := .slice ae2 o.es.length ce2, pv := .slice ao2 o.com.parents.length cap2 } : ObjL).row.toArray = o2 at *
  go_enter Tryz.func11, Tryz.ntmps11
  go_wp2_with fail
  go_at_call 16
  refine heq0.mono ?_
  rintro e w1 ⟨rfl, n1, hw1⟩
  have HKd : Hid (Kept [] ((w.alloc (.cells o1 37)).alloc (.cells o2 37)) w1) := by rw [hw1]; exact (Kept.refl _ _).drewN n1
  obtain ⟨a1, a2, a3, a4, a5, b1, b2, b3, b4, b5⟩ := HC.out w1 HKd.out
  obtain ⟨q1, q2⟩ := HP.out w1 HKd.out
  clear heq0 hw1
  go_wp2
  have hui := Tryz.underlying29
  have hue := Tryz.underlying80
  go_loopw [5] (fun s5 wr => ∃ k : Nat, k ≤ o.es.length ∧ s5 = .int .i64 k ∧ Hid (Kept [] ((w.alloc (.cells o1 37)).alloc (.cells o2 37)) wr)) (fun s5 _ => o.es.length - (intOf s5).toNat)
  case atStart => exact ⟨0, Nat.zero_le _, rfl, HKd⟩
  case round =>
    obtain ⟨k, hk, rfl, HK⟩ := hrel
    obtain ⟨_, _, x3, _, _, _, _, y3, _, _⟩ := HC.out wr HK.out
    by_cases hlt : k < o.es.length
    · obtain ⟨x, hx⟩ : ∃ x, o.es[k]? = some x := ⟨_, List.getElem?_eq_getElem hlt⟩
      have hgx := HGE.out x (List.mem_of_getElem? hx)
      obtain ⟨ao', cap', he, _, _, hc⟩ := (HN1.out wr HK.out).form
      injection he with e1 e2 e3
      subst e1 e3
      obtain ⟨b1', off1, rfl, hh1⟩ := hc (by intro e; rw [e] at hlt; simp at hlt)
      obtain ⟨ao', cap', he, _, _, hc⟩ := (HN2.out wr HK.out).form
      injection he with e1 e2 e3
      subst e1 e3
      obtain ⟨b2', off2, rfl, hh2⟩ := hc (by intro e; rw [e] at hlt; simp at hlt)
      have hso : (Tryz.prog.info? 80).map (·.size) = some x.row.length := by rw [EntL.row_len hgx.id]; exact Tryz.infoEnt
      have heqf := fun W => entEq x hgx.id.1 W
      have HR1 : Hid (∀ W, Kept [] wr W → W.rangeAt b1' (off1 + k * 34) x.row) := fun W hW => range_kept (hh1 k x hx) hW (by simp)
      have HR2 : Hid (∀ W, Kept [] wr W → W.rangeAt b2' (off2 + k * 34) x.row) := fun W hW => range_kept (hh2 k x hx) hW (by simp)
      have HD1 : Hid (∀ W, Kept [] wr W → W.cell? ⟨w.heap.size, 2, none⟩ = some (.slice (some ⟨b1', off1, none⟩) o.es.length ce1)) := fun W hW => hW.cell x3 (by simp)
      have HD2 : Hid (∀ W, Kept [] wr W → W.cell? ⟨w.heap.size + 1, 2, none⟩ = some (.slice (some ⟨b2', off2, none⟩) o.es.length ce2)) := fun W hW => hW.cell y3 (by simp)
      have HKK : Hid (∀ W, Kept [] wr W → Kept [] ((w.alloc (.cells o1 37)).alloc (.cells o2 37)) W) := fun W hW => HK.out.then hW
      clear hh1 hh2 hc hx hgx
      generalize x.row = xr at *
      go_wp2_with fail
      refine region_quiet (Kept [] wr) (by kernel_rfl) (by kernel_rfl) (Kept.refl [] wr).drew ?_
      refine quiet_val (by rfl) (.pointer (some ⟨w.heap.size, 2, none⟩)) (fun W => by go_simp) ?_
      simp only [Act.put, List.setIfInBounds_toArray, List.set_cons_zero, List.set_cons_succ]
      refine valC (by rfl) (.slice (some ⟨b1', off1, none⟩) o.es.length ce1) (fun W hW => by have hcc := HD1.out W hW; go_simp) ?_
      simp only [Act.put, List.setIfInBounds_toArray, List.set_cons_zero, List.set_cons_succ]
      refine quiet_move (by rfl) (.tmp 5) rfl (.int .i64 k) rfl ?_
      simp only [Act.put, List.setIfInBounds_toArray, List.set_cons_zero, List.set_cons_succ]
      refine quiet_val (by rfl) (.pointer (some ⟨b1', off1 + k * 34, none⟩)) (fun W => by go_simp) ?_
      simp only [Act.put, List.setIfInBounds_toArray, List.set_cons_zero, List.set_cons_succ]
      refine quiet_row (by rfl) _ _ rfl b1' (off1 + k * 34) rfl xr _ HR1.out hue rfl hso ?_
      simp only [Act.put, List.setIfInBounds_toArray, List.set_cons_zero, List.set_cons_succ]
      refine quiet_val (by rfl) (.pointer (some ⟨w.heap.size + 1, 2, none⟩)) (fun W => by go_simp) ?_
      simp only [Act.put, List.setIfInBounds_toArray, List.set_cons_zero, List.set_cons_succ]
      refine valC (by rfl) (.slice (some ⟨b2', off2, none⟩) o.es.length ce2) (fun W hW => by have hcc := HD2.out W hW; go_simp) ?_
      simp only [Act.put, List.setIfInBounds_toArray, List.set_cons_zero, List.set_cons_succ]
      refine quiet_move (by rfl) (.tmp 5) rfl (.int .i64 k) rfl ?_
      simp only [Act.put, List.setIfInBounds_toArray, List.set_cons_zero, List.set_cons_succ]
      refine quiet_val (by rfl) (.pointer (some ⟨b2', off2 + k * 34, none⟩)) (fun W => by go_simp) ?_
      simp only [Act.put, List.setIfInBounds_toArray, List.set_cons_zero, List.set_cons_succ]
      refine quiet_row (by rfl) _ _ rfl b2' (off2 + k * 34) rfl xr _ HR2.out hue rfl hso ?_
      simp only [Act.put, List.setIfInBounds_toArray, List.set_cons_zero, List.set_cons_succ]
      refine quiet_neqE (by rfl) (.tmp 53) (.tmp 58) _ rfl _ _ rfl rfl true heqf ?_
      simp only [Act.put, List.setIfInBounds_toArray, List.set_cons_zero, List.set_cons_succ]
      refine wpQuiet_nil fun w3 hk3 => ?_
      have HK3 : Hid (Kept [] ((w.alloc (.cells o1 37)).alloc (.cells o2 37)) w3) := HKK.out w3 hk3
      clear hk3 HR1 HR2 HD1 HD2 HKK
      go_wp2
      go_roundw
      case rel => exact ⟨k + 1, by omega, by go_num, HK3⟩
      case measure => simp [intOf]; omega
    · have tE : decide ((k : Int) < (o.es.length : Int)) = false := decide_eq_false (by omega)
      have tE2 : ¬ k < o.es.length := hlt
      obtain ⟨x35, _⟩ := HP.out wr HK.out
      go_wp2
      go_loopw [6] (fun s6 wr => ∃ k : Nat, k ≤ o.com.parents.length ∧ s6 = .int .i64 k ∧ Hid (Kept [] ((w.alloc (.cells o1 37)).alloc (.cells o2 37)) wr)) (fun s6 _ => o.com.parents.length - (intOf s6).toNat)
      case atStart => exact ⟨0, Nat.zero_le _, rfl, HK⟩
      case round =>
        clear HK x3 y3 x35
        obtain ⟨k, hk, rfl, HK⟩ := hrel
        obtain ⟨y35, z35⟩ := HP.out wr HK.out
        by_cases hlt : k < o.com.parents.length
        · obtain ⟨z, ho⟩ : ∃ z, o.com.parents[k]? = some z := ⟨_, List.getElem?_eq_getElem hlt⟩
          have hgo := HG.out z (List.mem_of_getElem? ho)
          obtain ⟨ao', cap', he, _, _, _, hc⟩ := HV1.out wr HK.out
          injection he with e1 e2 e3
          subst e1 e3
          obtain ⟨b1', off1, rfl, hh1⟩ := hc (by intro e; rw [e] at hlt; simp at hlt)
          obtain ⟨ao', cap', he, _, _, _, hc⟩ := HV2.out wr HK.out
          injection he with e1 e2 e3
          subst e1 e3
          obtain ⟨b2', off2, rfl, hh2⟩ := hc (by intro e; rw [e] at hlt; simp at hlt)
          have hso : (Tryz.prog.info? 29).map (·.size) = some (z.map (Value.int .u8)).length := by rw [List.length_map, hgo.1]; exact Tryz.infoID
          have heqf : ∀ W, (Op.equalIn 10000 29 (.agg (z.map (Value.int .u8)).toArray) (.agg (z.map (Value.int .u8)).toArray)).run Tryz.prog W = .ok true W := fun W => by
            have := idEq z z W hgo.1 hgo.1
            rwa [decide_eq_true rfl] at this
          have HR1 : Hid (∀ W, Kept [] wr W → W.rangeAt b1' (off1 + k * 32) (z.map (Value.int .u8))) := fun W hW => range_kept (hh1 k z ho) hW (by simp)
          have HR2 : Hid (∀ W, Kept [] wr W → W.rangeAt b2' (off2 + k * 32) (z.map (Value.int .u8))) := fun W hW => range_kept (hh2 k z ho) hW (by simp)
          have HD1 : Hid (∀ W, Kept [] wr W → W.cell? ⟨w.heap.size, 35, none⟩ = some (.slice (some ⟨b1', off1, none⟩) o.com.parents.length cap1)) := fun W hW => hW.cell y35 (by simp)
          have HD2 : Hid (∀ W, Kept [] wr W → W.cell? ⟨w.heap.size + 1, 35, none⟩ = some (.slice (some ⟨b2', off2, none⟩) o.com.parents.length cap2)) := fun W hW => hW.cell z35 (by simp)
          have HKK : Hid (∀ W, Kept [] wr W → Kept [] ((w.alloc (.cells o1 37)).alloc (.cells o2 37)) W) := fun W hW => HK.out.then hW
          clear hh1 hh2 hc ho hgo
          go_wp2_with fail
          refine region_quiet (Kept [] wr) (by kernel_rfl) (by kernel_rfl) (Kept.refl [] wr).drew ?_
          refine quiet_val (by rfl) (.pointer (some ⟨w.heap.size, 3, none⟩)) (fun W => by go_simp) ?_
          simp only [Act.put, List.setIfInBounds_toArray, List.set_cons_zero, List.set_cons_succ]
          refine quiet_val (by rfl) (.pointer (some ⟨w.heap.size, 35, none⟩)) (fun W => by go_simp) ?_
          simp only [Act.put, List.setIfInBounds_toArray, List.set_cons_zero, List.set_cons_succ]
          refine valC (by rfl) (.slice (some ⟨b1', off1, none⟩) o.com.parents.length cap1) (fun W hW => by have hcc := HD1.out W hW; go_simp) ?_
          simp only [Act.put, List.setIfInBounds_toArray, List.set_cons_zero, List.set_cons_succ]
          refine quiet_move (by rfl) (.tmp 6) rfl (.int .i64 k) rfl ?_
          simp only [Act.put, List.setIfInBounds_toArray, List.set_cons_zero, List.set_cons_succ]
          refine quiet_val (by rfl) (.pointer (some ⟨b1', off1 + k * 32, none⟩)) (fun W => by go_simp) ?_
          simp only [Act.put, List.setIfInBounds_toArray, List.set_cons_zero, List.set_cons_succ]
          refine quiet_row (by rfl) _ _ rfl b1' (off1 + k * 32) rfl (z.map (Value.int .u8)) _ HR1.out hui rfl hso ?_
          simp only [Act.put, List.setIfInBounds_toArray, List.set_cons_zero, List.set_cons_succ]
          refine quiet_val (by rfl) (.pointer (some ⟨w.heap.size + 1, 3, none⟩)) (fun W => by go_simp) ?_
          simp only [Act.put, List.setIfInBounds_toArray, List.set_cons_zero, List.set_cons_succ]
          refine quiet_val (by rfl) (.pointer (some ⟨w.heap.size + 1, 35, none⟩)) (fun W => by go_simp) ?_
          simp only [Act.put, List.setIfInBounds_toArray, List.set_cons_zero, List.set_cons_succ]
          refine valC (by rfl) (.slice (some ⟨b2', off2, none⟩) o.com.parents.length cap2) (fun W hW => by have hcc := HD2.out W hW; go_simp) ?_
          simp only [Act.put, List.setIfInBounds_toArray, List.set_cons_zero, List.set_cons_succ]
          refine quiet_move (by rfl) (.tmp 6) rfl (.int .i64 k) rfl ?_
          simp only [Act.put, List.setIfInBounds_toArray, List.set_cons_zero, List.set_cons_succ]
          refine quiet_val (by rfl) (.pointer (some ⟨b2', off2 + k * 32, none⟩)) (fun W => by go_simp) ?_
          simp only [Act.put, List.setIfInBounds_toArray, List.set_cons_zero, List.set_cons_succ]
          refine quiet_row (by rfl) _ _ rfl b2' (off2 + k * 32) rfl (z.map (Value.int .u8)) _ HR2.out hui rfl hso ?_
          simp only [Act.put, List.setIfInBounds_toArray, List.set_cons_zero, List.set_cons_succ]
          refine quiet_neq (by rfl) (.tmp 73) (.tmp 79) _ rfl _ _ rfl rfl true heqf ?_
          simp only [Act.put, List.setIfInBounds_toArray, List.set_cons_zero, List.set_cons_succ]
          refine wpQuiet_nil fun w3 hk3 => ?_
          have HK3 : Hid (Kept [] ((w.alloc (.cells o1 37)).alloc (.cells o2 37)) w3) := HKK.out w3 hk3
          clear hk3 HR1 HR2 HD1 HD2 HKK
          go_wp2
          go_roundw
          case rel => exact ⟨k + 1, by omega, by go_num, HK3⟩
          case measure => simp [intOf]; omega
        · obtain rfl : k = o.com.parents.length := by omega
          go_wp2_with fail
          obtain ⟨_, _, _, r1, g1, _, _, _, r2, g2⟩ := HC.out wr HK.out
          have huc := Tryz.underlying33
          obtain ⟨R1, hR1⟩ : ∃ R, R = o.com.row (.slice ao1 o.com.parents.length cap1) := ⟨_, rfl⟩
          obtain ⟨R2, hR2⟩ : ∃ R, R = o.com.row (.slice ao2 o.com.parents.length cap2) := ⟨_, rfl⟩
          have HR1 : Hid (R1 = o.com.row (.slice ao1 o.com.parents.length cap1)) := hR1
          have HR2 : Hid (R2 = o.com.row (.slice ao2 o.com.parents.length cap2)) := hR2
          have hl1 : (Tryz.prog.info? 33).map (·.size) = some R1.length := by rw [hR1, ComL.row_len hl]; kernel_rfl
          have hl2 : (Tryz.prog.info? 33).map (·.size) = some R2.length := by rw [hR2, ComL.row_len hl]; kernel_rfl
          have HZ1 : Hid (R1.toArray.size = 36) := by rw [hR1, List.size_toArray, ComL.row_len hl]; rfl
          have HZ2 : Hid (R2.toArray.size = 36) := by rw [hR2, List.size_toArray, ComL.row_len hl]; rfl
          have hone : ∀ ao cap, (o.com.row (.slice ao o.com.parents.length cap)).toArray.all (·.oneCell') = true := fun ao cap => by
            unfold ComL.row
            simp [Value.oneCell']
          have ho1 : R1.toArray.all (·.oneCell') = true := by rw [hR1]; exact hone _ _
          have ho2 : R2.toArray.all (·.oneCell') = true := by rw [hR2]; exact hone _ _
          rw [← hR1] at r1
          rw [← hR2] at r2
          clear hR1 hR2 hone
          have HQ1 : Hid (∀ W, Kept [] wr W → W.rangeAt w.heap.size 3 R1) := fun W hW => range_kept r1 hW (by simp)
          have HQ2 : Hid (∀ W, Kept [] wr W → W.rangeAt (w.heap.size + 1) 3 R2) := fun W hW => range_kept r2 hW (by simp)
          have hst : (Tryz.prog.info? 29).map (·.size) = some (o.com.tree.map (Value.int .u8)).length := by rw [List.length_map, hl]; exact Tryz.infoID
          have hut := Tryz.underlying35
          have heqt : ∀ W, (Op.equalIn 10000 29 (.agg (o.com.tree.map (Value.int .u8)).toArray) (.agg (o.com.tree.map (Value.int .u8)).toArray)).run Tryz.prog W = .ok true W := fun W => by
            have := idEq o.com.tree o.com.tree W hl hl
            rwa [decide_eq_true rfl] at this
          obtain ⟨ZG, hZG⟩ : ∃ Z, Z = o.tag.row := ⟨_, rfl⟩
          have hsg : (Tryz.prog.info? 35).map (·.size) = some ZG.length := by rw [hZG, show o.tag.row.length = 37 by simp [TagL.row, htl]]; kernel_rfl
          have heqg : ∀ W, (Op.equalIn 10000 35 (.agg ZG.toArray) (.agg ZG.toArray)).run Tryz.prog W = .ok true W := fun W => by rw [hZG]; exact tagEq o.tag htl W
          rw [← hZG] at g1 g2
          clear hZG
          refine wp_region_held_drew (S := Kept [] wr) (by kernel_rfl) (Kept.refl [] wr).drew (fun hHeld => ?_)
          refine takeS 0 (v := .pointer (some ⟨w.heap.size, 3, none⟩)) (some 81) #[true, false, false, false, false, false, false, false] rfl rfl rfl (by kernel_rfl) (by kernel_rfl) (by kernel_rfl) (fun _ _ _ h => h) (Or.inl ⟨by rfl, fun W hSW => by go_simp⟩) hHeld ?_
          simp only [Act.put, List.setIfInBounds_toArray, List.set_cons_zero, List.set_cons_succ]
          refine takeS 1 (v := .agg R1.toArray) (some 82) #[true, true, false, false, false, false, false, false] rfl rfl rfl (by kernel_rfl) (by kernel_rfl) (by kernel_rfl) (fun _ _ _ h => h) (yieldsIf_load_mid (by rfl) 33 (.tmp 81) rfl w.heap.size 3 rfl R1 _ HQ1.out huc rfl hl1) hHeld ?_
          simp only [Act.put, List.setIfInBounds_toArray, List.set_cons_zero, List.set_cons_succ]
          refine takeS 2 (v := .pointer (some ⟨w.heap.size + 1, 3, none⟩)) (some 83) #[true, true, true, false, false, false, false, false] rfl rfl rfl (by kernel_rfl) (by kernel_rfl) (by kernel_rfl) (fun _ _ _ h => h) (Or.inl ⟨by rfl, fun W hSW => by go_simp⟩) hHeld ?_
          simp only [Act.put, List.setIfInBounds_toArray, List.set_cons_zero, List.set_cons_succ]
          refine takeS 3 (v := .agg R2.toArray) (some 84) #[true, true, true, true, false, false, false, false] rfl rfl rfl (by kernel_rfl) (by kernel_rfl) (by kernel_rfl) (fun _ _ _ h => h) (yieldsIf_load_mid (by rfl) 33 (.tmp 83) rfl (w.heap.size + 1) 3 rfl R2 _ HQ2.out huc rfl hl2) hHeld ?_
          simp only [Act.put, List.setIfInBounds_toArray, List.set_cons_zero, List.set_cons_succ]
          refine wpAnyH_ready (rs := [4, 5]) (by kernel_rfl) (by simp) (AllReadyH.cons rfl (fun K hK => ?_) (AllReadyH.cons rfl (fun K hK => ?_) AllReadyH.nil))
          · rw [if_pos (by rfl)]
            go_simp
            refine alloc_letterd (n := 36) rfl (fun W1 Z1 hz1 hb1 hs1 hk1 => ?_)
            refine hK.out _ _ hk1.out (fun hHeld => ?_)
            clear hK K
            refine wpAnyH_ready (rs := [5]) (by kernel_rfl) (by simp) (AllReadyH.cons rfl (fun K hK => ?_) AllReadyH.nil)
            rw [if_pos (by rfl)]
            clear hs1
            go_simp
            refine alloc_letter (n := 36) rfl (fun W2 Z2 hz2 hb2 hs2 hk2 => ?_)
            refine hK.out _ _ (hHeld.then hk2.out) (fun hHeld => ?_)
            clear hK K
            have hle : wr.heap.size < W1.heap.size := (Array.getElem?_eq_some_iff.1 hb1.out).1
            have hb1' : Hid (W2.heap[wr.heap.size]? = some (.cells Z1 33 (0, 0))) := hk2.out.heap hb1.out (by simp)
            refine wpAnyH_ready (rs := [6]) (by kernel_rfl) (by simp) (AllReadyH.cons rfl (fun K hK => ?_) AllReadyH.nil)
            rw [if_pos (by rfl)]
            refine wp_store_row 33 (.tmp 7) (.tmp 82) rfl wr.heap.size R1.toArray rfl rfl 33 _ hb1'.out (by rw [List.size_toArray]; exact hl1) (hz1.out.trans HZ1.out.symm) ho1 ?_
            refine hK.out _ _ (hHeld.setRowN (by omega) _) (fun hHeld => ?_)
            clear hK K
            refine wpAnyH_ready (rs := [7]) (by kernel_rfl) (by simp) (AllReadyH.cons rfl (fun K hK => ?_) AllReadyH.nil)
            rw [if_pos (by rfl)]
            have hc7 : Hid ((W2.setRow wr.heap.size R1.toArray).heap[wr.heap.size]? = some (.cells R1.toArray 33 (0, 0))) := setRow_heap _ _ _ _ _ _ hb1'.out
            refine wp_store_row 33 (.tmp 8) (.tmp 84) rfl W1.heap.size R2.toArray rfl rfl 33 _ ((setRow_other _ _ _ _ (by omega)).trans hb2.out) (by rw [List.size_toArray]; exact hl2) (hz2.out.trans HZ2.out.symm) ho2 ?_
            refine hK.out _ _ (hHeld.setRowN (by omega) _) (fun hHeld => ?_)
            clear hK K
            refine wpAnyH_done (by kernel_rfl) ?_ _
            have hd7 : Hid (((W2.setRow wr.heap.size R1.toArray).setRow W1.heap.size R2.toArray).heap[wr.heap.size]? = some (.cells R1.toArray 33 (0, 0))) := (setRow_other _ _ _ _ (by omega)).trans hc7.out
            have hd8 : Hid (((W2.setRow wr.heap.size R1.toArray).setRow W1.heap.size R2.toArray).heap[W1.heap.size]? = some (.cells R2.toArray 33 (0, 0))) := setRow_heap _ _ _ _ _ _ ((setRow_other _ _ _ _ (by omega)).trans hb2.out)
            have hn7 : wr.heap.size ≤ wr.heap.size := by omega
            have hn8 : wr.heap.size ≤ W1.heap.size := by omega
            have HK3 : Hid (Kept [] wr ((W2.setRow wr.heap.size R1.toArray).setRow W1.heap.size R2.toArray)) := hHeld
            clear hc7 hHeld hb1 hb2 hb1' hk1 hk2 hz1 hz2
            generalize (W2.setRow wr.heap.size R1.toArray).setRow W1.heap.size R2.toArray = W3 at *
            generalize hbb7 : wr.heap.size = b7 at *
            generalize hbb8 : W1.heap.size = b8 at *
            simp only [Act.put, List.setIfInBounds_toArray]
            obtain ⟨t7, _, c733, c734, c735⟩ := com_cells (b := b7) hl (HR1.out ▸ hd7.out)
            obtain ⟨t8, _, c833, c834, c835⟩ := com_cells (b := b8) hl (HR2.out ▸ hd8.out)
            have z7 : W3.rangeAt w.heap.size 39 ZG := range_kept g1 HK3.out (by simp)
            have z8 : W3.rangeAt (w.heap.size + 1) 39 ZG := range_kept g2 HK3.out (by simp)
            go_wp2_with (first
              | (refine wpList_load_mid (by rfl) 29 (.tmp 85) (by rfl) b7 0 (by rfl) (o.com.tree.map (Value.int .u8)) _ t7 hui rfl hst ?_)
              | (refine wpList_load_mid (by rfl) 29 (.tmp 87) (by rfl) b8 0 (by rfl) (o.com.tree.map (Value.int .u8)) _ t8 hui rfl hst ?_)
              | (refine wantedS (by rfl) fun K hK => wp_load_mid 35 (.tmp 112) (by rfl) w.heap.size 39 (by rfl) ZG _ z7 hut rfl hsg (hK _ _ ?_))
              | (refine wantedS (by rfl) fun K hK => wp_load_mid 35 (.tmp 114) (by rfl) (w.heap.size + 1) 39 (by rfl) ZG _ z8 hut rfl hsg (hK _ _ ?_)))
            go_ret
            exact ⟨rfl, HK0.out.then (HK.out.then HK3.out)⟩
          · rw [if_pos (by rfl)]
            go_simp
            refine alloc_letterd (n := 36) rfl (fun W1 Z1 hz1 hb1 hs1 hk1 => ?_)
            refine hK.out _ _ hk1.out (fun hHeld => ?_)
            clear hK K
            refine wpAnyH_ready (rs := [4]) (by kernel_rfl) (by simp) (AllReadyH.cons rfl (fun K hK => ?_) AllReadyH.nil)
            rw [if_pos (by rfl)]
            clear hs1
            go_simp
            refine alloc_letter (n := 36) rfl (fun W2 Z2 hz2 hb2 hs2 hk2 => ?_)
            refine hK.out _ _ (hHeld.then hk2.out) (fun hHeld => ?_)
            clear hK K
            have hle : wr.heap.size < W1.heap.size := (Array.getElem?_eq_some_iff.1 hb1.out).1
            have hb1' : Hid (W2.heap[wr.heap.size]? = some (.cells Z1 33 (0, 0))) := hk2.out.heap hb1.out (by simp)
            refine wpAnyH_ready (rs := [6]) (by kernel_rfl) (by simp) (AllReadyH.cons rfl (fun K hK => ?_) AllReadyH.nil)
            rw [if_pos (by rfl)]
            refine wp_store_row 33 (.tmp 7) (.tmp 82) rfl W1.heap.size R1.toArray rfl rfl 33 _ hb2.out (by rw [List.size_toArray]; exact hl1) (hz2.out.trans HZ1.out.symm) ho1 ?_
            refine hK.out _ _ (hHeld.setRowN (by omega) _) (fun hHeld => ?_)
            clear hK K
            refine wpAnyH_ready (rs := [7]) (by kernel_rfl) (by simp) (AllReadyH.cons rfl (fun K hK => ?_) AllReadyH.nil)
            rw [if_pos (by rfl)]
            have hc7 : Hid ((W2.setRow W1.heap.size R1.toArray).heap[W1.heap.size]? = some (.cells R1.toArray 33 (0, 0))) := setRow_heap _ _ _ _ _ _ hb2.out
            refine wp_store_row 33 (.tmp 8) (.tmp 84) rfl wr.heap.size R2.toArray rfl rfl 33 _ ((setRow_other _ _ _ _ (by omega)).trans hb1'.out) (by rw [List.size_toArray]; exact hl2) (hz1.out.trans HZ2.out.symm) ho2 ?_
            refine hK.out _ _ (hHeld.setRowN (by omega) _) (fun hHeld => ?_)
            clear hK K
            refine wpAnyH_done (by kernel_rfl) ?_ _
            have hd7 : Hid (((W2.setRow W1.heap.size R1.toArray).setRow wr.heap.size R2.toArray).heap[W1.heap.size]? = some (.cells R1.toArray 33 (0, 0))) := (setRow_other _ _ _ _ (by omega)).trans hc7.out
            have hd8 : Hid (((W2.setRow W1.heap.size R1.toArray).setRow wr.heap.size R2.toArray).heap[wr.heap.size]? = some (.cells R2.toArray 33 (0, 0))) := setRow_heap _ _ _ _ _ _ ((setRow_other _ _ _ _ (by omega)).trans hb1'.out)
            have hn7 : wr.heap.size ≤ W1.heap.size := by omega
            have hn8 : wr.heap.size ≤ wr.heap.size := by omega
            have HK3 : Hid (Kept [] wr ((W2.setRow W1.heap.size R1.toArray).setRow wr.heap.size R2.toArray)) := hHeld
            clear hc7 hHeld hb1 hb2 hb1' hk1 hk2 hz1 hz2
            generalize (W2.setRow W1.heap.size R1.toArray).setRow wr.heap.size R2.toArray = W3 at *
            generalize hbb7 : W1.heap.size = b7 at *
            generalize hbb8 : wr.heap.size = b8 at *
            simp only [Act.put, List.setIfInBounds_toArray]
            obtain ⟨t7, _, c733, c734, c735⟩ := com_cells (b := b7) hl (HR1.out ▸ hd7.out)
            obtain ⟨t8, _, c833, c834, c835⟩ := com_cells (b := b8) hl (HR2.out ▸ hd8.out)
            have z7 : W3.rangeAt w.heap.size 39 ZG := range_kept g1 HK3.out (by simp)
            have z8 : W3.rangeAt (w.heap.size + 1) 39 ZG := range_kept g2 HK3.out (by simp)
            go_wp2_with (first
              | (refine wpList_load_mid (by rfl) 29 (.tmp 85) (by rfl) b7 0 (by rfl) (o.com.tree.map (Value.int .u8)) _ t7 hui rfl hst ?_)
              | (refine wpList_load_mid (by rfl) 29 (.tmp 87) (by rfl) b8 0 (by rfl) (o.com.tree.map (Value.int .u8)) _ t8 hui rfl hst ?_)
              | (refine wantedS (by rfl) fun K hK => wp_load_mid 35 (.tmp 112) (by rfl) w.heap.size 39 (by rfl) ZG _ z7 hut rfl hsg (hK _ _ ?_))
              | (refine wantedS (by rfl) fun K hK => wp_load_mid 35 (.tmp 114) (by rfl) (w.heap.size + 1) 39 (by rfl) ZG _ z8 hut rfl hsg (hK _ _ ?_)))
            go_ret
            exact ⟨rfl, HK0.out.then (HK.out.then HK3.out)⟩
end Go.Proofs.YtfcoeinhfdbcgaaGreatDoor
