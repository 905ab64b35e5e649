/-
  WALK: satchelref3.Same, of two commits that say the same.
-/
import Derived.Test.YtnfbiemmdaenpaaDoorPar2
import Derived.Test.YtnfbiemmdaenpaaDoorOpenB
import Derived.Deep.RegionHeld
namespace Go.Proofs.YtnfbiemmdaenpaaDoor
open Go.RowKit

/-- What yields its value wherever the condition holds is taken first: the place it goes to and the marks behind it written out. -/
theorem takeS {P : Program} {ops : Array Oper} {Q : Exit → Act → World → Prop} {md : Region.Mode} {S : World → Prop} (i : Nat) {oi : Oper} {v : Value} (d : Option Tmp) {fuel : Nat} {listed : Array Bool} (listed' : Array Bool) {a : Act} {w : World} (hi : ops[i]? = some oi) (hd : oi.dst = d) (hl : listed.setIfInBounds i true = listed')
    (hs : Region.noSelect ops = true) (hf : Region.free md ops listed i = true) (hr : (Region.ready md ops listed).contains i = true)
    (hQ : ∀ c a w, Q (.panic c) (a.put d v) w → Q (.panic c) a w) (hy : YieldsIf P ops S oi v a) (hS : S w) (h : wpAnyH P md ops Q S fuel listed' (a.put d v) w) : wpAnyH P md ops Q S (fuel + 1) listed a w := by
  subst hd hl
  exact wpAnyH_take hi hs hf hr hQ hy hS h
theorem Kept.setRowN {S : List Nat} {a w : World} (h : Kept S a w) {g : Nat} (hg : a.heap.size ≤ g) (cs : Array Value) : Kept S a (w.setRow g cs) :=
  h.trans (S' := [g]) ⟨rfl, rfl, rfl, by simp [World.setRow], fun k _ hn => setRow_other w g k cs (fun e => hn (by simp [e]))⟩ (fun x hx => by simp at hx; exact Or.inr (by omega))
theorem ComL.row_len {c : ComL} (hl : c.tree.length = 32) (pv : Value) : (c.row pv).length = 36 := by simp [ComL.row, hl]

theorem wantedS {P : Program} {ops : Array Oper} {rest : List Oper} {o : Oper} {a : Act} {w : World} {Q : Exit → Act → World → Prop} (hw : Region.wanted o (yielded ops a.tmps) = true)
    (h : ∀ K : Act → World → Prop, (∀ a w, wpList P ops Q rest a w → K a w) → o.wp P a w K Q) : wpList P ops Q (o :: rest) a w :=
  wpList_step fun K hK => by rw [if_pos hw]; exact h K hK
theorem alloc_letter {K : Act → World → Prop} {a : Act} {w : World} {Z : Array Value} {t : TypeId} {n : Nat} (hz : Z.size = n)
    (h : ∀ W1 Z1, Hid (Z1.size = n) → Hid (W1.heap[w.heap.size]? = some (.cells Z1 t (0, 0))) → W1.heap.size = w.heap.size + 1 → Hid (Kept [] w W1) → K a W1) : K a (w.alloc (.cells Z t)) :=
  h _ Z hz (heap_alloc_new w _) (World.size_alloc _ _) ((Kept.refl [] w).alloc _)
theorem alloc_letterd {K : Act → World → Prop} {a : Act} {w : World} {Z : Array Value} {t : TypeId} {n : Nat} (hz : Z.size = n)
    (h : ∀ W1 Z1, Hid (Z1.size = n) → Hid (W1.heap[w.heap.size]? = some (.cells Z1 t (0, 0))) → W1.heap.size = w.heap.size + 1 → Hid (Kept [] w W1) → K a W1) : K a (w.alloc (.cells Z t)).drew :=
  h _ Z hz (heap_alloc_new w _) (World.size_alloc _ _) ((Kept.refl [] w).alloc _).drew

set_option maxRecDepth 100000 in
set_option maxHeartbeats 2000000 in
theorem Same_com (c : ComL) (p1 p2 : Value) (w : World) (h1 : IdsAt w p1 c.parents) (h2 : IdsAt w p2 c.parents) (hg : c.Good) :
    Calls Tryd.prog 10 #[.agg (comO c p1).row.toArray, .agg (comO c p2).row.toArray] w fun e w' => e = .returned (.bool true) ∧ Kept [] w w' := by
  have hl := hg.tree.1
  obtain ⟨wb, hwb⟩ : ∃ x, x = (w.alloc (.cells (comO c p1).row.toArray 33)).alloc (.cells (comO c p2).row.toArray 33) := ⟨_, rfl⟩
  have HK0 : Hid (Kept [] w wb) := by rw [hwb]; exact ((Kept.refl _ _).alloc _).alloc _
  have HB1 : Hid (wb.heap[w.heap.size]? = some (.cells (comO c p1).row.toArray 33 (0, 0))) := by rw [hwb]; exact (Below.heap_alloc _ _ _ (by rw [World.size_alloc]; omega)).trans (heap_alloc_new w _)
  have HB2 : Hid (wb.heap[w.heap.size + 1]? = some (.cells (comO c p2).row.toArray 33 (0, 0))) := by
    have h := heap_alloc_new (w.alloc (.cells (comO c p1).row.toArray 33)) (.cells (comO c p2).row.toArray 33)
    rw [World.size_alloc] at h
    rw [hwb]; exact h
  have HC : Hid (∀ W, Kept [] wb W → W.cell? ⟨w.heap.size, 0, none⟩ = some (.int .i64 3) ∧ W.cell? ⟨w.heap.size, 1, none⟩ = some (.slice none 0 0) ∧ W.cell? ⟨w.heap.size, 2, none⟩ = some (.slice none 0 0) ∧ W.rangeAt w.heap.size 3 (c.row p1) ∧ W.rangeAt w.heap.size 39 zeroG.row ∧
      W.cell? ⟨w.heap.size + 1, 0, none⟩ = some (.int .i64 3) ∧ W.cell? ⟨w.heap.size + 1, 1, none⟩ = some (.slice none 0 0) ∧ W.cell? ⟨w.heap.size + 1, 2, none⟩ = some (.slice none 0 0) ∧ W.rangeAt (w.heap.size + 1) 3 (c.row p2) ∧ W.rangeAt (w.heap.size + 1) 39 zeroG.row) := fun W hW => by
    obtain ⟨a1, a2, a3, a4, a5⟩ := obj_cells (o := comO c p1) hl (hW.heap HB1.out (by simp))
    obtain ⟨b1, b2, b3, b4, b5⟩ := obj_cells (o := comO c p2) hl (hW.heap HB2.out (by simp))
    exact ⟨a1, a2, a3, a4, a5, b1, b2, b3, b4, b5⟩
  have HP : Hid (∀ W, Kept [] wb W → W.cell? ⟨w.heap.size, 35, none⟩ = some p1 ∧ W.cell? ⟨w.heap.size + 1, 35, none⟩ = some p2) := fun W hW => by
    obtain ⟨_, _, _, a4, _, _, _, _, b4, _⟩ := HC.out W hW
    have key : ∀ pv : Value, (c.row pv)[32]? = some pv := fun pv => by
      unfold ComL.row
      rw [List.getElem?_append_right (by rw [List.length_map, hl]; exact Nat.le_refl _), List.length_map, hl]
      rfl
    exact ⟨a4 32 _ (key p1), b4 32 _ (key p2)⟩
  have HV1 : Hid (∀ W, Kept [] wb W → IdsAt W p1 c.parents) := fun W hW => h1.keep (HK0.out.then hW) (fun _ _ _ => by simp)
  have HV2 : Hid (∀ W, Kept [] wb W → IdsAt W p2 c.parents) := fun W hW => h2.keep (HK0.out.then hW) (fun _ _ _ => by simp)
  have HEQ : Hid (∀ W, Calls Tryd.prog 12 #[.slice none 0 0, .slice none 0 0] W fun e w' => e = .returned (.bool true) ∧ ∃ n, w' = W.drewN n) := fun W => Eq_same (BytesAt.nil W) (BytesAt.nil W) (by simp)
  have HG : Hid (∀ o, o ∈ c.parents → GoodID o) := hg.parents
  obtain ⟨a1, a2, a3, a4, a5, b1, b2, b3, b4, b5⟩ := HC.out wb (Kept.refl _ _)
  obtain ⟨q1, q2⟩ := HP.out wb (Kept.refl _ _)
  obtain ⟨ao1, cap1, rfl, hc1, _, hlen, _⟩ := h1
  obtain ⟨ao2, cap2, rfl, hc2, _, _, _⟩ := h2
  subst hwb
  clear hg
  generalize (comO c (.slice ao1 c.parents.length cap1)).row.toArray = o1 at *
  generalize (comO c (.slice ao2 c.parents.length cap2)).row.toArray = o2 at *
  go_enter Tryd.func10, Tryd.ntmps10
  go_wp2_with (go_at_call 12; refine (HEQ.out _).mono ?_; rintro e w1 ⟨rfl, n1, rfl⟩)
  have hui := Tryd.underlying25
  have HKd : Hid (Kept [] ((w.alloc (.cells o1 33)).alloc (.cells o2 33)) (((w.alloc (.cells o1 33)).alloc (.cells o2 33)).drewN n1)) := (Kept.refl _ _).drewN n1
  go_loopw [5] (fun s5 wr => s5 = .int .i64 0 ∧ Hid (Kept [] ((w.alloc (.cells o1 33)).alloc (.cells o2 33)) wr)) (fun _ _ => 0)
  case atStart => exact ⟨rfl, HKd⟩
  case round =>
    obtain ⟨rfl, HK⟩ := hrel
    obtain ⟨_, _, x3, _, _, _, _, _, _, _⟩ := HC.out wr HK.out
    obtain ⟨x35, _⟩ := HP.out wr HK.out
    go_wp2
    go_loopw [6] (fun s6 wr => ∃ k : Nat, k ≤ c.parents.length ∧ s6 = .int .i64 k ∧ Hid (Kept [] ((w.alloc (.cells o1 33)).alloc (.cells o2 33)) wr)) (fun s6 _ => c.parents.length - (intOf s6).toNat)
    case atStart => exact ⟨0, Nat.zero_le _, rfl, HK⟩
    case round =>
      clear HK x3 x35
      obtain ⟨k, hk, rfl, HK⟩ := hrel
      obtain ⟨y35, z35⟩ := HP.out wr HK.out
      by_cases hlt : k < c.parents.length
      · obtain ⟨o, ho⟩ : ∃ o, c.parents[k]? = some o := ⟨_, List.getElem?_eq_getElem hlt⟩
        have hgo := HG.out o (List.mem_of_getElem? ho)
        obtain ⟨ao', cap', he, _, _, _, hc⟩ := HV1.out wr HK.out
        injection he with e1 e2 e3
        subst e1 e3
        obtain ⟨b1', off1, rfl, hh1⟩ := hc (by intro e; rw [e] at hlt; simp at hlt)
        obtain ⟨ao', cap', he, _, _, _, hc⟩ := HV2.out wr HK.out
        injection he with e1 e2 e3
        subst e1 e3
        obtain ⟨b2', off2, rfl, hh2⟩ := hc (by intro e; rw [e] at hlt; simp at hlt)
        have hso : (Tryd.prog.info? 25).map (·.size) = some (o.map (Value.int .u8)).length := by rw [List.length_map, hgo.1]; exact Tryd.infoID
        have heqf : ∀ W, (Op.equalIn 10000 25 (.agg (o.map (Value.int .u8)).toArray) (.agg (o.map (Value.int .u8)).toArray)).run Tryd.prog W = .ok true W := fun W => by
          have := idEq o o W hgo.1 hgo.1
          rwa [decide_eq_true rfl] at this
        have HR1 : Hid (∀ W, Kept [] wr W → W.rangeAt b1' (off1 + k * 32) (o.map (Value.int .u8))) := fun W hW => range_kept (hh1 k o ho) hW (by simp)
        have HR2 : Hid (∀ W, Kept [] wr W → W.rangeAt b2' (off2 + k * 32) (o.map (Value.int .u8))) := fun W hW => range_kept (hh2 k o ho) hW (by simp)
        have HD1 : Hid (∀ W, Kept [] wr W → W.cell? ⟨w.heap.size, 35, none⟩ = some (.slice (some ⟨b1', off1, none⟩) c.parents.length cap1)) := fun W hW => hW.cell y35 (by simp)
        have HD2 : Hid (∀ W, Kept [] wr W → W.cell? ⟨w.heap.size + 1, 35, none⟩ = some (.slice (some ⟨b2', off2, none⟩) c.parents.length cap2)) := fun W hW => hW.cell z35 (by simp)
        have HKK : Hid (∀ W, Kept [] wr W → Kept [] ((w.alloc (.cells o1 33)).alloc (.cells o2 33)) W) := fun W hW => HK.out.then hW
        clear hh1 hh2 hc ho hgo
        go_wp2_with fail
        refine region_quiet (Kept [] wr) (by kernel_rfl) (by kernel_rfl) (Kept.refl [] wr).drew ?_
        refine quiet_val (by rfl) (.pointer (some ⟨w.heap.size, 3, none⟩)) (fun W => by go_simp) ?_
        simp only [Act.put, List.setIfInBounds_toArray, List.set_cons_zero, List.set_cons_succ]
        refine quiet_val (by rfl) (.pointer (some ⟨w.heap.size, 35, none⟩)) (fun W => by go_simp) ?_
        simp only [Act.put, List.setIfInBounds_toArray, List.set_cons_zero, List.set_cons_succ]
        refine valC (by rfl) (.slice (some ⟨b1', off1, none⟩) c.parents.length cap1) (fun W hW => by have hcc := HD1.out W hW; go_simp) ?_
        simp only [Act.put, List.setIfInBounds_toArray, List.set_cons_zero, List.set_cons_succ]
        refine quiet_move (by rfl) (.tmp 6) rfl (.int .i64 k) rfl ?_
        simp only [Act.put, List.setIfInBounds_toArray, List.set_cons_zero, List.set_cons_succ]
        refine quiet_val (by rfl) (.pointer (some ⟨b1', off1 + k * 32, none⟩)) (fun W => by go_simp) ?_
        simp only [Act.put, List.setIfInBounds_toArray, List.set_cons_zero, List.set_cons_succ]
        refine quiet_row (by rfl) _ _ rfl b1' (off1 + k * 32) rfl (o.map (Value.int .u8)) _ HR1.out hui rfl hso ?_
        simp only [Act.put, List.setIfInBounds_toArray, List.set_cons_zero, List.set_cons_succ]
        refine quiet_val (by rfl) (.pointer (some ⟨w.heap.size + 1, 3, none⟩)) (fun W => by go_simp) ?_
        simp only [Act.put, List.setIfInBounds_toArray, List.set_cons_zero, List.set_cons_succ]
        refine quiet_val (by rfl) (.pointer (some ⟨w.heap.size + 1, 35, none⟩)) (fun W => by go_simp) ?_
        simp only [Act.put, List.setIfInBounds_toArray, List.set_cons_zero, List.set_cons_succ]
        refine valC (by rfl) (.slice (some ⟨b2', off2, none⟩) c.parents.length cap2) (fun W hW => by have hcc := HD2.out W hW; go_simp) ?_
        simp only [Act.put, List.setIfInBounds_toArray, List.set_cons_zero, List.set_cons_succ]
        refine quiet_move (by rfl) (.tmp 6) rfl (.int .i64 k) rfl ?_
        simp only [Act.put, List.setIfInBounds_toArray, List.set_cons_zero, List.set_cons_succ]
        refine quiet_val (by rfl) (.pointer (some ⟨b2', off2 + k * 32, none⟩)) (fun W => by go_simp) ?_
        simp only [Act.put, List.setIfInBounds_toArray, List.set_cons_zero, List.set_cons_succ]
        refine quiet_row (by rfl) _ _ rfl b2' (off2 + k * 32) rfl (o.map (Value.int .u8)) _ HR2.out hui rfl hso ?_
        simp only [Act.put, List.setIfInBounds_toArray, List.set_cons_zero, List.set_cons_succ]
        refine quiet_neq (by rfl) (.tmp 73) (.tmp 79) _ rfl _ _ rfl rfl true heqf ?_
        simp only [Act.put, List.setIfInBounds_toArray, List.set_cons_zero, List.set_cons_succ]
        refine wpQuiet_nil fun w3 hk3 => ?_
        have HK3 : Hid (Kept [] ((w.alloc (.cells o1 33)).alloc (.cells o2 33)) w3) := HKK.out w3 hk3
        clear hk3 HR1 HR2 HD1 HD2 HKK
        go_wp2
        go_roundw
        case rel => exact ⟨k + 1, by omega, by go_num, HK3⟩
        case measure => simp [intOf]; omega
      · obtain rfl : k = c.parents.length := by omega
        go_wp2_with fail
        obtain ⟨_, _, _, r1, g1, _, _, _, r2, g2⟩ := HC.out wr HK.out
        have huc := Tryd.underlying29
        obtain ⟨R1, hR1⟩ : ∃ R, R = c.row (.slice ao1 c.parents.length cap1) := ⟨_, rfl⟩
        obtain ⟨R2, hR2⟩ : ∃ R, R = c.row (.slice ao2 c.parents.length cap2) := ⟨_, rfl⟩
        have HR1 : Hid (R1 = c.row (.slice ao1 c.parents.length cap1)) := hR1
        have HR2 : Hid (R2 = c.row (.slice ao2 c.parents.length cap2)) := hR2
        have hl1 : (Tryd.prog.info? 29).map (·.size) = some R1.length := by rw [hR1, ComL.row_len hl]; kernel_rfl
        have hl2 : (Tryd.prog.info? 29).map (·.size) = some R2.length := by rw [hR2, ComL.row_len hl]; kernel_rfl
        have HZ1 : Hid (R1.toArray.size = 36) := by rw [hR1, List.size_toArray, ComL.row_len hl]; rfl
        have HZ2 : Hid (R2.toArray.size = 36) := by rw [hR2, List.size_toArray, ComL.row_len hl]; rfl
        have hone : ∀ ao cap, (c.row (.slice ao c.parents.length cap)).toArray.all (·.oneCell') = true := fun ao cap => by
          unfold ComL.row
          simp [Value.oneCell']
        have ho1 : R1.toArray.all (·.oneCell') = true := by rw [hR1]; exact hone _ _
        have ho2 : R2.toArray.all (·.oneCell') = true := by rw [hR2]; exact hone _ _
        rw [← hR1] at r1
        rw [← hR2] at r2
        clear hR1 hR2 hone
        have HQ1 : Hid (∀ W, Kept [] wr W → W.rangeAt w.heap.size 3 R1) := fun W hW => range_kept r1 hW (by simp)
        have HQ2 : Hid (∀ W, Kept [] wr W → W.rangeAt (w.heap.size + 1) 3 R2) := fun W hW => range_kept r2 hW (by simp)
        have hst : (Tryd.prog.info? 25).map (·.size) = some (c.tree.map (Value.int .u8)).length := by rw [List.length_map, hl]; exact Tryd.infoID
        have hut := Tryd.underlying31
        have heqt : ∀ W, (Op.equalIn 10000 25 (.agg (c.tree.map (Value.int .u8)).toArray) (.agg (c.tree.map (Value.int .u8)).toArray)).run Tryd.prog W = .ok true W := fun W => by
          have := idEq c.tree c.tree W hl hl
          rwa [decide_eq_true rfl] at this
        obtain ⟨ZG, hZG⟩ : ∃ Z, Z = zeroG.row := ⟨_, rfl⟩
        have hsg : (Tryd.prog.info? 31).map (·.size) = some ZG.length := by rw [hZG]; kernel_rfl
        have heqg : ∀ W, (Op.equalIn 10000 31 (.agg ZG.toArray) (.agg ZG.toArray)).run Tryd.prog W = .ok true W := fun W => by rw [hZG]; kernel_rfl
        rw [← hZG] at g1 g2
        clear hZG
        refine wp_region_held_drew (S := Kept [] wr) (by kernel_rfl) (Kept.refl [] wr).drew (fun hHeld => ?_)
        refine takeS 0 (v := .pointer (some ⟨w.heap.size, 3, none⟩)) (some 81) #[true, false, false, false, false, false, false, false] rfl rfl rfl (by kernel_rfl) (by kernel_rfl) (by kernel_rfl) (fun _ _ _ h => h) (Or.inl ⟨by rfl, fun W hSW => by go_simp⟩) hHeld ?_
        simp only [Act.put, List.setIfInBounds_toArray, List.set_cons_zero, List.set_cons_succ]
        refine takeS 1 (v := .agg R1.toArray) (some 82) #[true, true, false, false, false, false, false, false] rfl rfl rfl (by kernel_rfl) (by kernel_rfl) (by kernel_rfl) (fun _ _ _ h => h) (yieldsIf_load_mid (by rfl) 29 (.tmp 81) rfl w.heap.size 3 rfl R1 _ HQ1.out huc rfl hl1) hHeld ?_
        simp only [Act.put, List.setIfInBounds_toArray, List.set_cons_zero, List.set_cons_succ]
        refine takeS 2 (v := .pointer (some ⟨w.heap.size + 1, 3, none⟩)) (some 83) #[true, true, true, false, false, false, false, false] rfl rfl rfl (by kernel_rfl) (by kernel_rfl) (by kernel_rfl) (fun _ _ _ h => h) (Or.inl ⟨by rfl, fun W hSW => by go_simp⟩) hHeld ?_
        simp only [Act.put, List.setIfInBounds_toArray, List.set_cons_zero, List.set_cons_succ]
        refine takeS 3 (v := .agg R2.toArray) (some 84) #[true, true, true, true, false, false, false, false] rfl rfl rfl (by kernel_rfl) (by kernel_rfl) (by kernel_rfl) (fun _ _ _ h => h) (yieldsIf_load_mid (by rfl) 29 (.tmp 83) rfl (w.heap.size + 1) 3 rfl R2 _ HQ2.out huc rfl hl2) hHeld ?_
        simp only [Act.put, List.setIfInBounds_toArray, List.set_cons_zero, List.set_cons_succ]
        refine wpAnyH_ready (rs := [4, 5]) (by kernel_rfl) (by simp) (AllReadyH.cons rfl (fun K hK => ?_) (AllReadyH.cons rfl (fun K hK => ?_) AllReadyH.nil))
        · rw [if_pos (by rfl)]
          go_simp
          refine alloc_letterd (n := 36) rfl (fun W1 Z1 hz1 hb1 hs1 hk1 => ?_)
          refine hK.out _ _ hk1.out (fun hHeld => ?_)
          clear hK K
          refine wpAnyH_ready (rs := [5]) (by kernel_rfl) (by simp) (AllReadyH.cons rfl (fun K hK => ?_) AllReadyH.nil)
          rw [if_pos (by rfl)]
          clear hs1
          go_simp
          refine alloc_letter (n := 36) rfl (fun W2 Z2 hz2 hb2 hs2 hk2 => ?_)
          refine hK.out _ _ (hHeld.then hk2.out) (fun hHeld => ?_)
          clear hK K
          have hle : wr.heap.size < W1.heap.size := (Array.getElem?_eq_some_iff.1 hb1.out).1
          have hb1' : Hid (W2.heap[wr.heap.size]? = some (.cells Z1 29 (0, 0))) := hk2.out.heap hb1.out (by simp)
          refine wpAnyH_ready (rs := [6]) (by kernel_rfl) (by simp) (AllReadyH.cons rfl (fun K hK => ?_) AllReadyH.nil)
          rw [if_pos (by rfl)]
          refine wp_store_row 29 (.tmp 7) (.tmp 82) rfl wr.heap.size R1.toArray rfl rfl 29 _ hb1'.out (by rw [List.size_toArray]; exact hl1) (hz1.out.trans HZ1.out.symm) ho1 ?_
          refine hK.out _ _ (hHeld.setRowN (by omega) _) (fun hHeld => ?_)
          clear hK K
          refine wpAnyH_ready (rs := [7]) (by kernel_rfl) (by simp) (AllReadyH.cons rfl (fun K hK => ?_) AllReadyH.nil)
          rw [if_pos (by rfl)]
          have hc7 : Hid ((W2.setRow wr.heap.size R1.toArray).heap[wr.heap.size]? = some (.cells R1.toArray 29 (0, 0))) := setRow_heap _ _ _ _ _ _ hb1'.out
          refine wp_store_row 29 (.tmp 8) (.tmp 84) rfl W1.heap.size R2.toArray rfl rfl 29 _ ((setRow_other _ _ _ _ (by omega)).trans hb2.out) (by rw [List.size_toArray]; exact hl2) (hz2.out.trans HZ2.out.symm) ho2 ?_
          refine hK.out _ _ (hHeld.setRowN (by omega) _) (fun hHeld => ?_)
          clear hK K
          refine wpAnyH_done (by kernel_rfl) ?_ _
          have hd7 : Hid (((W2.setRow wr.heap.size R1.toArray).setRow W1.heap.size R2.toArray).heap[wr.heap.size]? = some (.cells R1.toArray 29 (0, 0))) := (setRow_other _ _ _ _ (by omega)).trans hc7.out
          have hd8 : Hid (((W2.setRow wr.heap.size R1.toArray).setRow W1.heap.size R2.toArray).heap[W1.heap.size]? = some (.cells R2.toArray 29 (0, 0))) := setRow_heap _ _ _ _ _ _ ((setRow_other _ _ _ _ (by omega)).trans hb2.out)
          have hn7 : wr.heap.size ≤ wr.heap.size := by omega
          have hn8 : wr.heap.size ≤ W1.heap.size := by omega
          have HK3 : Hid (Kept [] wr ((W2.setRow wr.heap.size R1.toArray).setRow W1.heap.size R2.toArray)) := hHeld
          clear hc7 hHeld hb1 hb2 hb1' hk1 hk2 hz1 hz2
          generalize (W2.setRow wr.heap.size R1.toArray).setRow W1.heap.size R2.toArray = W3 at *
          generalize hbb7 : wr.heap.size = b7 at *
          generalize hbb8 : W1.heap.size = b8 at *
          simp only [Act.put, List.setIfInBounds_toArray]
          obtain ⟨t7, _, c733, c734, c735⟩ := com_cells (b := b7) hl (HR1.out ▸ hd7.out)
          obtain ⟨t8, _, c833, c834, c835⟩ := com_cells (b := b8) hl (HR2.out ▸ hd8.out)
          have z7 : W3.rangeAt w.heap.size 39 ZG := range_kept g1 HK3.out (by simp)
          have z8 : W3.rangeAt (w.heap.size + 1) 39 ZG := range_kept g2 HK3.out (by simp)
          go_wp2_with (first
            | (refine wpList_load_mid (by rfl) 25 (.tmp 85) (by rfl) b7 0 (by rfl) (c.tree.map (Value.int .u8)) _ t7 hui rfl hst ?_)
            | (refine wpList_load_mid (by rfl) 25 (.tmp 87) (by rfl) b8 0 (by rfl) (c.tree.map (Value.int .u8)) _ t8 hui rfl hst ?_)
            | (refine wantedS (by rfl) fun K hK => wp_load_mid 31 (.tmp 112) (by rfl) w.heap.size 39 (by rfl) ZG _ z7 hut rfl hsg (hK _ _ ?_))
            | (refine wantedS (by rfl) fun K hK => wp_load_mid 31 (.tmp 114) (by rfl) (w.heap.size + 1) 39 (by rfl) ZG _ z8 hut rfl hsg (hK _ _ ?_)))
          go_ret
          exact ⟨rfl, HK0.out.then (HK.out.then HK3.out)⟩
        · rw [if_pos (by rfl)]
          go_simp
          refine alloc_letterd (n := 36) rfl (fun W1 Z1 hz1 hb1 hs1 hk1 => ?_)
          refine hK.out _ _ hk1.out (fun hHeld => ?_)
          clear hK K
          refine wpAnyH_ready (rs := [4]) (by kernel_rfl) (by simp) (AllReadyH.cons rfl (fun K hK => ?_) AllReadyH.nil)
          rw [if_pos (by rfl)]
          clear hs1
          go_simp
          refine alloc_letter (n := 36) rfl (fun W2 Z2 hz2 hb2 hs2 hk2 => ?_)
          refine hK.out _ _ (hHeld.then hk2.out) (fun hHeld => ?_)
          clear hK K
          have hle : wr.heap.size < W1.heap.size := (Array.getElem?_eq_some_iff.1 hb1.out).1
          have hb1' : Hid (W2.heap[wr.heap.size]? = some (.cells Z1 29 (0, 0))) := hk2.out.heap hb1.out (by simp)
          refine wpAnyH_ready (rs := [6]) (by kernel_rfl) (by simp) (AllReadyH.cons rfl (fun K hK => ?_) AllReadyH.nil)
          rw [if_pos (by rfl)]
          refine wp_store_row 29 (.tmp 7) (.tmp 82) rfl W1.heap.size R1.toArray rfl rfl 29 _ hb2.out (by rw [List.size_toArray]; exact hl1) (hz2.out.trans HZ1.out.symm) ho1 ?_
          refine hK.out _ _ (hHeld.setRowN (by omega) _) (fun hHeld => ?_)
          clear hK K
          refine wpAnyH_ready (rs := [7]) (by kernel_rfl) (by simp) (AllReadyH.cons rfl (fun K hK => ?_) AllReadyH.nil)
          rw [if_pos (by rfl)]
          have hc7 : Hid ((W2.setRow W1.heap.size R1.toArray).heap[W1.heap.size]? = some (.cells R1.toArray 29 (0, 0))) := setRow_heap _ _ _ _ _ _ hb2.out
          refine wp_store_row 29 (.tmp 8) (.tmp 84) rfl wr.heap.size R2.toArray rfl rfl 29 _ ((setRow_other _ _ _ _ (by omega)).trans hb1'.out) (by rw [List.size_toArray]; exact hl2) (hz1.out.trans HZ2.out.symm) ho2 ?_
          refine hK.out _ _ (hHeld.setRowN (by omega) _) (fun hHeld => ?_)
          clear hK K
          refine wpAnyH_done (by kernel_rfl) ?_ _
          have hd7 : Hid (((W2.setRow W1.heap.size R1.toArray).setRow wr.heap.size R2.toArray).heap[W1.heap.size]? = some (.cells R1.toArray 29 (0, 0))) := (setRow_other _ _ _ _ (by omega)).trans hc7.out
          have hd8 : Hid (((W2.setRow W1.heap.size R1.toArray).setRow wr.heap.size R2.toArray).heap[wr.heap.size]? = some (.cells R2.toArray 29 (0, 0))) := setRow_heap _ _ _ _ _ _ ((setRow_other _ _ _ _ (by omega)).trans hb1'.out)
          have hn7 : wr.heap.size ≤ W1.heap.size := by omega
          have hn8 : wr.heap.size ≤ wr.heap.size := by omega
          have HK3 : Hid (Kept [] wr ((W2.setRow W1.heap.size R1.toArray).setRow wr.heap.size R2.toArray)) := hHeld
          clear hc7 hHeld hb1 hb2 hb1' hk1 hk2 hz1 hz2
          generalize (W2.setRow W1.heap.size R1.toArray).setRow wr.heap.size R2.toArray = W3 at *
          generalize hbb7 : W1.heap.size = b7 at *
          generalize hbb8 : wr.heap.size = b8 at *
          simp only [Act.put, List.setIfInBounds_toArray]
          obtain ⟨t7, _, c733, c734, c735⟩ := com_cells (b := b7) hl (HR1.out ▸ hd7.out)
          obtain ⟨t8, _, c833, c834, c835⟩ := com_cells (b := b8) hl (HR2.out ▸ hd8.out)
          have z7 : W3.rangeAt w.heap.size 39 ZG := range_kept g1 HK3.out (by simp)
          have z8 : W3.rangeAt (w.heap.size + 1) 39 ZG := range_kept g2 HK3.out (by simp)
          go_wp2_with (first
            | (refine wpList_load_mid (by rfl) 25 (.tmp 85) (by rfl) b7 0 (by rfl) (c.tree.map (Value.int .u8)) _ t7 hui rfl hst ?_)
            | (refine wpList_load_mid (by rfl) 25 (.tmp 87) (by rfl) b8 0 (by rfl) (c.tree.map (Value.int .u8)) _ t8 hui rfl hst ?_)
            | (refine wantedS (by rfl) fun K hK => wp_load_mid 31 (.tmp 112) (by rfl) w.heap.size 39 (by rfl) ZG _ z7 hut rfl hsg (hK _ _ ?_))
            | (refine wantedS (by rfl) fun K hK => wp_load_mid 31 (.tmp 114) (by rfl) (w.heap.size + 1) 39 (by rfl) ZG _ z8 hut rfl hsg (hK _ _ ?_)))
          go_ret
          exact ⟨rfl, HK0.out.then (HK.out.then HK3.out)⟩
end Go.Proofs.YtnfbiemmdaenpaaDoor
