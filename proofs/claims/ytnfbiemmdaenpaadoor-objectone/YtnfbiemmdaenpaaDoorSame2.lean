/-
  WALK: satchelref3.Same, of any two objects.
-/
import Derived.Test.YtnfbiemmdaenpaaDoorSame0
import Derived.Test.YtnfbiemmdaenpaaDoorOxO
import Derived.Test.YtnfbiemmdaenpaaDoorRCopy
import Derived.Deep.CutRange
namespace Go.Proofs.YtnfbiemmdaenpaaDoor
open Go.RowKit

/-- They say the same, wherever their lists lie. -/
def SameO (o p : ObjL) : Prop := o.kind = p.kind ∧ o.blob = p.blob ∧ o.es = p.es ∧ o.com.parents = p.com.parents ∧ o.com.tree = p.com.tree ∧ o.com.who = p.com.who ∧ o.com.time = p.com.time ∧ o.com.text = p.com.text ∧ o.tag = p.tag

set_option maxRecDepth 100000 in
set_option maxHeartbeats 8000000 in
theorem Same_any (o p : ObjL) (w : World) (hg1 : ObjL.Good w o) (hg2 : ObjL.Good w p) :
    Calls Tryd.prog 10 #[.agg o.row.toArray, .agg p.row.toArray] w fun e w' => ∃ r : Bool, e = .returned (.bool r) ∧ (r = true ↔ SameO o p) ∧ Kept [] w w' := by
  obtain ⟨ab1, cb1, e1⟩ : ∃ ao cap, o.bv = .slice ao o.blob.length cap := by obtain ⟨a, c, h, _⟩ := hg1.bv; exact ⟨a, c, h⟩
  obtain ⟨ab2, cb2, e2⟩ : ∃ ao cap, p.bv = .slice ao p.blob.length cap := by obtain ⟨a, c, h, _⟩ := hg2.bv; exact ⟨a, c, h⟩
  obtain ⟨ae1, ce1, e3⟩ : ∃ ao cap, o.ev = .slice ao o.es.length cap := by obtain ⟨a, c, h, _⟩ := hg1.ev.form; exact ⟨a, c, h⟩
  obtain ⟨ae2, ce2, e4⟩ : ∃ ao cap, p.ev = .slice ao p.es.length cap := by obtain ⟨a, c, h, _⟩ := hg2.ev.form; exact ⟨a, c, h⟩
  obtain ⟨ao1, cap1, e5⟩ : ∃ ao cap, o.pv = .slice ao o.com.parents.length cap := by obtain ⟨a, c, h, _⟩ := hg1.pv; exact ⟨a, c, h⟩
  obtain ⟨ao2, cap2, e6⟩ : ∃ ao cap, p.pv = .slice ao p.com.parents.length cap := by obtain ⟨a, c, h, _⟩ := hg2.pv; exact ⟨a, c, h⟩
  have HS : Hid (SameO o p ↔ o.kind = p.kind ∧ o.blob = p.blob ∧ o.es = p.es ∧ o.com.parents = p.com.parents ∧ o.com.tree = p.com.tree ∧ o.com.who = p.com.who ∧ o.com.time = p.com.time ∧ o.com.text = p.com.text ∧ o.tag = p.tag) := Iff.rfl
  have hl1 := hg1.com.tree.1
  have hl2 := hg2.com.tree.1
  have htl1 : o.tag.target.length = 32 := hg1.tag.target.1
  have htl2 : p.tag.target.length = 32 := hg2.tag.target.1
  obtain ⟨wb, hwb⟩ : ∃ x, x = (w.alloc (.cells o.row.toArray 33)).alloc (.cells p.row.toArray 33) := ⟨_, rfl⟩
  have HK0 : Hid (Kept [] w wb) := by rw [hwb]; exact ((Kept.refl _ _).alloc _).alloc _
  have HB1 : Hid (wb.heap[w.heap.size]? = some (.cells o.row.toArray 33 (0, 0))) := by rw [hwb]; exact (Below.heap_alloc _ _ _ (by rw [World.size_alloc]; omega)).trans (heap_alloc_new w _)
  have HB2 : Hid (wb.heap[w.heap.size + 1]? = some (.cells p.row.toArray 33 (0, 0))) := by
    have h := heap_alloc_new (w.alloc (.cells o.row.toArray 33)) (.cells p.row.toArray 33)
    rw [World.size_alloc] at h
    rw [hwb]; exact h
  obtain ⟨n1, hn1⟩ : ∃ n, n = o.es.length := ⟨_, rfl⟩
  obtain ⟨n2, hn2⟩ : ∃ n, n = p.es.length := ⟨_, rfl⟩
  obtain ⟨m1, hm1⟩ : ∃ n, n = o.com.parents.length := ⟨_, rfl⟩
  obtain ⟨m2, hm2⟩ : ∃ n, n = p.com.parents.length := ⟨_, rfl⟩
  rw [← hn1] at e3
  rw [← hn2] at e4
  rw [← hm1] at e5
  rw [← hm2] at e6
  have HC : Hid (∀ W, Kept [] wb W → W.cell? ⟨w.heap.size, 0, none⟩ = some (.int .i64 o.kind) ∧ W.cell? ⟨w.heap.size, 1, none⟩ = some (.slice ab1 o.blob.length cb1) ∧ W.cell? ⟨w.heap.size, 2, none⟩ = some (.slice ae1 n1 ce1) ∧ W.rangeAt w.heap.size 3 (o.com.row (.slice ao1 m1 cap1)) ∧ W.rangeAt w.heap.size 39 o.tag.row ∧
      W.cell? ⟨w.heap.size + 1, 0, none⟩ = some (.int .i64 p.kind) ∧ W.cell? ⟨w.heap.size + 1, 1, none⟩ = some (.slice ab2 p.blob.length cb2) ∧ W.cell? ⟨w.heap.size + 1, 2, none⟩ = some (.slice ae2 n2 ce2) ∧ W.rangeAt (w.heap.size + 1) 3 (p.com.row (.slice ao2 m2 cap2)) ∧ W.rangeAt (w.heap.size + 1) 39 p.tag.row) := fun W hW => by
    obtain ⟨a1, a2, a3, a4, a5⟩ := obj_cells (o := o) hl1 (hW.heap HB1.out (by simp))
    obtain ⟨b1, b2, b3, b4, b5⟩ := obj_cells (o := p) hl2 (hW.heap HB2.out (by simp))
    rw [e1] at a2
    rw [e3] at a3
    rw [e5] at a4
    rw [e2] at b2
    rw [e4] at b3
    rw [e6] at b4
    exact ⟨a1, a2, a3, a4, a5, b1, b2, b3, b4, b5⟩
  have HP : Hid (∀ W, Kept [] wb W → W.cell? ⟨w.heap.size, 35, none⟩ = some (.slice ao1 m1 cap1) ∧ W.cell? ⟨w.heap.size + 1, 35, none⟩ = some (.slice ao2 m2 cap2)) := fun W hW => by
    obtain ⟨_, _, _, a4, _, _, _, _, b4, _⟩ := HC.out W hW
    have key : ∀ (c : ComL) (pv : Value), c.tree.length = 32 → (c.row pv)[32]? = some pv := fun c pv hl => by
      unfold ComL.row
      rw [List.getElem?_append_right (by rw [List.length_map, hl]; exact Nat.le_refl _), List.length_map, hl]
      rfl
    exact ⟨a4 32 _ (key o.com (.slice ao1 m1 cap1) hl1), b4 32 _ (key p.com (.slice ao2 m2 cap2) hl2)⟩
  have HV1 : Hid (∀ W, Kept [] wb W → IdsAt W (.slice ao1 m1 cap1) o.com.parents) := fun W hW => by rw [← e5]; exact hg1.pv.keep (HK0.out.then hW) (fun _ _ _ => by simp)
  have HV2 : Hid (∀ W, Kept [] wb W → IdsAt W (.slice ao2 m2 cap2) p.com.parents) := fun W hW => by rw [← e6]; exact hg2.pv.keep (HK0.out.then hW) (fun _ _ _ => by simp)
  have HN1 : Hid (∀ W, Kept [] wb W → EntsAt W (.slice ae1 n1 ce1) o.es) := fun W hW => by rw [← e3]; exact hg1.ev.keep (HK0.out.then hW) (fun _ _ _ => by simp)
  have HN2 : Hid (∀ W, Kept [] wb W → EntsAt W (.slice ae2 n2 ce2) p.es) := fun W hW => by rw [← e4]; exact hg2.ev.keep (HK0.out.then hW) (fun _ _ _ => by simp)
  have heq0 := Eq_any (w := wb) (hg1.bv.keep HK0.out (fun _ _ _ => by simp)) (hg2.bv.keep HK0.out (fun _ _ _ => by simp)) (Nat.le_trans hg1.blob.2 (by decide)) (Nat.le_trans hg2.blob.2 (by decide))
  rw [e1, e2] at heq0
  obtain ⟨bq, hbq⟩ : ∃ b, b = decide (o.blob = p.blob) := ⟨_, rfl⟩
  rw [← hbq] at heq0
  have HBQ : Hid (bq = true ↔ o.blob = p.blob) := by rw [hbq, decide_eq_true_iff]; exact Iff.rfl
  have HG1 : Hid (∀ x, x ∈ o.com.parents → GoodID x) := hg1.com.parents
  have HG2 : Hid (∀ x, x ∈ p.com.parents → GoodID x) := hg2.com.parents
  have HGE1 : Hid (∀ x, x ∈ o.es → x.Good) := hg1.es
  have HGE2 : Hid (∀ x, x ∈ p.es → x.Good) := hg2.es
  have HCg : Hid (o.com.Good ∧ p.com.Good ∧ o.tag.Good ∧ p.tag.Good) := ⟨hg1.com, hg2.com, hg1.tag, hg2.tag⟩
  have hlen : m1 ≤ 140737488351232 := by rw [hm1]; obtain ⟨_, _, _, _, _, h, _⟩ := hg1.pv; exact h
  have hlenE : n1 ≤ 140737488351232 := by rw [hn1]; obtain ⟨_, _, _, _, h, _⟩ := hg1.ev.form; exact h
  have hlen' : m2 ≤ 140737488351232 := by rw [hm2]; obtain ⟨_, _, _, _, _, h, _⟩ := hg2.pv; exact h
  have hlenE' : n2 ≤ 140737488351232 := by rw [hn2]; obtain ⟨_, _, _, _, h, _⟩ := hg2.ev.form; exact h
  have HNN : Hid (n1 = o.es.length ∧ n2 = p.es.length ∧ m1 = o.com.parents.length ∧ m2 = p.com.parents.length) := ⟨hn1, hn2, hm1, hm2⟩
  obtain ⟨a1, a2, a3, -, -, b1, b2, b3, -, -⟩ := HC.out wb (Kept.refl _ _)
  obtain ⟨q1, q2⟩ := HP.out wb (Kept.refl _ _)
  subst hwb
  clear hg1 hg2 hbq e1 e2 e3 e4 e5 e6 hn1 hn2 hm1 hm2
  generalize o.row.toArray = o1 at *
  generalize p.row.toArray = o2 at *
  generalize SameO o p = SS at *
  by_cases hkd : o.kind = p.kind
  case neg =>
    have t1 : (o.kind != p.kind) = true := by simpa using hkd
    have HF : Hid (¬ SS) := fun h => hkd (HS.out.1 h).1
    clear hkd heq0
    generalize o.kind = d1 at *
    generalize p.kind = d2 at *
    go_enter Tryd.func10, Tryd.ntmps10
    go_wp2
    go_ret
    exact ⟨_, rfl, ⟨fun h => by (cases h), fun h => absurd h HF.out⟩, HK0.out⟩
  rw [← hkd] at b1
  have HCO := HC
  clear HC
  have HC : Hid (∀ W, Kept [] ((w.alloc (.cells o1 33)).alloc (.cells o2 33)) W → W.cell? ⟨w.heap.size, 2, none⟩ = some (.slice ae1 n1 ce1) ∧ W.rangeAt w.heap.size 3 (o.com.row (.slice ao1 m1 cap1)) ∧ W.rangeAt w.heap.size 39 o.tag.row ∧
      W.cell? ⟨w.heap.size + 1, 2, none⟩ = some (.slice ae2 n2 ce2) ∧ W.rangeAt (w.heap.size + 1) 3 (p.com.row (.slice ao2 m2 cap2)) ∧ W.rangeAt (w.heap.size + 1) 39 p.tag.row) := fun W hW => by
    obtain ⟨_, _, a3, a4, a5, _, _, b3, b4, b5⟩ := HCO.out W hW
    exact ⟨a3, a4, a5, b3, b4, b5⟩
  clear HCO
  have HKD : Hid (o.kind = p.kind) := hkd
  clear hkd
  generalize o.kind = d1 at *
  go_enter Tryd.func10, Tryd.ntmps10
  go_wp2_with fail
  go_at_call 12
  refine heq0.mono ?_
  rintro e w1 ⟨rfl, k1, hw1⟩
  have HKd : Hid (Kept [] ((w.alloc (.cells o1 33)).alloc (.cells o2 33)) w1) := by rw [hw1]; exact (Kept.refl _ _).drewN k1
  clear a1 a2 a3 b1 b2 b3 q1 q2
  obtain ⟨a3, -, -, b3, -, -⟩ := HC.out w1 HKd.out
  obtain ⟨q1, q2⟩ := HP.out w1 HKd.out
  clear heq0 hw1
  cases bq
  case false =>
    have HF : Hid (¬ SS) := fun h => absurd (HBQ.out.2 (HS.out.1 h).2.1) (by decide)
    go_wp2
    go_ret
    exact ⟨_, rfl, ⟨fun h => by (cases h), fun h => absurd h HF.out⟩, HK0.out.then HKd.out⟩
  by_cases hne : n1 = n2
  case neg =>
    have HF : Hid (¬ SS) := fun h => hne (by have h1 := (HS.out.1 h).2.2.1; obtain ⟨u1, u2, _, _⟩ := HNN.out; rw [u1, u2, h1])
    have t1 : ((n1 : Int) != (n2 : Int)) = true := by simp; omega
    go_wp2
    go_ret
    exact ⟨_, rfl, ⟨fun h => by (cases h), fun h => absurd h HF.out⟩, HK0.out.then HKd.out⟩
  subst hne
  by_cases hmm : m1 = m2
  case neg =>
    have HF : Hid (¬ SS) := fun h => hmm (by have h1 := (HS.out.1 h).2.2.2.1; obtain ⟨_, _, u1, u2⟩ := HNN.out; rw [u1, u2, h1])
    have t1 : ((m1 : Int) != (m2 : Int)) = true := by simp; omega
    go_wp2
    go_ret
    exact ⟨_, rfl, ⟨fun h => by (cases h), fun h => absurd h HF.out⟩, HK0.out.then HKd.out⟩
  subst hmm
  go_wp2
  clear a3 b3 q1 q2
  have hui := Tryd.underlying25
  have hue := Tryd.underlying74
  go_loopw [5] (fun s5 wr => ∃ k : Nat, k ≤ n1 ∧ s5 = .int .i64 k ∧ Hid (Kept [] ((w.alloc (.cells o1 33)).alloc (.cells o2 33)) wr) ∧ Hid (∀ i : Nat, i < k → o.es[i]? = p.es[i]?)) (fun s5 _ => n1 - (intOf s5).toNat)
  case atStart => exact ⟨0, Nat.zero_le _, rfl, HKd, fun i hi => by omega⟩
  case round =>
    obtain ⟨k, hk, rfl, HK, HE⟩ := hrel
    obtain ⟨x3, -, -, y3, -, -⟩ := HC.out wr HK.out
    by_cases hlt : k < n1
    · obtain ⟨u1, u2, _, _⟩ := HNN.out
      obtain ⟨x, hx⟩ : ∃ x, o.es[k]? = some x := ⟨_, List.getElem?_eq_getElem (show k < o.es.length by omega)⟩
      obtain ⟨y, hy⟩ : ∃ y, p.es[k]? = some y := ⟨_, List.getElem?_eq_getElem (show k < p.es.length by omega)⟩
      have hgx := HGE1.out x (List.mem_of_getElem? hx)
      have hgy := HGE2.out y (List.mem_of_getElem? hy)
      have hne1 : o.es ≠ [] := fun e => by rw [e] at hx; cases hx
      have hne2 : p.es ≠ [] := fun e => by rw [e] at hy; cases hy
      obtain ⟨ao', cap', he, _, _, hc⟩ := (HN1.out wr HK.out).form
      injection he with e1 e2 e3
      subst e1 e3
      obtain ⟨b1', off1, rfl, hh1⟩ := hc hne1
      obtain ⟨ao', cap', he, _, _, hc⟩ := (HN2.out wr HK.out).form
      injection he with e1 e2 e3
      subst e1 e3
      obtain ⟨b2', off2, rfl, hh2⟩ := hc hne2
      have hsy : (Tryd.prog.info? 74).map (·.size) = some y.row.length := by rw [EntL.row_len hgy.id]; exact Tryd.infoEnt
      have hso : (Tryd.prog.info? 74).map (·.size) = some x.row.length := by rw [EntL.row_len hgx.id]; exact Tryd.infoEnt
      obtain ⟨rb, hrb, heqf⟩ := entTwo x y hgx hgy
      have HRB : Hid (rb = true ↔ o.es[k]? = p.es[k]?) := by rw [hrb, hx, hy, Option.some.injEq]; exact Iff.rfl
      have HR1 : Hid (∀ W, Kept [] wr W → W.rangeAt b1' (off1 + k * 34) x.row) := fun W hW => range_kept (hh1 k x hx) hW (by simp)
      have HR2 : Hid (∀ W, Kept [] wr W → W.rangeAt b2' (off2 + k * 34) y.row) := fun W hW => range_kept (hh2 k y hy) hW (by simp)
      have HD1 : Hid (∀ W, Kept [] wr W → W.cell? ⟨w.heap.size, 2, none⟩ = some (.slice (some ⟨b1', off1, none⟩) n1 ce1)) := fun W hW => hW.cell x3 (by simp)
      have HD2 : Hid (∀ W, Kept [] wr W → W.cell? ⟨w.heap.size + 1, 2, none⟩ = some (.slice (some ⟨b2', off2, none⟩) n1 ce2)) := fun W hW => hW.cell y3 (by simp)
      have HKK : Hid (∀ W, Kept [] wr W → Kept [] ((w.alloc (.cells o1 33)).alloc (.cells o2 33)) W) := fun W hW => HK.out.then hW
      clear hh1 hh2 hc hx hgx hy hgy hrb u1 u2 hne1 hne2
      generalize x.row = xr at *
      generalize y.row = yr at *
      go_wp2_with fail
      refine region_quiet (Kept [] wr) (by kernel_rfl) (by kernel_rfl) (Kept.refl [] wr).drew ?_
      refine quiet_val (by rfl) (.pointer (some ⟨w.heap.size, 2, none⟩)) (fun W => by go_simp) ?_
      simp only [Act.put, List.setIfInBounds_toArray, List.set_cons_zero, List.set_cons_succ]
      refine valC (by rfl) (.slice (some ⟨b1', off1, none⟩) n1 ce1) (fun W hW => by have hcc := HD1.out W hW; go_simp) ?_
      simp only [Act.put, List.setIfInBounds_toArray, List.set_cons_zero, List.set_cons_succ]
      refine quiet_move (by rfl) (.tmp 5) rfl (.int .i64 k) rfl ?_
      simp only [Act.put, List.setIfInBounds_toArray, List.set_cons_zero, List.set_cons_succ]
      refine quiet_val (by rfl) (.pointer (some ⟨b1', off1 + k * 34, none⟩)) (fun W => by go_simp) ?_
      simp only [Act.put, List.setIfInBounds_toArray, List.set_cons_zero, List.set_cons_succ]
      refine quiet_row (by rfl) _ _ rfl b1' (off1 + k * 34) rfl xr _ HR1.out hue rfl hso ?_
      simp only [Act.put, List.setIfInBounds_toArray, List.set_cons_zero, List.set_cons_succ]
      refine quiet_val (by rfl) (.pointer (some ⟨w.heap.size + 1, 2, none⟩)) (fun W => by go_simp) ?_
      simp only [Act.put, List.setIfInBounds_toArray, List.set_cons_zero, List.set_cons_succ]
      refine valC (by rfl) (.slice (some ⟨b2', off2, none⟩) n1 ce2) (fun W hW => by have hcc := HD2.out W hW; go_simp) ?_
      simp only [Act.put, List.setIfInBounds_toArray, List.set_cons_zero, List.set_cons_succ]
      refine quiet_move (by rfl) (.tmp 5) rfl (.int .i64 k) rfl ?_
      simp only [Act.put, List.setIfInBounds_toArray, List.set_cons_zero, List.set_cons_succ]
      refine quiet_val (by rfl) (.pointer (some ⟨b2', off2 + k * 34, none⟩)) (fun W => by go_simp) ?_
      simp only [Act.put, List.setIfInBounds_toArray, List.set_cons_zero, List.set_cons_succ]
      refine quiet_row (by rfl) _ _ rfl b2' (off2 + k * 34) rfl yr _ HR2.out hue rfl hsy ?_
      simp only [Act.put, List.setIfInBounds_toArray, List.set_cons_zero, List.set_cons_succ]
      refine quiet_neqE (by rfl) (.tmp 53) (.tmp 58) _ rfl _ _ rfl rfl rb heqf ?_
      simp only [Act.put, List.setIfInBounds_toArray, List.set_cons_zero, List.set_cons_succ]
      refine wpQuiet_nil fun w3 hk3 => ?_
      have HK3 : Hid (Kept [] ((w.alloc (.cells o1 33)).alloc (.cells o2 33)) w3) := HKK.out w3 hk3
      clear hk3 HR1 HR2 HD1 HD2 HKK
      cases rb
      case false =>
        have HF : Hid (¬ SS) := fun h => absurd (HRB.out.2 (by rw [(HS.out.1 h).2.2.1])) (by decide)
        go_wp2
        go_ret
        exact ⟨_, rfl, ⟨fun h => by (cases h), fun h => absurd h HF.out⟩, HK0.out.then HK3.out⟩
      have HE2 : Hid (∀ i : Nat, i < k + 1 → o.es[i]? = p.es[i]?) := fun i hi => by
        rcases Nat.lt_or_eq_of_le (Nat.le_of_lt_succ hi) with h | h
        · exact HE.out i h
        · rw [h]; exact HRB.out.1 rfl
      go_wp2
      go_roundw
      case rel => exact ⟨k + 1, by omega, by go_num, HK3, HE2⟩
      case measure => simp [intOf]; omega
    · have tE : decide ((k : Int) < (n1 : Int)) = false := decide_eq_false (by omega)
      have tE2 : ¬ k < n1 := hlt
      have HES : Hid (o.es = p.es) := List.ext_getElem? fun i => by
        obtain ⟨u1, u2, _, _⟩ := HNN.out
        rcases Nat.lt_or_ge i k with h | h
        · exact HE.out i h
        · rw [List.getElem?_eq_none (by omega), List.getElem?_eq_none (by omega)]
      obtain ⟨x35, _⟩ := HP.out wr HK.out
      go_wp2
      go_loopw [6] (fun s6 wr => ∃ k : Nat, k ≤ m1 ∧ s6 = .int .i64 k ∧ Hid (Kept [] ((w.alloc (.cells o1 33)).alloc (.cells o2 33)) wr) ∧ Hid (∀ i : Nat, i < k → o.com.parents[i]? = p.com.parents[i]?)) (fun s6 _ => m1 - (intOf s6).toNat)
      case atStart => exact ⟨0, Nat.zero_le _, rfl, HK, fun i hi => by omega⟩
      case round =>
        clear HK x3 y3 x35 HE
        obtain ⟨k, hk, rfl, HK, HE⟩ := hrel
        obtain ⟨y35, z35⟩ := HP.out wr HK.out
        by_cases hlt : k < m1
        · obtain ⟨_, _, u1, u2⟩ := HNN.out
          obtain ⟨z, ho⟩ : ∃ z, o.com.parents[k]? = some z := ⟨_, List.getElem?_eq_getElem (show k < o.com.parents.length by omega)⟩
          obtain ⟨y, hy⟩ : ∃ y, p.com.parents[k]? = some y := ⟨_, List.getElem?_eq_getElem (show k < p.com.parents.length by omega)⟩
          have hgo := HG1.out z (List.mem_of_getElem? ho)
          have hgy := HG2.out y (List.mem_of_getElem? hy)
          have hne1 : o.com.parents ≠ [] := fun e => by rw [e] at ho; cases ho
          have hne2 : p.com.parents ≠ [] := fun e => by rw [e] at hy; cases hy
          obtain ⟨ao', cap', he, _, _, _, hc⟩ := HV1.out wr HK.out
          injection he with e1 e2 e3
          subst e1 e3
          obtain ⟨b1', off1, rfl, hh1⟩ := hc hne1
          obtain ⟨ao', cap', he, _, _, _, hc⟩ := HV2.out wr HK.out
          injection he with e1 e2 e3
          subst e1 e3
          obtain ⟨b2', off2, rfl, hh2⟩ := hc hne2
          have hsy : (Tryd.prog.info? 25).map (·.size) = some (y.map (Value.int .u8)).length := by rw [List.length_map, hgy.1]; exact Tryd.infoID
          have hso : (Tryd.prog.info? 25).map (·.size) = some (z.map (Value.int .u8)).length := by rw [List.length_map, hgo.1]; exact Tryd.infoID
          obtain ⟨rb, hrb⟩ : ∃ r, r = decide (z = y) := ⟨_, rfl⟩
          have heqf : ∀ W, (Op.equalIn 10000 25 (.agg (z.map (Value.int .u8)).toArray) (.agg (y.map (Value.int .u8)).toArray)).run Tryd.prog W = .ok rb W := fun W => by
            rw [hrb]
            exact idEq z y W hgo.1 hgy.1
          have HRB : Hid (rb = true ↔ o.com.parents[k]? = p.com.parents[k]?) := by rw [hrb, ho, hy, Option.some.injEq, decide_eq_true_iff]; exact Iff.rfl
          have HR1 : Hid (∀ W, Kept [] wr W → W.rangeAt b1' (off1 + k * 32) (z.map (Value.int .u8))) := fun W hW => range_kept (hh1 k z ho) hW (by simp)
          have HR2 : Hid (∀ W, Kept [] wr W → W.rangeAt b2' (off2 + k * 32) (y.map (Value.int .u8))) := fun W hW => range_kept (hh2 k y hy) hW (by simp)
          have HD1 : Hid (∀ W, Kept [] wr W → W.cell? ⟨w.heap.size, 35, none⟩ = some (.slice (some ⟨b1', off1, none⟩) m1 cap1)) := fun W hW => hW.cell y35 (by simp)
          have HD2 : Hid (∀ W, Kept [] wr W → W.cell? ⟨w.heap.size + 1, 35, none⟩ = some (.slice (some ⟨b2', off2, none⟩) m1 cap2)) := fun W hW => hW.cell z35 (by simp)
          have HKK : Hid (∀ W, Kept [] wr W → Kept [] ((w.alloc (.cells o1 33)).alloc (.cells o2 33)) W) := fun W hW => HK.out.then hW
          clear hh1 hh2 hc ho hgo hy hgy hrb u1 u2 hne1 hne2
          go_wp2_with fail
          refine region_quiet (Kept [] wr) (by kernel_rfl) (by kernel_rfl) (Kept.refl [] wr).drew ?_
          refine quiet_val (by rfl) (.pointer (some ⟨w.heap.size, 3, none⟩)) (fun W => by go_simp) ?_
          simp only [Act.put, List.setIfInBounds_toArray, List.set_cons_zero, List.set_cons_succ]
          refine quiet_val (by rfl) (.pointer (some ⟨w.heap.size, 35, none⟩)) (fun W => by go_simp) ?_
          simp only [Act.put, List.setIfInBounds_toArray, List.set_cons_zero, List.set_cons_succ]
          refine valC (by rfl) (.slice (some ⟨b1', off1, none⟩) m1 cap1) (fun W hW => by have hcc := HD1.out W hW; go_simp) ?_
          simp only [Act.put, List.setIfInBounds_toArray, List.set_cons_zero, List.set_cons_succ]
          refine quiet_move (by rfl) (.tmp 6) rfl (.int .i64 k) rfl ?_
          simp only [Act.put, List.setIfInBounds_toArray, List.set_cons_zero, List.set_cons_succ]
          refine quiet_val (by rfl) (.pointer (some ⟨b1', off1 + k * 32, none⟩)) (fun W => by go_simp) ?_
          simp only [Act.put, List.setIfInBounds_toArray, List.set_cons_zero, List.set_cons_succ]
          refine quiet_row (by rfl) _ _ rfl b1' (off1 + k * 32) rfl (z.map (Value.int .u8)) _ HR1.out hui rfl hso ?_
          simp only [Act.put, List.setIfInBounds_toArray, List.set_cons_zero, List.set_cons_succ]
          refine quiet_val (by rfl) (.pointer (some ⟨w.heap.size + 1, 3, none⟩)) (fun W => by go_simp) ?_
          simp only [Act.put, List.setIfInBounds_toArray, List.set_cons_zero, List.set_cons_succ]
          refine quiet_val (by rfl) (.pointer (some ⟨w.heap.size + 1, 35, none⟩)) (fun W => by go_simp) ?_
          simp only [Act.put, List.setIfInBounds_toArray, List.set_cons_zero, List.set_cons_succ]
          refine valC (by rfl) (.slice (some ⟨b2', off2, none⟩) m1 cap2) (fun W hW => by have hcc := HD2.out W hW; go_simp) ?_
          simp only [Act.put, List.setIfInBounds_toArray, List.set_cons_zero, List.set_cons_succ]
          refine quiet_move (by rfl) (.tmp 6) rfl (.int .i64 k) rfl ?_
          simp only [Act.put, List.setIfInBounds_toArray, List.set_cons_zero, List.set_cons_succ]
          refine quiet_val (by rfl) (.pointer (some ⟨b2', off2 + k * 32, none⟩)) (fun W => by go_simp) ?_
          simp only [Act.put, List.setIfInBounds_toArray, List.set_cons_zero, List.set_cons_succ]
          refine quiet_row (by rfl) _ _ rfl b2' (off2 + k * 32) rfl (y.map (Value.int .u8)) _ HR2.out hui rfl hsy ?_
          simp only [Act.put, List.setIfInBounds_toArray, List.set_cons_zero, List.set_cons_succ]
          refine quiet_neq (by rfl) (.tmp 73) (.tmp 79) _ rfl _ _ rfl rfl rb heqf ?_
          simp only [Act.put, List.setIfInBounds_toArray, List.set_cons_zero, List.set_cons_succ]
          refine wpQuiet_nil fun w3 hk3 => ?_
          have HK3 : Hid (Kept [] ((w.alloc (.cells o1 33)).alloc (.cells o2 33)) w3) := HKK.out w3 hk3
          clear hk3 HR1 HR2 HD1 HD2 HKK
          cases rb
          case false =>
            have HF : Hid (¬ SS) := fun h => absurd (HRB.out.2 (by rw [(HS.out.1 h).2.2.2.1])) (by decide)
            go_wp2
            go_ret
            exact ⟨_, rfl, ⟨fun h => by (cases h), fun h => absurd h HF.out⟩, HK0.out.then HK3.out⟩
          have HE2 : Hid (∀ i : Nat, i < k + 1 → o.com.parents[i]? = p.com.parents[i]?) := fun i hi => by
            rcases Nat.lt_or_eq_of_le (Nat.le_of_lt_succ hi) with h | h
            · exact HE.out i h
            · rw [h]; exact HRB.out.1 rfl
          go_wp2
          go_roundw
          case rel => exact ⟨k + 1, by omega, by go_num, HK3, HE2⟩
          case measure => simp [intOf]; omega
        · obtain rfl : m1 = k := by omega
          have HPS : Hid (o.com.parents = p.com.parents) := List.ext_getElem? fun i => by
            obtain ⟨_, _, u1, u2⟩ := HNN.out
            rcases Nat.lt_or_ge i m1 with h | h
            · exact HE.out i h
            · rw [List.getElem?_eq_none (by omega), List.getElem?_eq_none (by omega)]
          go_wp2_with fail
          obtain ⟨-, r1, g1, -, r2, g2⟩ := HC.out wr HK.out
          have huc := Tryd.underlying29
          obtain ⟨R1, hR1⟩ : ∃ R, R = o.com.row (.slice ao1 m1 cap1) := ⟨_, rfl⟩
          obtain ⟨R2, hR2⟩ : ∃ R, R = p.com.row (.slice ao2 m1 cap2) := ⟨_, rfl⟩
          have HR1 : Hid (R1 = o.com.row (.slice ao1 m1 cap1)) := hR1
          have HR2 : Hid (R2 = p.com.row (.slice ao2 m1 cap2)) := hR2
          have hs1 : (Tryd.prog.info? 29).map (·.size) = some R1.length := by rw [hR1, ComL.row_len hl1]; kernel_rfl
          have hs2 : (Tryd.prog.info? 29).map (·.size) = some R2.length := by rw [hR2, ComL.row_len hl2]; kernel_rfl
          have HZ1 : Hid (R1.toArray.size = 36) := by rw [hR1, List.size_toArray, ComL.row_len hl1]; rfl
          have HZ2 : Hid (R2.toArray.size = 36) := by rw [hR2, List.size_toArray, ComL.row_len hl2]; rfl
          have hone : ∀ (c : ComL) ao cap, (c.row (.slice ao m1 cap)).toArray.all (·.oneCell') = true := fun c ao cap => by
            unfold ComL.row
            simp [Value.oneCell']
          have ho1 : R1.toArray.all (·.oneCell') = true := by rw [hR1]; exact hone _ _ _
          have ho2 : R2.toArray.all (·.oneCell') = true := by rw [hR2]; exact hone _ _ _
          rw [← hR1] at r1
          rw [← hR2] at r2
          clear hR1 hR2 hone
          have HQ1 : Hid (∀ W, Kept [] wr W → W.rangeAt w.heap.size 3 R1) := fun W hW => range_kept r1 hW (by simp)
          have HQ2 : Hid (∀ W, Kept [] wr W → W.rangeAt (w.heap.size + 1) 3 R2) := fun W hW => range_kept r2 hW (by simp)
          have hst1 : (Tryd.prog.info? 25).map (·.size) = some (o.com.tree.map (Value.int .u8)).length := by rw [List.length_map, hl1]; exact Tryd.infoID
          have hst2 : (Tryd.prog.info? 25).map (·.size) = some (p.com.tree.map (Value.int .u8)).length := by rw [List.length_map, hl2]; exact Tryd.infoID
          have hut := Tryd.underlying31
          obtain ⟨rt, hrt⟩ : ∃ r, r = decide (o.com.tree = p.com.tree) := ⟨_, rfl⟩
          have heqt : ∀ W, (Op.equalIn 10000 25 (.agg (o.com.tree.map (Value.int .u8)).toArray) (.agg (p.com.tree.map (Value.int .u8)).toArray)).run Tryd.prog W = .ok rt W := fun W => by
            rw [hrt]
            exact idEq o.com.tree p.com.tree W hl1 hl2
          have HRT : Hid (rt = true ↔ o.com.tree = p.com.tree) := by rw [hrt, decide_eq_true_iff]; exact Iff.rfl
          obtain ⟨cg1, cg2, tg1, tg2⟩ := HCg.out
          obtain ⟨rg, hrg, heqg⟩ := tagTwo o.tag p.tag tg1 tg2
          have HRG : Hid (rg = true ↔ o.tag = p.tag) := hrg
          have HW : Hid (strOfNums o.com.who = strOfNums p.com.who ↔ o.com.who = p.com.who) := strOfNums_inj cg1.who.1 cg2.who.1
          have HX : Hid (strOfNums o.com.text = strOfNums p.com.text ↔ o.com.text = p.com.text) := strOfNums_inj cg1.text.1 cg2.text.1
          have HL2 : Hid (strOfNums o.com.who ≠ strOfNums p.com.who → ((strOfNums o.com.who).toList == (strOfNums p.com.who).toList) = false) := fun h => by rw [str_lists cg1.who.1 cg2.who.1]; exact decide_eq_false (fun e => h (by rw [e]))
          have HL4 : Hid (strOfNums o.com.text ≠ strOfNums p.com.text → ((strOfNums o.com.text).toList == (strOfNums p.com.text).toList) = false) := fun h => by rw [str_lists cg1.text.1 cg2.text.1]; exact decide_eq_false (fun e => h (by rw [e]))
          obtain ⟨ZG, hZG⟩ : ∃ Z, Z = o.tag.row := ⟨_, rfl⟩
          obtain ⟨ZH, hZH⟩ : ∃ Z, Z = p.tag.row := ⟨_, rfl⟩
          have hsg : (Tryd.prog.info? 31).map (·.size) = some ZG.length := by rw [hZG, show o.tag.row.length = 37 by simp [TagL.row, htl1]]; kernel_rfl
          have hsh : (Tryd.prog.info? 31).map (·.size) = some ZH.length := by rw [hZH, show p.tag.row.length = 37 by simp [TagL.row, htl2]]; kernel_rfl
          rw [← hZG] at g1 heqg
          rw [← hZH] at g2 heqg
          have HALL : Hid (rt = true → strOfNums o.com.who = strOfNums p.com.who → o.com.time = p.com.time → strOfNums o.com.text = strOfNums p.com.text → rg = true → SS) := fun h1 h2 h3 h4 h5 => HS.out.2 ⟨HKD.out, HBQ.out.1 (by trivial), HES.out, HPS.out, HRT.out.1 h1, HW.out.1 h2, h3, HX.out.1 h4, HRG.out.1 h5⟩
          have HF1 : Hid (rt = false → ¬ SS) := fun h hs => by rw [HRT.out.2 (HS.out.1 hs).2.2.2.2.1] at h; cases h
          have HF2 : Hid (strOfNums o.com.who ≠ strOfNums p.com.who → ¬ SS) := fun h hs => h (HW.out.2 (HS.out.1 hs).2.2.2.2.2.1)
          have HF3 : Hid (o.com.time ≠ p.com.time → ¬ SS) := fun h hs => h (HS.out.1 hs).2.2.2.2.2.2.1
          have HF4 : Hid (strOfNums o.com.text ≠ strOfNums p.com.text → ¬ SS) := fun h hs => h (HX.out.2 (HS.out.1 hs).2.2.2.2.2.2.2.1)
          have HF5 : Hid (rg = false → ¬ SS) := fun h hs => by rw [HRG.out.2 (HS.out.1 hs).2.2.2.2.2.2.2.2] at h; cases h
          clear hZG hZH hrt hrg cg1 cg2 tg1 tg2 HW HX HRT HRG
          go_cut [7, 8] from 9 to 84 (fun s7 s8 wx => ∃ b7 b8, s7 = .pointer (some ⟨b7, 0, none⟩) ∧ s8 = .pointer (some ⟨b8, 0, none⟩) ∧ Hid (wx.heap[b7]? = some (.cells R1.toArray 29 (0, 0))) ∧ Hid (wx.heap[b8]? = some (.cells R2.toArray 29 (0, 0))) ∧ Hid (Kept [] wr wx))
          case first =>
            refine wp_region_held_drew (S := Kept [] wr) (by kernel_rfl) (Kept.refl [] wr).drew (fun hHeld => ?_)
            refine takeS 0 (v := .pointer (some ⟨w.heap.size, 3, none⟩)) (some 81) #[true, false, false, false, false, false, false, false] rfl rfl rfl (by kernel_rfl) (by kernel_rfl) (by kernel_rfl) (fun _ _ _ h => h) (Or.inl ⟨by rfl, fun W hSW => by go_simp⟩) hHeld ?_
            simp only [Act.put, List.setIfInBounds_toArray, List.set_cons_zero, List.set_cons_succ]
            refine takeS 1 (v := .agg R1.toArray) (some 82) #[true, true, false, false, false, false, false, false] rfl rfl rfl (by kernel_rfl) (by kernel_rfl) (by kernel_rfl) (fun _ _ _ h => h) (yieldsIf_load_mid (by rfl) 29 (.tmp 81) rfl w.heap.size 3 rfl R1 _ HQ1.out huc rfl hs1) hHeld ?_
            simp only [Act.put, List.setIfInBounds_toArray, List.set_cons_zero, List.set_cons_succ]
            refine takeS 2 (v := .pointer (some ⟨w.heap.size + 1, 3, none⟩)) (some 83) #[true, true, true, false, false, false, false, false] rfl rfl rfl (by kernel_rfl) (by kernel_rfl) (by kernel_rfl) (fun _ _ _ h => h) (Or.inl ⟨by rfl, fun W hSW => by go_simp⟩) hHeld ?_
            simp only [Act.put, List.setIfInBounds_toArray, List.set_cons_zero, List.set_cons_succ]
            refine takeS 3 (v := .agg R2.toArray) (some 84) #[true, true, true, true, false, false, false, false] rfl rfl rfl (by kernel_rfl) (by kernel_rfl) (by kernel_rfl) (fun _ _ _ h => h) (yieldsIf_load_mid (by rfl) 29 (.tmp 83) rfl (w.heap.size + 1) 3 rfl R2 _ HQ2.out huc rfl hs2) hHeld ?_
            simp only [Act.put, List.setIfInBounds_toArray, List.set_cons_zero, List.set_cons_succ]
            refine wpAnyH_ready (rs := [4, 5]) (by kernel_rfl) (by simp) (AllReadyH.cons rfl (fun K hK => ?_) (AllReadyH.cons rfl (fun K hK => ?_) AllReadyH.nil))
            · rw [if_pos (by rfl)]
              go_simp
              refine alloc_letterd (n := 36) rfl (fun W1 Z1 hz1 hb1 hz9 hk1 => ?_)
              refine hK.out _ _ hk1.out (fun hHeld => ?_)
              clear hK K
              refine wpAnyH_ready (rs := [5]) (by kernel_rfl) (by simp) (AllReadyH.cons rfl (fun K hK => ?_) AllReadyH.nil)
              rw [if_pos (by rfl)]
              clear hz9
              go_simp
              refine alloc_letter (n := 36) rfl (fun W2 Z2 hz2 hb2 hz8 hk2 => ?_)
              refine hK.out _ _ (hHeld.then hk2.out) (fun hHeld => ?_)
              clear hK K
              have hle : wr.heap.size < W1.heap.size := (Array.getElem?_eq_some_iff.1 hb1.out).1
              have hb1' : Hid (W2.heap[wr.heap.size]? = some (.cells Z1 29 (0, 0))) := hk2.out.heap hb1.out (by simp)
              refine wpAnyH_ready (rs := [6]) (by kernel_rfl) (by simp) (AllReadyH.cons rfl (fun K hK => ?_) AllReadyH.nil)
              rw [if_pos (by rfl)]
              refine wp_store_row 29 (.tmp 7) (.tmp 82) rfl wr.heap.size R1.toArray rfl rfl 29 _ hb1'.out (by rw [List.size_toArray]; exact hs1) (hz1.out.trans HZ1.out.symm) ho1 ?_
              refine hK.out _ _ (hHeld.setRowN (by omega) _) (fun hHeld => ?_)
              clear hK K
              refine wpAnyH_ready (rs := [7]) (by kernel_rfl) (by simp) (AllReadyH.cons rfl (fun K hK => ?_) AllReadyH.nil)
              rw [if_pos (by rfl)]
              have hc7 : Hid ((W2.setRow wr.heap.size R1.toArray).heap[wr.heap.size]? = some (.cells R1.toArray 29 (0, 0))) := setRow_heap _ _ _ _ _ _ hb1'.out
              refine wp_store_row 29 (.tmp 8) (.tmp 84) rfl W1.heap.size R2.toArray rfl rfl 29 _ ((setRow_other _ _ _ _ (by omega)).trans hb2.out) (by rw [List.size_toArray]; exact hs2) (hz2.out.trans HZ2.out.symm) ho2 ?_
              refine hK.out _ _ (hHeld.setRowN (by omega) _) (fun hHeld => ?_)
              clear hK K
              refine wpAnyH_done (by kernel_rfl) ?_ _
              have hd7 : Hid (((W2.setRow wr.heap.size R1.toArray).setRow W1.heap.size R2.toArray).heap[wr.heap.size]? = some (.cells R1.toArray 29 (0, 0))) := (setRow_other _ _ _ _ (by omega)).trans hc7.out
              have hd8 : Hid (((W2.setRow wr.heap.size R1.toArray).setRow W1.heap.size R2.toArray).heap[W1.heap.size]? = some (.cells R2.toArray 29 (0, 0))) := setRow_heap _ _ _ _ _ _ ((setRow_other _ _ _ _ (by omega)).trans hb2.out)
              have hn7 : wr.heap.size ≤ wr.heap.size := by omega
              have hn8 : wr.heap.size ≤ W1.heap.size := by omega
              have HK3 : Hid (Kept [] wr ((W2.setRow wr.heap.size R1.toArray).setRow W1.heap.size R2.toArray)) := hHeld
              clear hc7 hHeld hb1 hb2 hb1' hk1 hk2 hz1 hz2
              generalize (W2.setRow wr.heap.size R1.toArray).setRow W1.heap.size R2.toArray = W3 at *
              generalize hbb7 : wr.heap.size = b7 at *
              generalize hbb8 : W1.heap.size = b8 at *
              simp only [Act.put, List.setIfInBounds_toArray]
              go_wp2
              go_meet
              exact ⟨_, _, rfl, rfl, hd7, hd8, HK3⟩
            · rw [if_pos (by rfl)]
              go_simp
              refine alloc_letterd (n := 36) rfl (fun W1 Z1 hz1 hb1 hz9 hk1 => ?_)
              refine hK.out _ _ hk1.out (fun hHeld => ?_)
              clear hK K
              refine wpAnyH_ready (rs := [4]) (by kernel_rfl) (by simp) (AllReadyH.cons rfl (fun K hK => ?_) AllReadyH.nil)
              rw [if_pos (by rfl)]
              clear hz9
              go_simp
              refine alloc_letter (n := 36) rfl (fun W2 Z2 hz2 hb2 hz8 hk2 => ?_)
              refine hK.out _ _ (hHeld.then hk2.out) (fun hHeld => ?_)
              clear hK K
              have hle : wr.heap.size < W1.heap.size := (Array.getElem?_eq_some_iff.1 hb1.out).1
              have hb1' : Hid (W2.heap[wr.heap.size]? = some (.cells Z1 29 (0, 0))) := hk2.out.heap hb1.out (by simp)
              refine wpAnyH_ready (rs := [6]) (by kernel_rfl) (by simp) (AllReadyH.cons rfl (fun K hK => ?_) AllReadyH.nil)
              rw [if_pos (by rfl)]
              refine wp_store_row 29 (.tmp 7) (.tmp 82) rfl W1.heap.size R1.toArray rfl rfl 29 _ hb2.out (by rw [List.size_toArray]; exact hs1) (hz2.out.trans HZ1.out.symm) ho1 ?_
              refine hK.out _ _ (hHeld.setRowN (by omega) _) (fun hHeld => ?_)
              clear hK K
              refine wpAnyH_ready (rs := [7]) (by kernel_rfl) (by simp) (AllReadyH.cons rfl (fun K hK => ?_) AllReadyH.nil)
              rw [if_pos (by rfl)]
              have hc7 : Hid ((W2.setRow W1.heap.size R1.toArray).heap[W1.heap.size]? = some (.cells R1.toArray 29 (0, 0))) := setRow_heap _ _ _ _ _ _ hb2.out
              refine wp_store_row 29 (.tmp 8) (.tmp 84) rfl wr.heap.size R2.toArray rfl rfl 29 _ ((setRow_other _ _ _ _ (by omega)).trans hb1'.out) (by rw [List.size_toArray]; exact hs2) (hz1.out.trans HZ2.out.symm) ho2 ?_
              refine hK.out _ _ (hHeld.setRowN (by omega) _) (fun hHeld => ?_)
              clear hK K
              refine wpAnyH_done (by kernel_rfl) ?_ _
              have hd7 : Hid (((W2.setRow W1.heap.size R1.toArray).setRow wr.heap.size R2.toArray).heap[W1.heap.size]? = some (.cells R1.toArray 29 (0, 0))) := (setRow_other _ _ _ _ (by omega)).trans hc7.out
              have hd8 : Hid (((W2.setRow W1.heap.size R1.toArray).setRow wr.heap.size R2.toArray).heap[wr.heap.size]? = some (.cells R2.toArray 29 (0, 0))) := setRow_heap _ _ _ _ _ _ ((setRow_other _ _ _ _ (by omega)).trans hb1'.out)
              have hn7 : wr.heap.size ≤ W1.heap.size := by omega
              have hn8 : wr.heap.size ≤ wr.heap.size := by omega
              have HK3 : Hid (Kept [] wr ((W2.setRow W1.heap.size R1.toArray).setRow wr.heap.size R2.toArray)) := hHeld
              clear hc7 hHeld hb1 hb2 hb1' hk1 hk2 hz1 hz2
              generalize (W2.setRow W1.heap.size R1.toArray).setRow wr.heap.size R2.toArray = W3 at *
              generalize hbb7 : W1.heap.size = b7 at *
              generalize hbb8 : wr.heap.size = b8 at *
              simp only [Act.put, List.setIfInBounds_toArray]
              go_wp2
              go_meet
              exact ⟨_, _, rfl, rfl, hd7, hd8, HK3⟩
          case rest =>
            obtain ⟨b7, b8, rfl, rfl, hd7, hd8, HK3⟩ := hcut
            obtain ⟨t7, -, c733, c734, c735⟩ := com_cells (b := b7) hl1 (HR1.out ▸ hd7.out)
            obtain ⟨t8, -, c833, c834, c835⟩ := com_cells (b := b8) hl2 (HR2.out ▸ hd8.out)
            have z7 : wc.rangeAt w.heap.size 39 ZG := range_kept g1 HK3.out (by simp)
            have z8 : wc.rangeAt (w.heap.size + 1) 39 ZH := range_kept g2 HK3.out (by simp)
            clear HC HP HV1 HV2 HN1 HN2 HG1 HG2 HGE1 HGE2 HCg HNN HQ1 HQ2 g1 g2 HES HPS HE HR1 HR2 hd7 hd8 HB1 HB2 r1 r2 HZ1 HZ2 ho1 ho2 hs1 hs2 huc HKD HBQ HS HKd hlen hlen' hlenE hlenE' htl1 htl2 hl1 hl2 y35 z35
            generalize o.com.tree.map (Value.int .u8) = T1 at *
            generalize p.com.tree.map (Value.int .u8) = T2 at *
            generalize strOfNums o.com.who = S1 at *
            generalize strOfNums p.com.who = S2 at *
            generalize strOfNums o.com.text = X1 at *
            generalize strOfNums p.com.text = X2 at *
            generalize o.com.time = D1 at *
            generalize p.com.time = D2 at *
            cases rt
            case false =>
              have HF : Hid (¬ SS) := HF1.out rfl
              clear HF1 HF2 HF3 HF4 HF5 HALL
              go_wp2_with (first
                | go_big_skip
                | (refine wpList_load_mid (by rfl) 25 (.tmp 85) (by rfl) b7 0 (by rfl) T1 _ t7 hui rfl hst1 ?_)
                | (refine wpList_load_mid (by rfl) 25 (.tmp 87) (by rfl) b8 0 (by rfl) T2 _ t8 hui rfl hst2 ?_)
                | (refine wantedS (by rfl) fun K hK => wp_load_mid 31 (.tmp 112) (by rfl) w.heap.size 39 (by rfl) ZG _ z7 hut rfl hsg (hK _ _ ?_))
                | (refine wantedS (by rfl) fun K hK => wp_load_mid 31 (.tmp 114) (by rfl) (w.heap.size + 1) 39 (by rfl) ZH _ z8 hut rfl hsh (hK _ _ ?_)))
              go_ret
              exact ⟨_, rfl, ⟨fun h => by (cases h), fun h => absurd h HF.out⟩, HK0.out.then (HK.out.then HK3.out)⟩
            case true =>
              by_cases hq2 : S1 = S2
              case neg =>
                have HF : Hid (¬ SS) := HF2.out hq2
                have t2 := HL2.out hq2
                clear HF1 HF2 HF3 HF4 HF5 HALL
                go_wp2_with (first
                  | go_big_skip
                  | (refine wpList_load_mid (by rfl) 25 (.tmp 85) (by rfl) b7 0 (by rfl) T1 _ t7 hui rfl hst1 ?_)
                  | (refine wpList_load_mid (by rfl) 25 (.tmp 87) (by rfl) b8 0 (by rfl) T2 _ t8 hui rfl hst2 ?_)
                  | (refine wantedS (by rfl) fun K hK => wp_load_mid 31 (.tmp 112) (by rfl) w.heap.size 39 (by rfl) ZG _ z7 hut rfl hsg (hK _ _ ?_))
                  | (refine wantedS (by rfl) fun K hK => wp_load_mid 31 (.tmp 114) (by rfl) (w.heap.size + 1) 39 (by rfl) ZH _ z8 hut rfl hsh (hK _ _ ?_)))
                go_ret
                exact ⟨_, rfl, ⟨fun h => by (cases h), fun h => absurd h HF.out⟩, HK0.out.then (HK.out.then HK3.out)⟩
              case pos =>
                subst hq2
                by_cases hq3 : D1 = D2
                case neg =>
                  have HF : Hid (¬ SS) := HF3.out hq3
                  have t3 : (D1 == D2) = false := by simpa using hq3
                  clear HF1 HF2 HF3 HF4 HF5 HALL
                  go_wp2_with (first
                    | go_big_skip
                    | (refine wpList_load_mid (by rfl) 25 (.tmp 85) (by rfl) b7 0 (by rfl) T1 _ t7 hui rfl hst1 ?_)
                    | (refine wpList_load_mid (by rfl) 25 (.tmp 87) (by rfl) b8 0 (by rfl) T2 _ t8 hui rfl hst2 ?_)
                    | (refine wantedS (by rfl) fun K hK => wp_load_mid 31 (.tmp 112) (by rfl) w.heap.size 39 (by rfl) ZG _ z7 hut rfl hsg (hK _ _ ?_))
                    | (refine wantedS (by rfl) fun K hK => wp_load_mid 31 (.tmp 114) (by rfl) (w.heap.size + 1) 39 (by rfl) ZH _ z8 hut rfl hsh (hK _ _ ?_)))
                  go_ret
                  exact ⟨_, rfl, ⟨fun h => by (cases h), fun h => absurd h HF.out⟩, HK0.out.then (HK.out.then HK3.out)⟩
                case pos =>
                  subst hq3
                  by_cases hq4 : X1 = X2
                  case neg =>
                    have HF : Hid (¬ SS) := HF4.out hq4
                    have t4 := HL4.out hq4
                    clear HF1 HF2 HF3 HF4 HF5 HALL
                    go_wp2_with (first
                      | go_big_skip
                      | (refine wpList_load_mid (by rfl) 25 (.tmp 85) (by rfl) b7 0 (by rfl) T1 _ t7 hui rfl hst1 ?_)
                      | (refine wpList_load_mid (by rfl) 25 (.tmp 87) (by rfl) b8 0 (by rfl) T2 _ t8 hui rfl hst2 ?_)
                      | (refine wantedS (by rfl) fun K hK => wp_load_mid 31 (.tmp 112) (by rfl) w.heap.size 39 (by rfl) ZG _ z7 hut rfl hsg (hK _ _ ?_))
                      | (refine wantedS (by rfl) fun K hK => wp_load_mid 31 (.tmp 114) (by rfl) (w.heap.size + 1) 39 (by rfl) ZH _ z8 hut rfl hsh (hK _ _ ?_)))
                    go_ret
                    exact ⟨_, rfl, ⟨fun h => by (cases h), fun h => absurd h HF.out⟩, HK0.out.then (HK.out.then HK3.out)⟩
                  case pos =>
                    subst hq4
                    cases rg
                    case false =>
                      have HF : Hid (¬ SS) := HF5.out rfl
                      clear HF1 HF2 HF3 HF4 HF5 HALL
                      go_wp2_with (first
                        | go_big_skip
                        | (refine wpList_load_mid (by rfl) 25 (.tmp 85) (by rfl) b7 0 (by rfl) T1 _ t7 hui rfl hst1 ?_)
                        | (refine wpList_load_mid (by rfl) 25 (.tmp 87) (by rfl) b8 0 (by rfl) T2 _ t8 hui rfl hst2 ?_)
                        | (refine wantedS (by rfl) fun K hK => wp_load_mid 31 (.tmp 112) (by rfl) w.heap.size 39 (by rfl) ZG _ z7 hut rfl hsg (hK _ _ ?_))
                        | (refine wantedS (by rfl) fun K hK => wp_load_mid 31 (.tmp 114) (by rfl) (w.heap.size + 1) 39 (by rfl) ZH _ z8 hut rfl hsh (hK _ _ ?_)))
                      go_ret
                      exact ⟨_, rfl, ⟨fun h => by (cases h), fun h => absurd h HF.out⟩, HK0.out.then (HK.out.then HK3.out)⟩
                    case true =>
                      have HF : Hid SS := HALL.out rfl rfl rfl rfl rfl
                      clear HF1 HF2 HF3 HF4 HF5 HALL
                      go_wp2_with (first
                        | go_big_skip
                        | (refine wpList_load_mid (by rfl) 25 (.tmp 85) (by rfl) b7 0 (by rfl) T1 _ t7 hui rfl hst1 ?_)
                        | (refine wpList_load_mid (by rfl) 25 (.tmp 87) (by rfl) b8 0 (by rfl) T2 _ t8 hui rfl hst2 ?_)
                        | (refine wantedS (by rfl) fun K hK => wp_load_mid 31 (.tmp 112) (by rfl) w.heap.size 39 (by rfl) ZG _ z7 hut rfl hsg (hK _ _ ?_))
                        | (refine wantedS (by rfl) fun K hK => wp_load_mid 31 (.tmp 114) (by rfl) (w.heap.size + 1) 39 (by rfl) ZH _ z8 hut rfl hsh (hK _ _ ?_)))
                      go_ret
                      exact ⟨_, rfl, ⟨fun _ => HF.out, fun _ => rfl⟩, HK0.out.then (HK.out.then HK3.out)⟩
end Go.Proofs.YtnfbiemmdaenpaaDoor
