/-
  WALKS: an Ask to parse: (satchellaw3.Ask).holds.
  WALK: an Ask for the children, against the document's.
  WALKS: object.Id and satchelref3.Id, of any bytes.
-/
import Derived.Test.YtfcoeinhfdbcgaaGreatDoorGp5
import Derived.Test.YtfcoeinhfdbcgaaGreatDoorSame1
import Derived.Test.YtfcoeinhfdbcgaaGreatDoorLk0
import Derived.Test.YtfcoeinhfdbcgaaGreatDoorHd
import Derived.Test.YtfcoeinhfdbcgaaGreatDoorLk4
import Derived.Test.YtfcoeinhfdbcgaaGreatDoorRs6
namespace Go.Proofs.YtfcoeinhfdbcgaaGreatDoor
open Go.RowKit

theorem guessO_form (xs : List Int) (bv ev pv : Value) : guessO xs bv ev pv = { guessO xs nilV nilV nilV with bv := (guessO xs bv ev pv).bv, ev := (guessO xs bv ev pv).ev, pv := (guessO xs bv ev pv).pv } := by
  unfold guessO
  split
  · rfl
  · split
    · rfl
    · split
      · rfl
      · rfl
/-- Two that were read of the same bytes say the same. -/
theorem same_par (xs : List Int) {o p : ObjL} (h1 : parErr xs = 0 → ∃ bv ev pv, o = guessO xs bv ev pv) (h2 : parErr xs ≠ 0 → o = zeroO) (h3 : parErr xs = 0 → ∃ bv ev pv, p = guessO xs bv ev pv) (h4 : parErr xs ≠ 0 → p = zeroO) (w : World) (hg1 : ObjL.Good w o) (hg2 : ObjL.Good w p) :
    Calls Tryz.prog 11 #[.agg o.row.toArray, .agg p.row.toArray] w fun e w' => e = .returned (.bool true) ∧ Kept [] w w' := by
  by_cases he : parErr xs = 0
  · obtain ⟨b1, e1, p1, rfl⟩ := h1 he
    obtain ⟨b2, e2, p2, rfl⟩ := h3 he
    have hg1' := hg1
    have hg2' := hg2
    rw [guessO_form xs b1 e1 p1] at hg1'
    rw [guessO_form xs b2 e2 p2] at hg2'
    have h := Same_eq (guessO xs nilV nilV nilV) _ _ _ _ _ _ w hg1' hg2'
    rw [← guessO_form xs b1 e1 p1, ← guessO_form xs b2 e2 p2] at h
    exact h
  · obtain rfl := h2 he
    obtain rfl := h4 he
    exact Same_eq zeroO _ _ _ _ _ _ w hg1 hg2

set_option maxRecDepth 100000 in
set_option maxHeartbeats 4000000 in
theorem holdsParse_any (a : AskL) (h1 : a.doo = 2) (w : World) (ha : AskL.Good w a) (hT : Tabs w) :
    Calls Tryz.prog 6 #[.agg a.row.toArray] w fun e w' => e = .returned (.bool true) ∧ Kept [] w w' := by
  have hk0 : Kept [] w (w.alloc (.cells a.row.toArray 39)) := (Kept.refl _ _).alloc _
  obtain ⟨ab, cb, hbv⟩ : ∃ ao cap, a.bv = .slice ao a.bs.length cap := by obtain ⟨x, y, h, _⟩ := ha.bv; exact ⟨x, y, h⟩
  have HC : Hid (∀ W, Kept [] (w.alloc (.cells a.row.toArray 39)) W → W.cell? ⟨w.heap.size, 0, none⟩ = some (.int .i64 2) ∧ W.cell? ⟨w.heap.size, 77, none⟩ = some (.slice ab a.bs.length cb)) := fun W k => by
    obtain ⟨q0, _, q2, _⟩ := ask_at (a := a) ha.o.com.tree.1 ha.o.tag.target.1 (k.heap (heap_alloc_new w (.cells a.row.toArray 39)) (by simp))
    rw [h1] at q0
    rw [hbv] at q2
    exact ⟨q0, q2⟩
  have HK0 : Hid (Kept [] w (w.alloc (.cells a.row.toArray 39))) := hk0
  have hun := Tryz.underlying37
  have hs79 : a.row.toArray.size = 79 := by rw [List.size_toArray, ha.len]
  have hbt : BytesAt w (.slice ab a.bs.length cb) a.bs := by rw [← hbv]; exact ha.bv
  have hhd := handed_any _ a.bs _ (hbt.keep hk0 (fun _ _ _ => by simp)) (Nat.le_trans ha.bs.2 (by decide))
  have HP : Hid (∀ W v, Kept [] w W → BytesAt W v a.bs → Calls Tryz.prog 9 #[v] W (ParA W a.bs)) := fun W v k hv => Parse_any v a.bs W hv ha.bs.1 (hT.kept k)
  have HR : Hid (∀ W, Kept [] w W → Calls Tryz.prog 18 #[.slice ab a.bs.length cb] W (ParA W a.bs)) := fun W k => R3Parse_any _ a.bs W (hbt.keep k (fun _ _ _ => by simp)) ha.bs.1 ha.bs.2
  obtain ⟨g0, g77⟩ := HC.out _ (Kept.refl _ _)
  clear ha hT hk0 h1 hbv hbt
  generalize a.row.toArray = av at *
  generalize a.bs = xs at *
  go_enter Tryz.func6, Tryz.ntmps6
  go_wp2_with fail
  go_at_call 17
  refine hhd.mono ?_
  rintro e w1 ⟨a1, c1, rfl, hb1, k1⟩
  have HK1 : Hid (Kept [] (w.alloc (.cells av 39)) w1) := k1
  have hpar := HP.out w1 _ (HK0.out.then k1) hb1
  clear hhd k1 hb1 HP
  go_wp2_with fail
  go_at_call 9
  refine hpar.mono ?_
  rintro e w2 ⟨o, rfl, hg2, k2, z1, z2⟩
  have hoz : o.row.toArray.size = 76 := by rw [List.size_toArray]; exact objL_len hg2.com.tree.1 hg2.tag.target.1
  have hos : (Tryz.prog.info? 37).map (·.size) = some o.row.toArray.size := by rw [hoz]; kernel_rfl
  have hozz : Tryz.zeroCells37.size = o.row.toArray.size := by rw [hoz]; kernel_rfl
  have ho1 : o.row.toArray.all (·.oneCell') = true := objL_one hg2
  have HK2 : Hid (Kept [] (w.alloc (.cells av 39)) (w2.alloc (.cells o.row.toArray 37))) := (HK1.out.then k2).alloc _
  have HO2 : Hid ((w2.alloc (.cells o.row.toArray 37)).heap[w2.heap.size]? = some (.cells o.row.toArray 37 (0, 0))) := heap_alloc_new w2 _
  have HG2 : Hid (∀ W, Kept [] w2 W → ObjL.Good W o) := fun W k => hg2.kept k
  have HZ1 : Hid (parErr xs = 0 → ∃ bv ev pv, o = guessO xs bv ev pv) := z1
  have HZ2 : Hid (parErr xs ≠ 0 → o = zeroO) := z2
  obtain ⟨_, g77b⟩ := HC.out _ HK2.out
  have hrp := HR.out _ (HK0.out.then HK2.out)
  clear hpar k2 hg2 z1 z2 HR hoz
  generalize hor : o.row.toArray = orr at *
  have HOR : Hid (o.row.toArray = orr) := hor
  clear hor
  go_wp2_with (first
    | (refine wpList_store_new (by rfl) 37 (.tmp 7) (.tmp 47) (by rfl) w2 _ orr (by rfl) (by rfl) hos hozz ho1 ?_))
  go_at_call 18
  refine hrp.mono ?_
  rintro e w3 ⟨p, rfl, hg3, k3, z3, z4⟩
  have hpz : p.row.toArray.size = 76 := by rw [List.size_toArray]; exact objL_len hg3.com.tree.1 hg3.tag.target.1
  have hps : (Tryz.prog.info? 37).map (·.size) = some p.row.toArray.size := by rw [hpz]; kernel_rfl
  have hpzz : Tryz.zeroCells37.size = p.row.toArray.size := by rw [hpz]; kernel_rfl
  have hp1 : p.row.toArray.all (·.oneCell') = true := objL_one hg3
  have k34 : Kept [] w3 (w3.alloc (.cells p.row.toArray 37)) := (Kept.refl _ _).alloc _
  have k24 : Kept [] w2 (w3.alloc (.cells p.row.toArray 37)) := (((Kept.refl [] w2).alloc _).then k3).then k34
  have HKF : Hid (Kept [] w (w3.alloc (.cells p.row.toArray 37))) := ((HK0.out.then HK2.out).then k3).then k34
  have HO4 : Hid ((w3.alloc (.cells p.row.toArray 37)).heap[w2.heap.size]? = some (.cells orr 37 (0, 0))) := k34.heap (k3.heap HO2.out (by simp)) (by simp)
  have HP4 : Hid ((w3.alloc (.cells p.row.toArray 37)).heap[w3.heap.size]? = some (.cells p.row.toArray 37 (0, 0))) := heap_alloc_new w3 _
  have hsame := same_par xs HZ1.out HZ2.out z3 z4 _ (HG2.out _ k24) (hg3.kept k34)
  rw [HOR.out] at hsame
  clear hrp k3 hg3 z3 z4 hpz k34 k24 HG2 HZ1 HZ2
  generalize p.row.toArray = prr at *
  generalize parErr xs = er at *
  go_wp2_with (first
    | (refine wpList_store_new (by rfl) 37 (.tmp 9) (.tmp 53) (by rfl) w3 _ prr (by rfl) (by rfl) hps hpzz hp1 ?_)
    | (refine wpList_wantG (by rfl) (fun K hK => wp_load_row 37 (.tmp 7) (by rfl) w2.heap.size (by rfl) 37 orr (0, 0) _ HO4.out hun rfl hos (hK _ _ ?_)))
    | (refine wpList_wantG (by rfl) (fun K hK => wp_load_row 37 (.tmp 9) (by rfl) w3.heap.size (by rfl) 37 prr (0, 0) _ HP4.out hun rfl hps (hK _ _ ?_))))
  go_at_call 11
  refine hsame.mono ?_
  rintro e w5 ⟨rfl, k5⟩
  have HK5 : Hid (Kept [] w w5) := HKF.out.then k5
  clear hsame k5
  go_wp2
  go_ret
  exact ⟨rfl, HK5.out⟩
end Go.Proofs.YtfcoeinhfdbcgaaGreatDoor

namespace Go.Proofs.YtfcoeinhfdbcgaaGreatDoor
open Go.RowKit

theorem chX_id {xs : List Int} (ho : Octs xs) : ∀ k, k ∈ chX xs → k.id.length = 32 := fun k hk => by
  unfold chX at hk
  split at hk
  · rename_i h
    obtain ⟨hl, _⟩ := parErr_zero h
    unfold guessO at hk
    split at hk
    · cases hk
    · split at hk
      · obtain ⟨e, he, rfl⟩ := List.mem_map.1 hk
        exact (gEnts_good ho hl _ _ e he).id.1
      · split at hk
        · rcases List.mem_cons.1 hk with rfl | hk
          · exact (gCom_good ho hl).tree.1
          · obtain ⟨p, hp, rfl⟩ := List.mem_map.1 hk
            exact ((gCom_good ho hl).parents p hp).1
        · rw [List.mem_singleton.1 hk]; exact (gTag_good ho hl).target.1
  · cases hk

set_option maxRecDepth 100000 in
set_option maxHeartbeats 4000000 in
theorem holdsChil_any (a : AskL) (h1 : a.doo = 4) (w : World) (ha : AskL.Good w a) (hT : Tabs w) :
    Calls Tryz.prog 6 #[.agg a.row.toArray] w fun e w' => e = .returned (.bool true) ∧ Kept [] w w' := by
  have hk0 : Kept [] w (w.alloc (.cells a.row.toArray 39)) := (Kept.refl _ _).alloc _
  obtain ⟨ab, cb, hbv⟩ : ∃ ao cap, a.bv = .slice ao a.bs.length cap := by obtain ⟨x, y, h, _⟩ := ha.bv; exact ⟨x, y, h⟩
  have HC : Hid (∀ W, Kept [] (w.alloc (.cells a.row.toArray 39)) W → W.cell? ⟨w.heap.size, 0, none⟩ = some (.int .i64 4) ∧ W.cell? ⟨w.heap.size, 77, none⟩ = some (.slice ab a.bs.length cb)) := fun W k => by
    obtain ⟨q0, _, q2, _⟩ := ask_at (a := a) ha.o.com.tree.1 ha.o.tag.target.1 (k.heap (heap_alloc_new w (.cells a.row.toArray 39)) (by simp))
    rw [h1] at q0
    rw [hbv] at q2
    exact ⟨q0, q2⟩
  have HK0 : Hid (Kept [] w (w.alloc (.cells a.row.toArray 39))) := hk0
  have hs79 : a.row.toArray.size = 79 := by rw [List.size_toArray, ha.len]
  have hbt : BytesAt w (.slice ab a.bs.length cb) a.bs := by rw [← hbv]; exact ha.bv
  have hhd := handed_any _ a.bs _ (hbt.keep hk0 (fun _ _ _ => by simp)) (Nat.le_trans ha.bs.2 (by decide))
  have HP : Hid (∀ W v, Kept [] w W → BytesAt W v a.bs → Calls Tryz.prog 10 #[v] W (ChA W a.bs)) := fun W v k hv => Children_any v a.bs W hv ha.bs.1 (hT.kept k)
  have HR : Hid (∀ W, Kept [] w W → Calls Tryz.prog 20 #[.slice ab a.bs.length cb] W (ChA W a.bs)) := fun W k => R3Children_any _ a.bs W (hbt.keep k (fun _ _ _ => by simp)) ha.bs.1 ha.bs.2
  have HI : Hid (∀ k, k ∈ chX a.bs → k.id.length = 32) := chX_id ha.bs.1
  obtain ⟨g0, g77⟩ := HC.out _ (Kept.refl _ _)
  clear ha hT hk0 h1 hbv hbt
  generalize a.row.toArray = av at *
  generalize a.bs = xs at *
  go_enter Tryz.func6, Tryz.ntmps6
  go_wp2_with fail
  go_at_call 17
  refine hhd.mono ?_
  rintro e w1 ⟨a1, c1, rfl, hb1, k1⟩
  have HK1 : Hid (Kept [] (w.alloc (.cells av 39)) w1) := k1
  have hpar := HP.out w1 _ (HK0.out.then k1) hb1
  clear hhd k1 hb1 HP
  go_wp2_with fail
  go_at_call 10
  refine hpar.mono ?_
  rintro e w2 ⟨lv, rfl, hl2, k2⟩
  obtain ⟨la, lc, rfl, _⟩ := hl2.form
  have HK2 : Hid (Kept [] (w.alloc (.cells av 39)) w2) := HK1.out.then k2
  have HL2 : Hid (LinksAt w2 (.slice la (chX xs).length lc) (chX xs)) := hl2
  obtain ⟨_, g77b⟩ := HC.out _ HK2.out
  have hrp := HR.out _ (HK0.out.then HK2.out)
  clear hpar k2 hl2 HR
  go_wp2_with fail
  go_at_call 20
  refine hrp.mono ?_
  rintro e w3 ⟨mv, rfl, hl3, k3⟩
  obtain ⟨ma, mc, rfl, _⟩ := hl3.form
  have HKF : Hid (Kept [] w w3) := (HK0.out.then HK2.out).then k3
  have hsame := sameLinks_eq _ _ (chX xs) w3 (HL2.out.kept k3) hl3 HI.out
  clear hrp k3 hl3 HL2 HI
  generalize (chX xs).length = cn at *
  generalize parErr xs = er at *
  go_wp2_with fail
  go_at_call 21
  refine hsame.mono ?_
  rintro e w5 ⟨rfl, k5⟩
  have HK5 : Hid (Kept [] w w5) := HKF.out.then k5
  clear hsame k5
  go_wp2
  go_ret
  exact ⟨rfl, HK5.out⟩
end Go.Proofs.YtfcoeinhfdbcgaaGreatDoor

namespace Go.Proofs.YtfcoeinhfdbcgaaGreatDoor
open Go.RowKit

set_option maxRecDepth 100000 in
set_option maxHeartbeats 1000000 in
theorem Id_any (v : Value) (xs : List Int) (w : World) (hV : Vars w) (hx : BytesAt w v xs) (ho : Octs xs) (hn : xs.length ≤ 140737488355328) : Calls Tryz.prog 22 #[v] w fun e w' => e = .returned (.agg (idC (digL xs))) ∧ Kept [] w w' := by
  obtain ⟨ic, hic⟩ : ∃ ic, ic = idC (digL xs) := ⟨_, rfl⟩
  have hszi : (Tryz.prog.info? 29).map (·.size) = some ic.size := by rw [hic, idC_size (digL_len xs)]; exact Tryz.infoID
  have halli : ic.all (·.oneCell') = true := by rw [hic]; exact all_oneCell_toArray (map_oneCell _)
  have hosi : (idC zid).size = ic.size := by rw [hic, idC_size (digL_len xs)]; rfl
  have HI : Hid (ic = idC (digL xs)) := hic
  have kA : Kept [] w (w.alloc (.cells (idC zid) 29)) := (Kept.refl _ _).alloc _
  have hs : Calls Tryz.prog 39 #[v] (w.alloc (.cells (idC zid) 29)) fun e w' => e = .returned (.agg ic) ∧ Kept [] (w.alloc (.cells (idC zid) 29)) w' := by
    rw [hic]
    exact Sum_any _ v xs (hV.kept kA (by simp) (by simp)) (hx.kept kA (fun _ _ => by simp)) ho hn
  have HKA : Hid (Kept [] w (w.alloc (.cells (idC zid) 29))) := kA
  have HI0 : Hid ((w.alloc (.cells (idC zid) 29)).heap[w.heap.size]? = some (.cells (idC zid) 29 (0, 0))) := heap_alloc_new w _
  obtain ⟨ao, cap, rfl, _⟩ := hx
  clear hV ho hn hic kA
  go_enter Tryz.func22, Tryz.ntmps22
  go_wp2_with (first
    | (go_at_call 39; refine hs.mono ?_; rintro e w3 ⟨rfl, hk3⟩
       have HI3 : Hid (w3.heap[w.heap.size]? = some (.cells (idC zid) 29 (0, 0))) := hk3.heap HI0.out (by simp)
       have HK3 : Hid (Kept [] w w3) := HKA.out.then hk3
       clear hk3)
    | (refine wpList_store_row rfl 29 (.tmp 2) (.tmp 4) rfl w.heap.size ic rfl rfl 29 _ HI3.out hszi hosi halli ?_))
  refine bodyPost_ret (v := .agg ic) ?_ rfl ⟨by rw [HI.out], kept_setRow HK3.out (Nat.le_refl _) _⟩
  rw [results_cell rfl]
  have hld := run_loadVar_row (P := Tryz.prog) (w3.setRow w.heap.size ic) w.heap.size 29 29 ic (0, 0) _ (setRow_heap _ _ _ _ _ _ HI3.out) Tryz.underlying29 rfl hszi
  exact hld
set_option maxRecDepth 100000 in
set_option maxHeartbeats 1000000 in
theorem R3Id_any (v : Value) (xs : List Int) (w : World) (hV : VarsR w) (hx : BytesAt w v xs) (ho : Octs xs) (hn : xs.length ≤ 1000000000000) : Calls Tryz.prog 23 #[v] w fun e w' => e = .returned (.agg (idC (digL xs))) ∧ Kept [] w w' := by
  obtain ⟨ic, hic⟩ : ∃ ic, ic = idC (digL xs) := ⟨_, rfl⟩
  have hszi : (Tryz.prog.info? 29).map (·.size) = some ic.size := by rw [hic, idC_size (digL_len xs)]; exact Tryz.infoID
  have halli : ic.all (·.oneCell') = true := by rw [hic]; exact all_oneCell_toArray (map_oneCell _)
  have hosi : (idC zid).size = ic.size := by rw [hic, idC_size (digL_len xs)]; rfl
  have HI : Hid (ic = idC (digL xs)) := hic
  have kA : Kept [] w (w.alloc (.cells (idC zid) 29)) := (Kept.refl _ _).alloc _
  have hs : Calls Tryz.prog 40 #[v] (w.alloc (.cells (idC zid) 29)) fun e w' => e = .returned (.agg ic) ∧ Kept [] (w.alloc (.cells (idC zid) 29)) w' := by
    rw [hic]
    exact RSum_any _ (hV.kept kA (by simp) (by simp)) v xs (hx.kept kA (fun _ _ => by simp)) ho hn
  have HKA : Hid (Kept [] w (w.alloc (.cells (idC zid) 29))) := kA
  have HI0 : Hid ((w.alloc (.cells (idC zid) 29)).heap[w.heap.size]? = some (.cells (idC zid) 29 (0, 0))) := heap_alloc_new w _
  obtain ⟨ao, cap, rfl, _⟩ := hx
  clear hV ho hn hic kA
  go_enter Tryz.func23, Tryz.ntmps23
  go_wp2_with (first
    | (go_at_call 40; refine hs.mono ?_; rintro e w3 ⟨rfl, hk3⟩
       have HI3 : Hid (w3.heap[w.heap.size]? = some (.cells (idC zid) 29 (0, 0))) := hk3.heap HI0.out (by simp)
       have HK3 : Hid (Kept [] w w3) := HKA.out.then hk3
       clear hk3)
    | (refine wpList_store_row rfl 29 (.tmp 2) (.tmp 4) rfl w.heap.size ic rfl rfl 29 _ HI3.out hszi hosi halli ?_))
  refine bodyPost_ret (v := .agg ic) ?_ rfl ⟨by rw [HI.out], kept_setRow HK3.out (Nat.le_refl _) _⟩
  rw [results_cell rfl]
  have hld := run_loadVar_row (P := Tryz.prog) (w3.setRow w.heap.size ic) w.heap.size 29 29 ic (0, 0) _ (setRow_heap _ _ _ _ _ _ HI3.out) Tryz.underlying29 rfl hszi
  exact hld
end Go.Proofs.YtfcoeinhfdbcgaaGreatDoor
