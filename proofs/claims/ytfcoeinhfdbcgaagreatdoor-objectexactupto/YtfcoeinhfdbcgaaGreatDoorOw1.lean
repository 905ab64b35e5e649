/-
  WALKS: an Ask for the kind, an Ask for the id, against the document's.
  WALKS: an Ask for the id, against the document's.
  WALK: satchellaw3.wakes.
  WALK: satchellaw3.all, over what each ask comes to.
  WALK: satchellaw3.ObjectExact.
-/
import Derived.Test.YtfcoeinhfdbcgaaGreatDoorOt2
import Derived.Test.YtfcoeinhfdbcgaaGreatDoorEqA
import Derived.Test.YtfcoeinhfdbcgaaGreatDoorLk4
import Derived.Test.YtfcoeinhfdbcgaaGreatDoorNm0
import Derived.Test.YtfcoeinhfdbcgaaGreatDoorLk0
namespace Go.Proofs.YtfcoeinhfdbcgaaGreatDoor
open Go.RowKit

set_option maxRecDepth 100000 in
set_option maxHeartbeats 4000000 in
theorem holdsKind_any (a : AskL) (h1 : a.doo = 3) (w : World) (ha : AskL.Good w a) (hT : Tabs w) :
    Calls Tryz.prog 6 #[.agg a.row.toArray] w fun e w' => e = .returned (.bool true) ∧ Kept [] w w' := by
  have hk0 : Kept [] w (w.alloc (.cells a.row.toArray 39)) := (Kept.refl _ _).alloc _
  obtain ⟨ab, cb, hbv⟩ : ∃ ao cap, a.bv = .slice ao a.bs.length cap := by obtain ⟨x, y, h, _⟩ := ha.bv; exact ⟨x, y, h⟩
  have HC : Hid (∀ W, Kept [] (w.alloc (.cells a.row.toArray 39)) W → W.cell? ⟨w.heap.size, 0, none⟩ = some (.int .i64 3) ∧ W.cell? ⟨w.heap.size, 77, none⟩ = some (.slice ab a.bs.length cb)) := fun W k => by
    obtain ⟨q0, _, q2, _⟩ := ask_at (a := a) ha.o.com.tree.1 ha.o.tag.target.1 (k.heap (heap_alloc_new w (.cells a.row.toArray 39)) (by simp))
    rw [h1] at q0
    rw [hbv] at q2
    exact ⟨q0, q2⟩
  have HK0 : Hid (Kept [] w (w.alloc (.cells a.row.toArray 39))) := hk0
  have hs79 : a.row.toArray.size = 79 := by rw [List.size_toArray, ha.len]
  have hbt : BytesAt w (.slice ab a.bs.length cb) a.bs := by rw [← hbv]; exact ha.bv
  have hhd := handed_any _ a.bs _ (hbt.keep (hk0.then (Kept.refl [] (w.alloc (.cells a.row.toArray 39))).drew) (fun _ _ _ => by simp)) (Nat.le_trans ha.bs.2 (by decide))
  have HP : Hid (∀ W v, Kept [] w W → BytesAt W v a.bs → Calls Tryz.prog 13 #[v] W fun e w' => e = .returned (.int .i64 (kindX a.bs)) ∧ Kept [] W w') := fun W v k hv => Kind_any v a.bs W hv ha.bs.1 (hT.kept k)
  have HR : Hid (∀ W, Kept [] w W → Calls Tryz.prog 19 #[.slice ab a.bs.length cb] W fun e w' => e = .returned (.int .i64 (kindX a.bs)) ∧ Kept [] W w') := fun W k => R3Kind_any _ a.bs W (hbt.keep k (fun _ _ _ => by simp)) ha.bs.1 ha.bs.2
  obtain ⟨g0, g77⟩ := HC.out _ (Kept.refl _ _)
  have HKD : Hid (Kept [] (w.alloc (.cells a.row.toArray 39)) (w.alloc (.cells a.row.toArray 39)).drew) := (Kept.refl _ _).drew
  clear ha hT hk0 h1 hbv hbt
  generalize a.row.toArray = av at *
  generalize kindX a.bs = kx at *
  generalize a.bs = xs at *
  go_enter Tryz.func6, Tryz.ntmps6
  go_wp2_with fail
  go_region_with (first
    | (go_at_call 17; with_reducible refine hhd.mono ?_
       rintro e w1 ⟨a1, c1, rfl, hb1, k1⟩
       have HK1 : Hid (Kept [] (w.alloc (.cells av 39)) w1) := HKD.out.then k1
       have hpar := HP.out w1 _ (HK0.out.then HK1.out) hb1
       obtain ⟨p0, p77⟩ := HC.out w1 HK1.out
       clear k1 hb1)
    | (go_at_call 13; with_reducible refine hpar.mono ?_
       rintro e w2 ⟨rfl, k2⟩
       have HK2 : Hid (Kept [] (w.alloc (.cells av 39)) w2) := HK1.out.then k2
       have hrp := HR.out w2 (HK0.out.then HK2.out)
       obtain ⟨q0, q77⟩ := HC.out w2 HK2.out
       clear k2)
    | (go_at_call 19; with_reducible refine hrp.mono ?_
       rintro e w3 ⟨rfl, k3⟩
       have HK3 : Hid (Kept [] w w3) := (HK0.out.then HK2.out).then k3
       clear k3))
  all_goals (go_wp2; go_ret; exact ⟨rfl, HK3.out⟩)
end Go.Proofs.YtfcoeinhfdbcgaaGreatDoor

namespace Go.Proofs.YtfcoeinhfdbcgaaGreatDoor
open Go.RowKit

set_option maxRecDepth 100000 in
set_option maxHeartbeats 4000000 in
theorem holdsId_any (a : AskL) (h1 : a.doo = 5) (w : World) (ha : AskL.Good w a) (hV : Vars w) (hR : VarsR w) (hn : a.bs.length ≤ 1000000000000) :
    Calls Tryz.prog 6 #[.agg a.row.toArray] w fun e w' => e = .returned (.bool true) ∧ Kept [] w w' := by
  have hk0 : Kept [] w (w.alloc (.cells a.row.toArray 39)) := (Kept.refl _ _).alloc _
  obtain ⟨ab, cb, hbv⟩ : ∃ ao cap, a.bv = .slice ao a.bs.length cap := by obtain ⟨x, y, h, _⟩ := ha.bv; exact ⟨x, y, h⟩
  have HC : Hid (∀ W, Kept [] (w.alloc (.cells a.row.toArray 39)) W → W.cell? ⟨w.heap.size, 0, none⟩ = some (.int .i64 5) ∧ W.cell? ⟨w.heap.size, 77, none⟩ = some (.slice ab a.bs.length cb)) := fun W k => by
    obtain ⟨q0, _, q2, _⟩ := ask_at (a := a) ha.o.com.tree.1 ha.o.tag.target.1 (k.heap (heap_alloc_new w (.cells a.row.toArray 39)) (by simp))
    rw [h1] at q0
    rw [hbv] at q2
    exact ⟨q0, q2⟩
  have HK0 : Hid (Kept [] w (w.alloc (.cells a.row.toArray 39))) := hk0
  have hs79 : a.row.toArray.size = 79 := by rw [List.size_toArray, ha.len]
  have hbt : BytesAt w (.slice ab a.bs.length cb) a.bs := by rw [← hbv]; exact ha.bv
  have hhd := handed_any _ a.bs _ (hbt.keep (hk0.then (Kept.refl [] (w.alloc (.cells a.row.toArray 39))).drew) (fun _ _ _ => by simp)) (Nat.le_trans ha.bs.2 (by decide))
  have HP : Hid (∀ W v, Kept [] w W → BytesAt W v a.bs → Calls Tryz.prog 22 #[v] W fun e w' => e = .returned (.agg (idC (digL a.bs))) ∧ Kept [] W w') := fun W v k hv => Id_any v a.bs W (hV.kept k (by simp) (by simp)) hv ha.bs.1 (by omega)
  have HR : Hid (∀ W, Kept [] w W → Calls Tryz.prog 23 #[.slice ab a.bs.length cb] W fun e w' => e = .returned (.agg (idC (digL a.bs))) ∧ Kept [] W w') := fun W k => R3Id_any _ a.bs W (hR.kept k (by simp) (by simp)) (hbt.keep k (fun _ _ _ => by simp)) ha.bs.1 hn
  have hself : ∀ W, (Op.equalIn 10000 29 (.agg (idC (digL a.bs))) (.agg (idC (digL a.bs)))).run Tryz.prog W = .ok true W := fun W => idSelf 9998 (digL a.bs) W (digL_len _)
  have heqA := fun W => run_id_eql (.tmp 101) (.tmp 104) (idC (digL a.bs)) (idC (digL a.bs)) W true (hself W)
  have heqC : ∀ W, Sem.run Tryz.prog (eqGuard .eql 29 (.tmp 101) (.tmp 104) (.agg (idC (digL a.bs))) (.agg (idC (digL a.bs)))) W = .ok () W := fun W => run_eqGuard_agg W .eql 29 _ _ _ _ (by kernel_rfl)
  have heqB : ∀ W, Sem.run Tryz.prog (binOp .eql 29 (.agg (idC (digL a.bs))) (.agg (idC (digL a.bs)))) W = .ok (.bool true) W := fun W => by
    have h := heqA W
    rw [Sem.run_bind, heqC W, Result.andThen_ok] at h
    exact h
  clear hself
  obtain ⟨g0, g77⟩ := HC.out _ (Kept.refl _ _)
  have HKD : Hid (Kept [] (w.alloc (.cells a.row.toArray 39)) (w.alloc (.cells a.row.toArray 39)).drew) := (Kept.refl _ _).drew
  clear ha hV hR hk0 h1 hbv hbt
  generalize a.row.toArray = av at *
  generalize idC (digL a.bs) = kx at *
  generalize a.bs = xs at *
  go_enter Tryz.func6, Tryz.ntmps6
  go_wp2_with fail
  go_region_with (first
    | (go_at_call 17; with_reducible refine hhd.mono ?_
       rintro e w1 ⟨a1, c1, rfl, hb1, k1⟩
       have HK1 : Hid (Kept [] (w.alloc (.cells av 39)) w1) := HKD.out.then k1
       have hpar := HP.out w1 _ (HK0.out.then HK1.out) hb1
       obtain ⟨p0, p77⟩ := HC.out w1 HK1.out
       clear k1 hb1)
    | (go_at_call 22; with_reducible refine hpar.mono ?_
       rintro e w2 ⟨rfl, k2⟩
       have HK2 : Hid (Kept [] (w.alloc (.cells av 39)) w2) := HK1.out.then k2
       have hrp := HR.out w2 (HK0.out.then HK2.out)
       obtain ⟨q0, q77⟩ := HC.out w2 HK2.out
       clear k2)
    | (go_at_call 23; with_reducible refine hrp.mono ?_
       rintro e w3 ⟨rfl, k3⟩
       have HK3 : Hid (Kept [] w w3) := (HK0.out.then HK2.out).then k3
       clear k3))
  all_goals (go_wp2; go_ret; exact ⟨rfl, HK3.out⟩)
end Go.Proofs.YtfcoeinhfdbcgaaGreatDoor

namespace Go.Proofs.YtfcoeinhfdbcgaaGreatDoor
open Go.RowKit

set_option maxRecDepth 100000 in
set_option maxHeartbeats 8000000 in
theorem wakes_any (w : World) (hT : Tabs w) :
    Calls Tryz.prog 5 #[] w fun e w' => e = .returned (.bool true) ∧ Kept [] w w' := by
  obtain ⟨OC, hOC⟩ : ∃ A, A = (comO wakeC (.slice (some ⟨w.heap.size, 0, none⟩) 2 2)).row.toArray := ⟨_, rfl⟩
  obtain ⟨OT, hOT⟩ : ∃ A, A = (tagO wT).row.toArray := ⟨_, rfl⟩
  have HOC : Hid (OC = (comO wakeC (.slice (some ⟨w.heap.size, 0, none⟩) 2 2)).row.toArray) := hOC
  have HOT : Hid (OT = (tagO wT).row.toArray) := hOT
  have hs1 : (Tryz.prog.info? 37).map (·.size) = some OC.size := by rw [hOC]; kernel_rfl
  have hs2 : (Tryz.prog.info? 37).map (·.size) = some OT.size := by rw [hOT]; kernel_rfl
  have ho1 : OC.all (·.oneCell') = true := by rw [hOC]; kernel_rfl
  have ho2 : OT.all (·.oneCell') = true := by rw [hOT]; kernel_rfl
  have hz1' : Tryz.zeroCells37.size = OC.size := by rw [hOC]; kernel_rfl
  have hz2' : Tryz.zeroCells37.size = OT.size := by rw [hOT]; kernel_rfl
  have hz1 : Hid (Tryz.zeroCells37.size = OC.size) := hz1'
  have hz2 : Hid (Tryz.zeroCells37.size = OT.size) := hz2'
  have hsz : ∀ pv, (Tryz.prog.info? 37).map (·.size) = some (comO wakeC pv).row.toArray.size := fun pv => by kernel_rfl
  have HSZ : Hid (∀ pv, (Tryz.prog.info? 37).map (·.size) = some (comO wakeC pv).row.toArray.size) := hsz
  have hzz : ∀ pv, Tryz.zeroCells37.size = (comO wakeC pv).row.toArray.size := fun pv => by kernel_rfl
  have HZZ : Hid (∀ pv, Tryz.zeroCells37.size = (comO wakeC pv).row.toArray.size) := hzz
  have hon : ∀ b, (comO wakeC (.slice (some ⟨b, 0, none⟩) 2 2)).row.toArray.all (·.oneCell') = true := fun b => by kernel_rfl
  have HON : Hid (∀ b, (comO wakeC (.slice (some ⟨b, 0, none⟩) 2 2)).row.toArray.all (·.oneCell') = true) := hon
  have huo := Tryz.underlying37
  clear hOC hOT hz1' hz2' hsz hzz hon
  obtain ⟨w0, hw0⟩ : ∃ x, x = w.alloc (.cells ((wid 1 ++ wid 2).map (Value.int .u8)).toArray 29) := ⟨_, rfl⟩
  obtain ⟨w1, hw1⟩ : ∃ x, x = w0.alloc (.cells OC 37) := ⟨_, rfl⟩
  obtain ⟨w2, hw2⟩ : ∃ x, x = w1.alloc (.cells OT 37) := ⟨_, rfl⟩
  have HW0 : Hid (w0 = w.alloc (.cells ((wid 1 ++ wid 2).map (Value.int .u8)).toArray 29)) := hw0
  have HW1 : Hid (w1 = w0.alloc (.cells OC 37)) := hw1
  have HW2 : Hid (w2 = w1.alloc (.cells OT 37)) := hw2
  have HK0 : Hid (Kept [] w w0) := by rw [hw0]; exact (Kept.refl _ _).alloc _
  have HK1 : Hid (Kept [] w0 w1) := by rw [hw1]; exact (Kept.refl _ _).alloc _
  have HK2 : Hid (Kept [] w1 w2) := by rw [hw2]; exact (Kept.refl _ _).alloc _
  have HK : Hid (Kept [] w w2) := HK0.out.then (HK1.out.then HK2.out)
  have hi0 : IdsAt w0 (.slice (some ⟨w.heap.size, 0, none⟩) 2 2) wakeC.parents := ids_of_rows (t := 29) (ids := wakeC.parents) (by
    unfold RowsIn
    rw [hw0]
    exact heap_alloc_new w _) (fun o ho => (wC_good.parents o ho).1) (by decide)
  have HB1 : Hid (∀ W, Kept [] w2 W → W.heap[w0.heap.size]? = some (.cells OC 37 (0, 0))) := fun W hW => (HK2.out.then hW).heap (by rw [hw1]; exact heap_alloc_new w0 _) (by simp)
  have HB2 : Hid (∀ W, Kept [] w2 W → W.heap[w1.heap.size]? = some (.cells OT 37 (0, 0))) := fun W hW => hW.heap (by rw [hw2]; exact heap_alloc_new w1 _) (by simp)
  have HP : Hid (∀ W, Kept [] w2 W → IdsAt W (.slice (some ⟨w.heap.size, 0, none⟩) 2 2) wakeC.parents) := fun W hW => hi0.keep (HK1.out.then (HK2.out.then hW)) (fun _ _ _ => by simp)
  have HTT : Hid (∀ W, Kept [] w2 W → Tabs W) := fun W hW => hT.kept (HK.out.then hW)
  have HE1 : Hid (∀ W, Kept [] w2 W → Calls Tryz.prog 8 #[.agg OC] W fun e w' => ∃ b, e = .returned (.tuple #[.slice (some ⟨b, 0, none⟩) 111 111, .int .i64 0]) ∧ BytesAt w' (.slice (some ⟨b, 0, none⟩) 111 111) (encC wakeC) ∧ Kept [] W w') := fun W hW => by
    rw [HOC.out]; exact wEncC _ W (HTT.out W hW) (HP.out W hW)
  have HE2 : Hid (∀ W, Kept [] w2 W → Calls Tryz.prog 8 #[.agg OT] W fun e w' => ∃ b, e = .returned (.tuple #[.slice (some ⟨b, 0, none⟩) 46 46, .int .i64 0]) ∧ BytesAt w' (.slice (some ⟨b, 0, none⟩) 46 46) (encG wT) ∧ Kept [] W w') := fun W hW => by
    rw [HOT.out]; exact wEncT W (HTT.out W hW)
  clear hw0 hw1 hw2 hi0 hT
  obtain ⟨RC, hRC⟩ : ∃ A, A = (wakeC.row (.slice (some ⟨w.heap.size, 0, none⟩) 2 2)).toArray := ⟨_, rfl⟩
  obtain ⟨RT, hRT⟩ : ∃ A, A = wT.row.toArray := ⟨_, rfl⟩
  obtain ⟨I3, hI3⟩ : ∃ A, A = idC (wid 3) := ⟨_, rfl⟩
  have HRC : Hid (RC = (wakeC.row (.slice (some ⟨w.heap.size, 0, none⟩) 2 2)).toArray) := hRC
  have HRT : Hid (RT = wT.row.toArray) := hRT
  have HI3 : Hid (I3 = idC (wid 3)) := hI3
  clear hRC hRT hI3
  go_enter Tryz.func5, Tryz.ntmps5
  have k0 : Hid (Kept [] w2 w2) := Kept.refl _ _
  go_wp2_with (first
    | (refine wpList_built (by rfl) 33 _ (by rfl) RC (by rw [HRC.out]; kernel_rfl) ?_; change wpList _ _ _ _ _ (w.alloc (.cells ((wid 1 ++ wid 2).map (Value.int .u8)).toArray 29)); rw [← HW0.out])
    | (refine wpList_built (by rfl) 37 #[(0, .const (.int .i64 3)), (3, .tmp 12)] (by rfl) OC (by rw [HOC.out, HRC.out]; kernel_rfl) ?_)
    | (refine wpList_store_new (by rfl) 37 (.tmp 1) (.tmp 13) (by rfl) w0 _ OC (by rfl) (by rfl) hs1 hz1.out ho1 ?_; rw [← HW1.out])
    | (refine wpList_built (by rfl) 29 #[(0, .const (.int .u8 3))] (by rfl) I3 (by rw [HI3.out]; kernel_rfl) ?_)
    | (refine wpList_built (by rfl) 35 _ (by rfl) RT (by rw [HRT.out, HI3.out]; kernel_rfl) ?_)
    | (refine wpList_built (by rfl) 37 #[(0, .const (.int .i64 4)), (4, .tmp 15)] (by rfl) OT (by rw [HOT.out, HRT.out]; kernel_rfl) ?_)
    | (refine wpList_store_new (by rfl) 37 (.tmp 2) (.tmp 16) (by rfl) w1 _ OT (by rfl) (by rfl) hs2 hz2.out ho2 ?_; rw [← HW2.out])
    | (refine wpList_load_row (by rfl) 37 (.tmp 1) (by rfl) w0.heap.size (by rfl) 37 OC (0, 0) _ (HB1.out w2 k0.out) huo rfl hs1 ?_))
  refine (HE1.out _ k0.out).mono ?_
  rintro e w3 ⟨g3, rfl, hb3, hk3⟩
  have k3 : Hid (Kept [] w2 w3) := hk3
  have B3 : Hid (BytesAt w3 (.slice (some ⟨g3, 0, none⟩) 111 111) (encC wakeC)) := hb3
  clear hk3 hb3
  go_wp2_with (refine wpList_load_row (by rfl) 37 (.tmp 2) (by rfl) w1.heap.size (by rfl) 37 OT (0, 0) _ (HB2.out _ k3.out) huo rfl hs2 ?_)
  refine (HE2.out _ k3.out).mono ?_
  rintro e w4 ⟨g4, rfl, hb4, hk4⟩
  have k4 : Hid (Kept [] w2 w4) := k3.out.then hk4
  have B3' : Hid (BytesAt w4 (.slice (some ⟨g3, 0, none⟩) 111 111) (encC wakeC)) := B3.out.kept hk4 (fun _ _ => by simp)
  have B4 : Hid (BytesAt w4 (.slice (some ⟨g4, 0, none⟩) 46 46) (encG wT)) := hb4
  clear hk4 hb4 B3 k3
  go_wp2_with fail
  refine (wParse _ _ (HTT.out _ k4.out) B3'.out).mono ?_
  rintro e w5 ⟨hk5, g5, rfl, hi5⟩
  obtain ⟨OP, hOP⟩ : ∃ A, A = (comO wakeC (.slice (some ⟨g5, 0, none⟩) 2 2)).row.toArray := ⟨_, rfl⟩
  have HOP : Hid (OP = (comO wakeC (.slice (some ⟨g5, 0, none⟩) 2 2)).row.toArray) := hOP
  have hs3 : (Tryz.prog.info? 37).map (·.size) = some OP.size := by rw [hOP]; exact HSZ.out _
  have ho3 : OP.all (·.oneCell') = true := by rw [hOP]; exact HON.out _
  have hz3 : Hid (Tryz.zeroCells37.size = OP.size) := by rw [hOP]; exact HZZ.out _
  rw [← hOP]
  clear hOP
  obtain ⟨w6, hw6⟩ : ∃ x, x = w5.alloc (.cells OP 37) := ⟨_, rfl⟩
  have HW6 : Hid (w6 = w5.alloc (.cells OP 37)) := hw6
  have hk56 : Kept [] w5 w6 := by rw [hw6]; exact (Kept.refl _ _).alloc _
  have k6 : Hid (Kept [] w2 w6) := k4.out.then (hk5.then hk56)
  have B6 : Hid (BytesAt w6 (.slice (some ⟨g4, 0, none⟩) 46 46) (encG wT)) := B4.out.kept (hk5.then hk56) (fun _ _ => by simp)
  have I6 : Hid (IdsAt w6 (.slice (some ⟨g5, 0, none⟩) 2 2) wakeC.parents) := hi5.keep hk56 (fun _ _ _ => by simp)
  have P6 : Hid (w6.heap[w5.heap.size]? = some (.cells OP 37 (0, 0))) := by rw [hw6]; exact heap_alloc_new w5 _
  clear hw6 hk56 hk5 hi5 B3' B4
  go_wp2_with (refine wpList_store_new (by rfl) 37 (.tmp 7) (.tmp 46) (by rfl) w5 _ OP (by rfl) (by rfl) hs3 hz3.out ho3 ?_; rw [← HW6.out])
  refine (wChil _ _ (HTT.out _ k6.out) B6.out).mono ?_
  rintro e w7 ⟨hk7, g7, rfl, hc7⟩
  have k7 : Hid (Kept [] w2 w7) := k6.out.then hk7
  have B7 : Hid (BytesAt w7 (.slice (some ⟨g4, 0, none⟩) 46 46) (encG wT)) := B6.out.kept hk7 (fun _ _ => by simp)
  have P7 : Hid (w7.heap[w5.heap.size]? = some (.cells OP 37 (0, 0))) := hk7.heap P6.out (by simp)
  have HS : Hid (Calls Tryz.prog 11 #[.agg OP, .agg OC] w7 fun e w' => e = .returned (.bool true) ∧ Kept [] w7 w') := by
    rw [HOP.out, HOC.out]
    exact Same_com wakeC _ _ w7 (I6.out.keep hk7 (fun _ _ _ => by simp)) (HP.out _ k7.out) wC_good
  have C7 : Hid (w7.cell? ⟨g7, 32, none⟩ = some (.int .i64 1)) := hc7
  clear hk7 hc7 B6 P6 I6 k6
  go_wp2_with (first
    | (refine wantedS (by rfl) fun K hK => wp_load_row 37 (.tmp 7) (by rfl) w5.heap.size (by rfl) 37 OP (0, 0) _ P7.out huo rfl hs3 (hK _ _ ?_))
    | (refine wantedS (by rfl) fun K hK => wp_load_row 37 (.tmp 1) (by rfl) w0.heap.size (by rfl) 37 OC (0, 0) _ (HB1.out _ k7.out) huo rfl hs1 (hK _ _ ?_)))
  refine HS.out.mono ?_
  rintro e w8 ⟨rfl, hk8⟩
  have hc8 := hk8.cell C7.out (by simp)
  have k8 : Hid (Kept [] w2 w8) := k7.out.then hk8
  have B8 : Hid (BytesAt w8 (.slice (some ⟨g4, 0, none⟩) 46 46) (encG wT)) := B7.out.kept hk8 (fun _ _ => by simp)
  clear hk8 B7 k7 P7 C7
  go_wp2_with fail
  refine (wName _ (HTT.out _ k8.out)).mono ?_
  rintro e w9 ⟨rfl, hk9⟩
  have k9 : Hid (Kept [] w2 w9) := k8.out.then hk9
  have B9 : Hid (BytesAt w9 (.slice (some ⟨g4, 0, none⟩) 46 46) (encG wT)) := B8.out.kept hk9 (fun _ _ => by simp)
  clear hk9 B8 k8
  go_wp2_with fail
  refine (wKind _ _ (HTT.out _ k9.out) B9.out).mono ?_
  rintro e w10 ⟨rfl, hk10⟩
  have k10 : Hid (Kept [] w w10) := HK.out.then (k9.out.then hk10)
  clear hk10
  go_wp2
  go_ret
  exact ⟨rfl, k10.out⟩
end Go.Proofs.YtfcoeinhfdbcgaaGreatDoor

namespace Go.Proofs.YtfcoeinhfdbcgaaGreatDoor
open Go.RowKit

theorem wpList_want {P : Program} {ops : Array Oper} {rest : List Oper} {o : Oper} {a : Act} {w : World} {Q : Exit → Act → World → Prop} (hw : Region.wanted o (yielded ops a.tmps) = true)
    (h : ∀ K : Act → World → Prop, (∀ a w, wpList P ops Q rest a w → K a w) → o.wp P a w K Q) : wpList P ops Q (o :: rest) a w :=
  wpList_step fun K hK => by rw [if_pos hw]; exact h K hK

set_option maxRecDepth 100000 in
set_option maxHeartbeats 4000000 in
theorem allOf_any {w : World} {v : Value} {aks : List AskL} (hv : AsksL w v aks) (hg : ∀ a, a ∈ aks → AskL.Good w a) (hT : Tabs w) (lo hi : Int)
    (hH : ∀ a, a ∈ aks → lo ≤ a.doo → a.doo ≤ hi → ∀ W, Kept [] w W → Calls Tryz.prog 6 #[.agg a.row.toArray] W fun e w' => e = .returned (.bool true) ∧ Kept [] W w') :
    Calls Tryz.prog 7 #[.agg #[v], .int .i64 lo, .int .i64 hi] w fun e w' => e = .returned (.bool true) ∧ Kept [] w w' := by
  obtain ⟨ao, cap, rfl, hal, hcc⟩ := hv
  obtain ⟨W0, hW0⟩ : ∃ W0, W0 = w.alloc (.cells #[.slice ao aks.length cap] 24) := ⟨_, rfl⟩
  have HW0 : Hid (W0 = w.alloc (.cells #[.slice ao aks.length cap] 24)) := hW0
  have HK0 : Hid (Kept [] w W0) := by rw [hW0]; exact (Kept.refl _ _).alloc _
  have HBx : Hid (∀ W, Kept [] W0 W → W.cell? ⟨w.heap.size, 0, none⟩ = some (.slice ao aks.length cap)) := fun W k => by
    have hb := k.heap (show W0.heap[w.heap.size]? = _ by rw [hW0]; exact heap_alloc_new w _) (by simp)
    rw [cell_of_row _ _ _ _ _ _ hb]
    rfl
  have HC : Hid (aks ≠ [] → ∃ b off, ao = some ⟨b, off, none⟩ ∧ ∀ (i : Nat) (a : AskL), aks[i]? = some a → w.rangeAt b (off + i * 79) a.row) := hcc
  have HG : Hid (∀ a, a ∈ aks → AskL.Good w a) := hg
  have HT : Hid (∀ W, Kept [] w W → Tabs W) := fun W k => hT.kept k
  have hwk := wakes_any W0 (HT.out _ HK0.out)
  rw [hW0] at hwk
  have HHH : Hid (∀ a, a ∈ aks → lo ≤ a.doo → a.doo ≤ hi → ∀ W, Kept [] w W → Calls Tryz.prog 6 #[.agg a.row.toArray] W fun e w' => e = .returned (.bool true) ∧ Kept [] W w') := hH
  clear hcc hg hT hW0 hH
  go_enter Tryz.func7, Tryz.ntmps7
  go_wp2_with fail
  go_at_call 5
  refine hwk.mono ?_
  rintro e w1 ⟨rfl, k1⟩
  rw [← HW0.out] at k1
  have HK1 : Hid (Kept [] W0 w1) := k1
  clear hwk k1
  go_wp2
  go_loopw [7] (fun s7 wr => ∃ k : Nat, k ≤ aks.length ∧ s7 = .int .i64 k ∧ Hid (Kept [] W0 wr)) (fun s7 _ => aks.length - (intOf s7).toNat)
  case atStart => exact ⟨0, Nat.zero_le _, rfl, HK1⟩
  case round =>
    clear HK1
    obtain ⟨k, hk, rfl, HK⟩ := hrel
    have g0 := HBx.out wr HK.out
    by_cases hlt : k < aks.length
    · have t1 : decide ((k : Int) < aks.length) = true := by simp; omega
      obtain ⟨a, ha⟩ : ∃ a, aks[k]? = some a := ⟨aks[k], List.getElem?_eq_getElem hlt⟩
      obtain ⟨b, off, rfl, hcell⟩ := HC.out (by rintro rfl; simp at hlt)
      have hr0 := hcell k a ha
      have hga := HG.out a (List.mem_of_getElem? ha)
      have HRg : Hid (∀ W, Kept [] W0 W → W.rangeAt b (off + k * 79) a.row) := fun W kW => range_kept hr0 (HK0.out.then kW) (by simp)
      have gd : wr.cell? ⟨b, off + k * 79, none⟩ = some (.int .i64 a.doo) := by
        have h := HRg.out wr HK.out 0 (.int .i64 a.doo) rfl
        rwa [Nat.add_zero] at h
      have i0 : (0 : Int) ≤ (k : Int) := by omega
      have i1 : (k : Int) < (aks.length : Int) := by omega
      clear hcell hr0
      by_cases hlo : lo ≤ a.doo
      · have d1 : decide (lo ≤ a.doo) = true := by simpa using hlo
        by_cases hhi : a.doo ≤ hi
        · have d2 : decide (a.doo ≤ hi) = true := by simpa using hhi
          have hrr := HRg.out wr HK.out
          have hi79 : (Tryz.prog.info? 39).map (·.size) = some a.row.length := by rw [hga.len]; kernel_rfl
          have hun := Tryz.underlying39
          have hhw := HHH.out a (List.mem_of_getElem? ha) hlo hhi wr (HK0.out.then HK.out)
          clear hga hlo hhi HRg ha
          generalize a.doo = d at *
          generalize a.row = er at *
          go_wp2_with (refine wpList_want (by rfl) (fun K hK => wp_load_mid 39 (.tmp 39) (by rfl) b (off + k * 79) (by rfl) er _ hrr hun rfl hi79 (hK _ _ ?_)))
          go_at_call 6
          refine hhw.mono ?_
          rintro e w2 ⟨rfl, k2⟩
          have HK2 : Hid (Kept [] W0 w2) := HK.out.then k2
          clear hhw k2 hrr
          go_wp2
          go_roundw
          case rel => exact ⟨k + 1, by omega, by go_num, HK2⟩
          case measure => simp [intOf]; omega
        · have d2 : decide (a.doo ≤ hi) = false := by simpa using hhi
          clear hga hlo hhi HRg ha
          generalize a.doo = d at *
          go_wp2
          go_roundw
          case rel => exact ⟨k + 1, by omega, by go_num, HK⟩
          case measure => simp [intOf]; omega
      · have d1 : decide (lo ≤ a.doo) = false := by simpa using hlo
        clear hga hlo HRg ha
        generalize a.doo = d at *
        go_wp2
        go_roundw
        case rel => exact ⟨k + 1, by omega, by go_num, HK⟩
        case measure => simp [intOf]; omega
    · have t1 : decide ((k : Int) < aks.length) = false := by simp; omega
      go_wp2
      go_ret
      exact ⟨rfl, HK0.out.then HK.out⟩
end Go.Proofs.YtfcoeinhfdbcgaaGreatDoor

namespace Go.Proofs.YtfcoeinhfdbcgaaGreatDoor
open Go.RowKit

theorem holds_any (a : AskL) (w : World) (ha : AskL.Good w a) (hT : Tabs w) (hV : Vars w) (hR : VarsR w) (hn : a.bs.length ≤ 1000000000000) :
    Calls Tryz.prog 6 #[.agg a.row.toArray] w fun e w' => e = .returned (.bool true) ∧ Kept [] w w' := by
  by_cases h : 1 ≤ a.doo ∧ a.doo ≤ 6
  · rcases (by omega : a.doo = 1 ∨ a.doo = 2 ∨ a.doo = 3 ∨ a.doo = 4 ∨ a.doo = 5 ∨ a.doo = 6) with h | h | h | h | h | h
    · exact holdsEnc_any a h w ha hT
    · exact holdsParse_any a h w ha hT
    · exact holdsKind_any a h w ha hT
    · exact holdsChil_any a h w ha hT
    · exact holdsId_any a h w ha hV hR hn
    · exact holdsNameL_any a h w ha hT
  · exact holdsRest_any a h w ha

set_option maxRecDepth 100000 in
set_option maxHeartbeats 4000000 in
theorem exact_any {w : World} {v : Value} {aks : List AskL} (hv : AsksL w v aks) (hg : ∀ a, a ∈ aks → AskL.Good w a) (hT : Tabs w) (hV : Vars w) (hR : VarsR w) (hn : ∀ a, a ∈ aks → a.bs.length ≤ 1000000000000) :
    Calls Tryz.prog 3 #[.agg #[v]] w fun e w' => e = .returned (.bool true) ∧ Kept [] w w' := by
  obtain ⟨ao, cap, rfl, hal, hcc⟩ := hv
  obtain ⟨W0, hW0⟩ : ∃ W0, W0 = w.alloc (.cells #[.slice ao aks.length cap] 24) := ⟨_, rfl⟩
  have HW0 : Hid (W0 = w.alloc (.cells #[.slice ao aks.length cap] 24)) := hW0
  have HK0 : Hid (Kept [] w W0) := by rw [hW0]; exact (Kept.refl _ _).alloc _
  have HBx : Hid (∀ W, Kept [] W0 W → W.cell? ⟨w.heap.size, 0, none⟩ = some (.slice ao aks.length cap)) := fun W k => by
    have hb := k.heap (show W0.heap[w.heap.size]? = _ by rw [hW0]; exact heap_alloc_new w _) (by simp)
    rw [cell_of_row _ _ _ _ _ _ hb]
    rfl
  have HC : Hid (aks ≠ [] → ∃ b off, ao = some ⟨b, off, none⟩ ∧ ∀ (i : Nat) (a : AskL), aks[i]? = some a → w.rangeAt b (off + i * 79) a.row) := hcc
  have HG : Hid (∀ a, a ∈ aks → AskL.Good w a) := hg
  have hwk := wakes_any W0 (hT.kept HK0.out)
  rw [hW0] at hwk
  have HHH : Hid (∀ a, a ∈ aks → ∀ W, Kept [] w W → Calls Tryz.prog 6 #[.agg a.row.toArray] W fun e w' => e = .returned (.bool true) ∧ Kept [] W w') := fun a ha W kk => holds_any a W ((hg a ha).kept kk) (hT.kept kk) (hV.kept kk (by simp) (by simp)) (hR.kept kk (by simp) (by simp)) (hn a ha)
  clear hcc hg hT hW0 hV hR hn
  go_enter Tryz.func3, Tryz.ntmps3
  go_wp2_with fail
  go_at_call 5
  refine hwk.mono ?_
  rintro e w1 ⟨rfl, k1⟩
  rw [← HW0.out] at k1
  have HK1 : Hid (Kept [] W0 w1) := k1
  clear hwk k1
  go_wp2
  go_loopw [3] (fun s3 wr => ∃ k : Nat, k ≤ aks.length ∧ s3 = .int .i64 k ∧ Hid (Kept [] W0 wr)) (fun s3 _ => aks.length - (intOf s3).toNat)
  case atStart => exact ⟨0, Nat.zero_le _, rfl, HK1⟩
  case round =>
    clear HK1
    obtain ⟨k, hk, rfl, HK⟩ := hrel
    have g0 := HBx.out wr HK.out
    by_cases hlt : k < aks.length
    · have t1 : decide ((k : Int) < aks.length) = true := by simp; omega
      obtain ⟨a, ha⟩ : ∃ a, aks[k]? = some a := ⟨aks[k], List.getElem?_eq_getElem hlt⟩
      have hlt2 : k / 2 < aks.length := by omega
      obtain ⟨c, hc⟩ : ∃ c, aks[k / 2]? = some c := ⟨aks[k / 2], List.getElem?_eq_getElem hlt2⟩
      obtain ⟨b, off, rfl, hcell⟩ := HC.out (by rintro rfl; simp at hlt)
      have hr0 := hcell k a ha
      have hr1 := hcell (k / 2) c hc
      have hga := HG.out a (List.mem_of_getElem? ha)
      have hgc := HG.out c (List.mem_of_getElem? hc)
      have hrr := range_kept hr0 (HK0.out.then HK.out) (by simp)
      have HRg : Hid (∀ W, Kept [] W0 W → W.rangeAt b (off + k / 2 * 79) c.row) := fun W kW => range_kept hr1 (HK0.out.then kW) (by simp)
      have i0 : (0 : Int) ≤ (k : Int) := by omega
      have i1 : (k : Int) < (aks.length : Int) := by omega
      have q0 : (k : Int).tdiv 2 = ((k / 2 : Nat) : Int) := by rw [Int.tdiv_eq_ediv_of_nonneg (by omega)]; omega
      have hi79 : (Tryz.prog.info? 39).map (·.size) = some a.row.length := by rw [hga.len]; kernel_rfl
      have hi78 : (Tryz.prog.info? 39).map (·.size) = some c.row.length := by rw [hgc.len]; kernel_rfl
      have hun := Tryz.underlying39
      have hhw := HHH.out a (List.mem_of_getElem? ha) wr (HK0.out.then HK.out)
      have HH2 : Hid (∀ W, Kept [] w W → Calls Tryz.prog 6 #[.agg c.row.toArray] W fun e w' => e = .returned (.bool true) ∧ Kept [] W w') := HHH.out c (List.mem_of_getElem? hc)
      clear hcell hr0 hr1 hga hgc ha hc
      generalize a.row = er at *
      generalize c.row = cr at *
      go_wp2_with (refine wpList_want (by rfl) (fun K hK => wp_load_mid 39 (.tmp 16) (by rfl) b (off + k * 79) (by rfl) er _ hrr hun rfl hi79 (hK _ _ ?_)))
      go_at_call 6
      refine hhw.mono ?_
      rintro e w2 ⟨rfl, k2⟩
      have HK2 : Hid (Kept [] W0 w2) := HK.out.then k2
      clear hhw k2 hrr
      have g2 := HBx.out w2 HK2.out
      have hrr := HRg.out w2 HK2.out
      have hhw := HH2.out w2 (HK0.out.then HK2.out)
      go_wp2_with (refine wpList_want (by rfl) (fun K hK => wp_load_mid 39 (.tmp 25) (by rfl) b (off + k / 2 * 79) (by rfl) cr _ hrr hun rfl hi78 (hK _ _ ?_)))
      go_at_call 6
      refine hhw.mono ?_
      rintro e w3 ⟨rfl, k3⟩
      have HK3 : Hid (Kept [] W0 w3) := HK2.out.then k3
      clear hhw k3 hrr
      go_wp2
      go_roundw
      case rel => exact ⟨k + 1, by omega, by go_num, HK3⟩
      case measure => simp [intOf]; omega
    · have t1 : decide ((k : Int) < aks.length) = false := by simp; omega
      go_wp2
      go_ret
      exact ⟨rfl, HK0.out.then HK.out⟩
end Go.Proofs.YtfcoeinhfdbcgaaGreatDoor
