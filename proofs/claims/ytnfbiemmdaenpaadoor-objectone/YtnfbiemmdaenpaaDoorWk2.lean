/-
  TWO OBJECTS AND BYTES OPENED: what a reading of them says of memory.
  WALK: satchellaw3.wakes.
-/
import Derived.Test.YtnfbiemmdaenpaaDoorOxO
import Derived.Test.YtnfbiemmdaenpaaDoorNm0
namespace Go.Proofs.YtnfbiemmdaenpaaDoor
open Go.ChangeShapes Go.WideShapes Go.ChangeAt Go.RowKit Go.Deep

structure TwoL where
  A : ObjL
  B : ObjL
  xv : Value
  xs : List Int
  yv : Value
  ys : List Int
  n : Int
def TwoL.row (t : TwoL) : List Value := t.A.row ++ (t.B.row ++ ([t.xv] ++ ([t.yv] ++ [.int .i64 t.n])))
structure TwoL.Good (w : World) (t : TwoL) : Prop where
  A : ObjL.Good w t.A
  fA : t.A.Fits
  B : ObjL.Good w t.B
  fB : t.B.Fits
  xv : BytesAt w t.xv t.xs
  xs : GoodText t.xs
  yv : BytesAt w t.yv t.ys
  ys : GoodText t.ys
  lo : -9223372036854775808 ≤ t.n
  hi : t.n ≤ 9223372036854775807
theorem TwoL.Good.kept {w w' : World} {t : TwoL} (h : TwoL.Good w t) (k : Kept [] w w') : TwoL.Good w' t :=
  ⟨h.A.kept k, h.fA, h.B.kept k, h.fB, h.xv.keep k (fun _ _ _ => by simp), h.xs, h.yv.keep k (fun _ _ _ => by simp), h.ys, h.lo, h.hi⟩
theorem two_len {t : TwoL} (a1 : t.A.com.tree.length = 32) (a2 : t.A.tag.target.length = 32) (b1 : t.B.com.tree.length = 32) (b2 : t.B.tag.target.length = 32) : t.row.length = 155 := by
  unfold TwoL.row
  rw [List.length_append, List.length_append, objL_len a1 a2, objL_len b1 b2]
  rfl
theorem TwoL.Good.len {w : World} {t : TwoL} (h : TwoL.Good w t) : t.row.length = 155 := two_len h.A.com.tree.1 h.A.tag.target.1 h.B.com.tree.1 h.B.tag.target.1
/-- Its parts, in memory. -/
theorem two_at {t : TwoL} {w0 : World} (hg : TwoL.Good w0 t) {w : World} {b : Nat} {ty : TypeId} {fr : Nat × Nat} (h : w.heap[b]? = some (.cells t.row.toArray ty fr)) :
    w.rangeAt b 0 t.A.row ∧ w.rangeAt b 76 t.B.row ∧ w.cell? ⟨b, 152, none⟩ = some t.xv ∧ w.cell? ⟨b, 153, none⟩ = some t.yv ∧ w.cell? ⟨b, 154, none⟩ = some (.int .i64 t.n) := by
  have hr := row_range h
  have hA := objL_len hg.A.com.tree.1 hg.A.tag.target.1
  have hB := objL_len hg.B.com.tree.1 hg.B.tag.target.1
  have tail : ∀ j v, (t.B.row ++ ([t.xv] ++ ([t.yv] ++ [Value.int .i64 t.n])))[j]? = some v → t.row[76 + j]? = some v := fun j v hj => by
    unfold TwoL.row
    rw [List.getElem?_append_right (by omega), hA, Nat.add_sub_cancel_left]
    exact hj
  have tail2 : ∀ j v, ([t.xv] ++ ([t.yv] ++ [Value.int .i64 t.n]))[j]? = some v → t.row[152 + j]? = some v := fun j v hj => by
    have := tail (76 + j) v (by rw [List.getElem?_append_right (by omega), hB, Nat.add_sub_cancel_left]; exact hj)
    rwa [← Nat.add_assoc] at this
  have key : ∀ j v, t.row[j]? = some v → w.cell? ⟨b, j, none⟩ = some v := fun j v hj => by
    have := hr j v hj
    rwa [Nat.zero_add] at this
  refine ⟨fun j v hj => ?_, fun j v hj => key _ v (tail j v ?_), key 152 _ (tail2 0 _ rfl), key 153 _ (tail2 1 _ rfl), key 154 _ (tail2 2 _ rfl)⟩
  · rw [Nat.zero_add]
    refine key j v ?_
    unfold TwoL.row
    rw [List.getElem?_append_left (List.getElem?_eq_some_iff.1 hj).1]
    exact hj
  · rw [List.getElem?_append_left (List.getElem?_eq_some_iff.1 hj).1]
    exact hj

theorem Tryd.cells_two : Tryd.prog.cellsOf 35 = 155 := by kernel_rfl

section
variable {H : Type} {enc : TypeId × Value → H} {w : World} {base : Nat} {spare : Nat → Bool} {held : Bool}
set_option maxRecDepth 100000 in
theorem open_two {r : Reach} {b0 : Nat} {v : Value} {d : DataW H} {p : List MemPlace} (hv : Value.okWide Tryd.prog w r b0 35 v) (h : DataW.Trod enc Tryd.prog w base spare held 35 v d p)
    (hB : (DataW.weights Tryd.prog 35 d).all (· ≤ 140737488351232) = true) :
    ∃ t : TwoL, v = .agg t.row.toArray ∧ TwoL.Good w t := by
  obtain ⟨vs, rfl, hsz⟩ := okWide_struct Tryd.underlying35 hv
  rw [Tryd.cells_two] at hsz
  obtain ⟨fuel, hf0⟩ := h
  obtain ⟨zs, n, rfl, hx, hlen, hxs, hfl⟩ := DataW.trod_struct Tryd.underlying35 hf0
  simp only [Prod.mk.injEq] at hx
  obtain ⟨rfl, _⟩ := hx
  obtain ⟨cs⟩ := vs
  have hl : cs.length = 155 := hsz
  have f0 := hfl 0 _ rfl
  have f1 := hfl 1 _ rfl
  have f2 := hfl 2 _ rfl
  have f3 := hfl 3 _ rfl
  have f4 := hfl 4 _ rfl
  match zs, hxs with
  | [y0, y1, y2, y3, y4], _ =>
    simp [Tryd.cells_int, Tryd.cells_bytes, Tryd.cells_obj, Value.cells] at f0 f1 f2 f3 f4
    obtain ⟨oA, e0, k0⟩ := open_obj f0
    obtain ⟨oB, e1, k1⟩ := open_obj f1
    obtain ⟨ax, cx, xs, e2, hb2, o2, k2, _⟩ := open_bytes f2
    obtain ⟨ay, cy, ys, e3, hb3, o3, k3, _⟩ := open_bytes f3
    obtain ⟨m, e4, l1, l2⟩ := open_int f4
    have c : cs = cs.take 76 ++ ((cs.drop 76).take 76 ++ ((cs.drop 152).take 1 ++ ((cs.drop 153).take 1 ++ (cs.drop 154).take 1))) := cut5 cs 76 76 1 1 1 hl
    rw [e0, e1, e2, e3, e4] at c
    simp only [DataW.weights, Tryd.underlying35, DataW.weightsEach, List.map_cons, List.map_nil, List.append_nil, List.all_append, Bool.and_eq_true] at hB
    obtain ⟨b0, b1, b2, b3, _⟩ := hB
    refine ⟨⟨oA, oB, .slice ax xs.length cx, xs, .slice ay ys.length cy, ys, m⟩, by rw [c]; rfl, ⟨(k0 b0).1, (k0 b0).2, (k1 b1).1, (k1 b1).2, hb2, ⟨o2, k2 _ b2⟩, hb3, ⟨o3, k3 _ b3⟩, l1, l2⟩⟩
end
end Go.Proofs.YtnfbiemmdaenpaaDoor

namespace Go.Proofs.YtnfbiemmdaenpaaDoor
open Go.RowKit

set_option maxRecDepth 100000 in
set_option maxHeartbeats 8000000 in
theorem wakes_any (w : World) (hT : Tabs w) :
    Calls Tryd.prog 5 #[] w fun e w' => e = .returned (.bool true) ∧ Kept [] w w' := by
  obtain ⟨OC, hOC⟩ : ∃ A, A = (comO wakeC (.slice (some ⟨w.heap.size, 0, none⟩) 2 2)).row.toArray := ⟨_, rfl⟩
  obtain ⟨OT, hOT⟩ : ∃ A, A = (tagO wT).row.toArray := ⟨_, rfl⟩
  have HOC : Hid (OC = (comO wakeC (.slice (some ⟨w.heap.size, 0, none⟩) 2 2)).row.toArray) := hOC
  have HOT : Hid (OT = (tagO wT).row.toArray) := hOT
  have hs1 : (Tryd.prog.info? 33).map (·.size) = some OC.size := by rw [hOC]; kernel_rfl
  have hs2 : (Tryd.prog.info? 33).map (·.size) = some OT.size := by rw [hOT]; kernel_rfl
  have ho1 : OC.all (·.oneCell') = true := by rw [hOC]; kernel_rfl
  have ho2 : OT.all (·.oneCell') = true := by rw [hOT]; kernel_rfl
  have hz1' : Tryd.zeroCells33.size = OC.size := by rw [hOC]; kernel_rfl
  have hz2' : Tryd.zeroCells33.size = OT.size := by rw [hOT]; kernel_rfl
  have hz1 : Hid (Tryd.zeroCells33.size = OC.size) := hz1'
  have hz2 : Hid (Tryd.zeroCells33.size = OT.size) := hz2'
  have hsz : ∀ pv, (Tryd.prog.info? 33).map (·.size) = some (comO wakeC pv).row.toArray.size := fun pv => by kernel_rfl
  have HSZ : Hid (∀ pv, (Tryd.prog.info? 33).map (·.size) = some (comO wakeC pv).row.toArray.size) := hsz
  have hzz : ∀ pv, Tryd.zeroCells33.size = (comO wakeC pv).row.toArray.size := fun pv => by kernel_rfl
  have HZZ : Hid (∀ pv, Tryd.zeroCells33.size = (comO wakeC pv).row.toArray.size) := hzz
  have hon : ∀ b, (comO wakeC (.slice (some ⟨b, 0, none⟩) 2 2)).row.toArray.all (·.oneCell') = true := fun b => by kernel_rfl
  have HON : Hid (∀ b, (comO wakeC (.slice (some ⟨b, 0, none⟩) 2 2)).row.toArray.all (·.oneCell') = true) := hon
  have huo := Tryd.underlying33
  clear hOC hOT hz1' hz2' hsz hzz hon
  obtain ⟨w0, hw0⟩ : ∃ x, x = w.alloc (.cells ((wid 1 ++ wid 2).map (Value.int .u8)).toArray 25) := ⟨_, rfl⟩
  obtain ⟨w1, hw1⟩ : ∃ x, x = w0.alloc (.cells OC 33) := ⟨_, rfl⟩
  obtain ⟨w2, hw2⟩ : ∃ x, x = w1.alloc (.cells OT 33) := ⟨_, rfl⟩
  have HW0 : Hid (w0 = w.alloc (.cells ((wid 1 ++ wid 2).map (Value.int .u8)).toArray 25)) := hw0
  have HW1 : Hid (w1 = w0.alloc (.cells OC 33)) := hw1
  have HW2 : Hid (w2 = w1.alloc (.cells OT 33)) := hw2
  have HK0 : Hid (Kept [] w w0) := by rw [hw0]; exact (Kept.refl _ _).alloc _
  have HK1 : Hid (Kept [] w0 w1) := by rw [hw1]; exact (Kept.refl _ _).alloc _
  have HK2 : Hid (Kept [] w1 w2) := by rw [hw2]; exact (Kept.refl _ _).alloc _
  have HK : Hid (Kept [] w w2) := HK0.out.then (HK1.out.then HK2.out)
  have hi0 : IdsAt w0 (.slice (some ⟨w.heap.size, 0, none⟩) 2 2) wakeC.parents := ids_of_rows (t := 25) (ids := wakeC.parents) (by
    unfold RowsIn
    rw [hw0]
    exact heap_alloc_new w _) (fun o ho => (wC_good.parents o ho).1) (by decide)
  have HB1 : Hid (∀ W, Kept [] w2 W → W.heap[w0.heap.size]? = some (.cells OC 33 (0, 0))) := fun W hW => (HK2.out.then hW).heap (by rw [hw1]; exact heap_alloc_new w0 _) (by simp)
  have HB2 : Hid (∀ W, Kept [] w2 W → W.heap[w1.heap.size]? = some (.cells OT 33 (0, 0))) := fun W hW => hW.heap (by rw [hw2]; exact heap_alloc_new w1 _) (by simp)
  have HP : Hid (∀ W, Kept [] w2 W → IdsAt W (.slice (some ⟨w.heap.size, 0, none⟩) 2 2) wakeC.parents) := fun W hW => hi0.keep (HK1.out.then (HK2.out.then hW)) (fun _ _ _ => by simp)
  have HTT : Hid (∀ W, Kept [] w2 W → Tabs W) := fun W hW => hT.kept (HK.out.then hW)
  have HE1 : Hid (∀ W, Kept [] w2 W → Calls Tryd.prog 6 #[.agg OC] W fun e w' => ∃ b, e = .returned (.tuple #[.slice (some ⟨b, 0, none⟩) 111 111, .int .i64 0]) ∧ BytesAt w' (.slice (some ⟨b, 0, none⟩) 111 111) (encC wakeC) ∧ Kept [] W w') := fun W hW => by
    rw [HOC.out]; exact wEncC _ W (HTT.out W hW) (HP.out W hW)
  have HE2 : Hid (∀ W, Kept [] w2 W → Calls Tryd.prog 6 #[.agg OT] W fun e w' => ∃ b, e = .returned (.tuple #[.slice (some ⟨b, 0, none⟩) 46 46, .int .i64 0]) ∧ BytesAt w' (.slice (some ⟨b, 0, none⟩) 46 46) (encG wT) ∧ Kept [] W w') := fun W hW => by
    rw [HOT.out]; exact wEncT W (HTT.out W hW)
  clear hw0 hw1 hw2 hi0 hT
  obtain ⟨RC, hRC⟩ : ∃ A, A = (wakeC.row (.slice (some ⟨w.heap.size, 0, none⟩) 2 2)).toArray := ⟨_, rfl⟩
  obtain ⟨RT, hRT⟩ : ∃ A, A = wT.row.toArray := ⟨_, rfl⟩
  obtain ⟨I3, hI3⟩ : ∃ A, A = idC (wid 3) := ⟨_, rfl⟩
  have HRC : Hid (RC = (wakeC.row (.slice (some ⟨w.heap.size, 0, none⟩) 2 2)).toArray) := hRC
  have HRT : Hid (RT = wT.row.toArray) := hRT
  have HI3 : Hid (I3 = idC (wid 3)) := hI3
  clear hRC hRT hI3
  go_enter Tryd.func5, Tryd.ntmps5
  have k0 : Hid (Kept [] w2 w2) := Kept.refl _ _
  go_wp2_with (first
    | (refine wpList_built (by rfl) 29 _ (by rfl) RC (by rw [HRC.out]; kernel_rfl) ?_; change wpList _ _ _ _ _ (w.alloc (.cells ((wid 1 ++ wid 2).map (Value.int .u8)).toArray 25)); rw [← HW0.out])
    | (refine wpList_built (by rfl) 33 #[(0, .const (.int .i64 3)), (3, .tmp 12)] (by rfl) OC (by rw [HOC.out, HRC.out]; kernel_rfl) ?_)
    | (refine wpList_store_new (by rfl) 33 (.tmp 1) (.tmp 13) (by rfl) w0 _ OC (by rfl) (by rfl) hs1 hz1.out ho1 ?_; rw [← HW1.out])
    | (refine wpList_built (by rfl) 25 #[(0, .const (.int .u8 3))] (by rfl) I3 (by rw [HI3.out]; kernel_rfl) ?_)
    | (refine wpList_built (by rfl) 31 _ (by rfl) RT (by rw [HRT.out, HI3.out]; kernel_rfl) ?_)
    | (refine wpList_built (by rfl) 33 #[(0, .const (.int .i64 4)), (4, .tmp 15)] (by rfl) OT (by rw [HOT.out, HRT.out]; kernel_rfl) ?_)
    | (refine wpList_store_new (by rfl) 33 (.tmp 2) (.tmp 16) (by rfl) w1 _ OT (by rfl) (by rfl) hs2 hz2.out ho2 ?_; rw [← HW2.out])
    | (refine wpList_load_row (by rfl) 33 (.tmp 1) (by rfl) w0.heap.size (by rfl) 33 OC (0, 0) _ (HB1.out w2 k0.out) huo rfl hs1 ?_))
  refine (HE1.out _ k0.out).mono ?_
  rintro e w3 ⟨g3, rfl, hb3, hk3⟩
  have k3 : Hid (Kept [] w2 w3) := hk3
  have B3 : Hid (BytesAt w3 (.slice (some ⟨g3, 0, none⟩) 111 111) (encC wakeC)) := hb3
  clear hk3 hb3
  go_wp2_with (refine wpList_load_row (by rfl) 33 (.tmp 2) (by rfl) w1.heap.size (by rfl) 33 OT (0, 0) _ (HB2.out _ k3.out) huo rfl hs2 ?_)
  refine (HE2.out _ k3.out).mono ?_
  rintro e w4 ⟨g4, rfl, hb4, hk4⟩
  have k4 : Hid (Kept [] w2 w4) := k3.out.then hk4
  have B3' : Hid (BytesAt w4 (.slice (some ⟨g3, 0, none⟩) 111 111) (encC wakeC)) := B3.out.kept hk4 (fun _ _ => by simp)
  have B4 : Hid (BytesAt w4 (.slice (some ⟨g4, 0, none⟩) 46 46) (encG wT)) := hb4
  clear hk4 hb4 B3 k3
  go_wp2_with fail
  refine (wParse _ _ (HTT.out _ k4.out) B3'.out).mono ?_
  rintro e w5 ⟨hk5, g5, rfl, hi5⟩
  obtain ⟨OP, hOP⟩ : ∃ A, A = (comO wakeC (.slice (some ⟨g5, 0, none⟩) 2 2)).row.toArray := ⟨_, rfl⟩
  have HOP : Hid (OP = (comO wakeC (.slice (some ⟨g5, 0, none⟩) 2 2)).row.toArray) := hOP
  have hs3 : (Tryd.prog.info? 33).map (·.size) = some OP.size := by rw [hOP]; exact HSZ.out _
  have ho3 : OP.all (·.oneCell') = true := by rw [hOP]; exact HON.out _
  have hz3 : Hid (Tryd.zeroCells33.size = OP.size) := by rw [hOP]; exact HZZ.out _
  rw [← hOP]
  clear hOP
  obtain ⟨w6, hw6⟩ : ∃ x, x = w5.alloc (.cells OP 33) := ⟨_, rfl⟩
  have HW6 : Hid (w6 = w5.alloc (.cells OP 33)) := hw6
  have hk56 : Kept [] w5 w6 := by rw [hw6]; exact (Kept.refl _ _).alloc _
  have k6 : Hid (Kept [] w2 w6) := k4.out.then (hk5.then hk56)
  have B6 : Hid (BytesAt w6 (.slice (some ⟨g4, 0, none⟩) 46 46) (encG wT)) := B4.out.kept (hk5.then hk56) (fun _ _ => by simp)
  have I6 : Hid (IdsAt w6 (.slice (some ⟨g5, 0, none⟩) 2 2) wakeC.parents) := hi5.keep hk56 (fun _ _ _ => by simp)
  have P6 : Hid (w6.heap[w5.heap.size]? = some (.cells OP 33 (0, 0))) := by rw [hw6]; exact heap_alloc_new w5 _
  clear hw6 hk56 hk5 hi5 B3' B4
  go_wp2_with (refine wpList_store_new (by rfl) 33 (.tmp 7) (.tmp 46) (by rfl) w5 _ OP (by rfl) (by rfl) hs3 hz3.out ho3 ?_; rw [← HW6.out])
  refine (wChil _ _ (HTT.out _ k6.out) B6.out).mono ?_
  rintro e w7 ⟨hk7, g7, rfl, hc7⟩
  have k7 : Hid (Kept [] w2 w7) := k6.out.then hk7
  have B7 : Hid (BytesAt w7 (.slice (some ⟨g4, 0, none⟩) 46 46) (encG wT)) := B6.out.kept hk7 (fun _ _ => by simp)
  have P7 : Hid (w7.heap[w5.heap.size]? = some (.cells OP 33 (0, 0))) := hk7.heap P6.out (by simp)
  have HS : Hid (Calls Tryd.prog 10 #[.agg OP, .agg OC] w7 fun e w' => e = .returned (.bool true) ∧ Kept [] w7 w') := by
    rw [HOP.out, HOC.out]
    exact Same_com wakeC _ _ w7 (I6.out.keep hk7 (fun _ _ _ => by simp)) (HP.out _ k7.out) wC_good
  have C7 : Hid (w7.cell? ⟨g7, 32, none⟩ = some (.int .i64 1)) := hc7
  clear hk7 hc7 B6 P6 I6 k6
  go_wp2_with (first
    | (refine wantedS (by rfl) fun K hK => wp_load_row 33 (.tmp 7) (by rfl) w5.heap.size (by rfl) 33 OP (0, 0) _ P7.out huo rfl hs3 (hK _ _ ?_))
    | (refine wantedS (by rfl) fun K hK => wp_load_row 33 (.tmp 1) (by rfl) w0.heap.size (by rfl) 33 OC (0, 0) _ (HB1.out _ k7.out) huo rfl hs1 (hK _ _ ?_)))
  refine HS.out.mono ?_
  rintro e w8 ⟨rfl, hk8⟩
  have hc8 := hk8.cell C7.out (by simp)
  have k8 : Hid (Kept [] w2 w8) := k7.out.then hk8
  have B8 : Hid (BytesAt w8 (.slice (some ⟨g4, 0, none⟩) 46 46) (encG wT)) := B7.out.kept hk8 (fun _ _ => by simp)
  clear hk8 B7 k7 P7 C7
  go_wp2_with fail
  refine (wName _ (HTT.out _ k8.out)).mono ?_
  rintro e w9 ⟨rfl, hk9⟩
  have k9 : Hid (Kept [] w2 w9) := k8.out.then hk9
  have B9 : Hid (BytesAt w9 (.slice (some ⟨g4, 0, none⟩) 46 46) (encG wT)) := B8.out.kept hk9 (fun _ _ => by simp)
  clear hk9 B8 k8
  go_wp2_with fail
  refine (wKind _ _ (HTT.out _ k9.out) B9.out).mono ?_
  rintro e w10 ⟨rfl, hk10⟩
  have k10 : Hid (Kept [] w w10) := HK.out.then (k9.out.then hk10)
  clear hk10
  go_wp2
  go_ret
  exact ⟨rfl, k10.out⟩
end Go.Proofs.YtnfbiemmdaenpaaDoor
