/-
  WALK: satchellaw4.lives.
-/
import Derived.Test.YtpdlnmjnpodicaaDoorSk5
namespace Go.Proofs.YtpdlnmjnpodicaaDoor
open Go.RowKit Go.WideMaps

theorem vars_below {w : World} (h : Vars w) : 0 < w.heap.size ∧ 1 < w.heap.size := by
  obtain ⟨⟨_, _, h1⟩, ⟨_, _, h2⟩⟩ := h
  exact ⟨(Array.getElem?_eq_some_iff.1 h1).1, (Array.getElem?_eq_some_iff.1 h2).1⟩
set_option maxRecDepth 100000 in
set_option maxHeartbeats 4000000 in
theorem lives4_any (w : World) (hV : Vars w) : Calls Tryd.prog 5 #[] w fun e w' => e = .returned (.bool true) ∧ Kept [] w w' := by
  have hnew := New_st w
  have HV : Hid (∀ W, Kept [] w W → Vars W) := fun W k => hV.kept k (by simp) (by simp)
  have hgd : GoodID (digL [1, 120]) := ⟨digL_len _, digL_octs _⟩
  have HGD : Hid (GoodID (digL [1, 120])) := hgd
  have hsz : (Tryd.prog.info? 33).map (·.size) = some (idC (digL [1, 120])).size := by rw [idC_size (digL_len _)]; exact Tryd.infoID
  have hzz : (idC zid).size = (idC (digL [1, 120])).size := by rw [idC_size (digL_len _)]; rfl
  have hone : (idC (digL [1, 120])).all (·.oneCell') = true := all_oneCell_toArray (map_oneCell _)
  have hui := Tryd.underlying33
  clear hV hgd
  go_enter Tryd.func5, Tryd.ntmps5
  go_wp2_with fail
  go_at_call 4
  refine hnew.mono ?_
  rintro e w1 ⟨s, b, rfl, hst, hs, hb, k1⟩
  obtain ⟨w2, hw2⟩ : ∃ w2, w2 = w1.alloc (.cells #[.int .u8 1, .int .u8 120] 5) := ⟨_, rfl⟩
  have HW2 : Hid (w2 = w1.alloc (.cells #[.int .u8 1, .int .u8 120] 5)) := hw2
  have k12 : Kept [] w1 w2 := by rw [hw2]; exact (Kept.refl _ _).alloc _
  have hbl := hst.lt.2
  have hb2 : BytesAt w2 (.slice (some ⟨w1.heap.size, 0, none⟩) ([1, 120] : List Int).length 2) [1, 120] := row_bytes' (ys := [1, 120]) (by rw [hw2]; exact heap_alloc_new w1 _)
  have hput := Put_st (hst.on k12) (by omega) w1.heap.size 0 2 [1, 120] [120] rfl hb2 (by omega) (by intro u hu; simp at hu; omega) (by decide) (HV.out w2 (k1.then k12))
  have HK2 : Hid (Kept [] w w2) := k1.then k12
  have HST : Hid (St w1 s b 0 (.map [])) := hst
  have HBW : Hid (w.heap.size ≤ b) := hb
  clear hnew hst k1 k12 hb2 hw2
  go_wp2_with fail
  rw [← HW2.out]
  go_at_call 10
  refine hput.mono ?_
  rintro e w3 hpa
  obtain ⟨g, c, rfl, hst3, hb3, k3⟩ := hpa.new rfl (by decide)
  obtain ⟨w4, hw4⟩ : ∃ w4, w4 = w3.alloc (.cells (idC (digL [1, 120])) 33) := ⟨_, rfl⟩
  have HW4 : Hid (w4 = w3.alloc (.cells (idC (digL [1, 120])) 33)) := hw4
  have k34 : Kept [] w3 w4 := by rw [hw4]; exact (Kept.refl _ _).alloc _
  have HK4 : Hid (Kept [] w w4) := (kept_newP HK2.out k3 HBW.out).then k34
  have HI4 : Hid (w4.heap[w3.heap.size]? = some (.cells (idC (digL [1, 120])) 33 (0, 0))) := by rw [hw4]; exact heap_alloc_new w3 _
  have hat := Maps.atKey_put_same HST.out.own.isMap (idKey_lit (digL [1, 120])) (slD g ([1, 120] : List Int).length c) .nil
  have hhs := Maps.has_put_same HST.out.own.isMap (idKey_lit (digL [1, 120])) (slD g ([1, 120] : List Int).length c)
  have hsize : Maps.size ((DataW.map []).put (idKey (digL [1, 120])) (slD g ([1, 120] : List Int).length c)) = 1 := by
    rw [Maps.size_put (HST.out.own.tidy Tryd.keyId)]
    rfl
  have hget := Get_st (hst3.on k34) HGD.out hhs hat (hb3.kept' k34 (fun _ _ _ => by simp)) (by simp) (by decide)
  have HS4 : Hid (∀ W, Kept [] w4 W → Calls Tryd.prog 9 #[.pointer (some ⟨s, 0, none⟩)] W fun e w' => e = .returned (.int .i64 1) ∧ w' = W) := fun W k => by
    have h := Len_st ((hst3.on k34).on k)
    rw [hsize] at h
    exact h
  clear hput hpa hst3 hb3 k3 k34 hw4 hat hhs hsize
  generalize idC (digL [1, 120]) = ic at *
  go_wp2_with (first
    | (refine wpList_store_newS (by rfl) 33 (.tmp 2) (.tmp 14) (by rfl) w3 _ ic (by rfl) (by rfl) hsz hzz hone ?_; rw [← HW4.out])
    | (refine wpList_load_row (by rfl) 33 (.tmp 2) (by rfl) w3.heap.size (by rfl) 33 ic (0, 0) _ HI4.out hui rfl hsz ?_))
  go_at_call 13
  refine hget.mono ?_
  rintro e w5 ⟨g5, c5, rfl, b5, k5⟩
  have hlb : ([1, 120] : List Int).length = 2 := rfl
  rw [hlb] at b5
  obtain ⟨w6, hw6⟩ : ∃ w6, w6 = w5.alloc (.cells #[.int .u8 1, .int .u8 120] 5) := ⟨_, rfl⟩
  have HW6 : Hid (w6 = w5.alloc (.cells #[.int .u8 1, .int .u8 120] 5)) := hw6
  have k56 : Kept [] w5 w6 := by rw [hw6]; exact (Kept.refl _ _).alloc _
  have hb6 : BytesAt w6 (.slice (some ⟨w5.heap.size, 0, none⟩) 2 2) [1, 120] := row_bytes' (ys := [1, 120]) (by rw [hw6]; exact heap_alloc_new w5 _)
  have heq := Eq_same (b5.kept' k56 (fun _ _ _ => by simp)) hb6 (by decide)
  have HK46 : Hid (Kept [] w4 w6) := k5.then k56
  have hnum := num4_any 0
  clear hget b5 k5 hb6 k56 hw6 hlb
  go_wp2_with (first
    | (go_at_call 11; refine (hnum _).mono ?_; rintro e wn ⟨rfl, hwn⟩; subst wn)
    | (go_at_call 14; rw [← HW6.out]; refine heq.mono ?_; rintro e w7 ⟨rfl, n7, hw7⟩
       have HK7 : Hid (Kept [] w4 w7) := by rw [hw7]; exact HK46.out.drewN n7
       have hln := HS4.out w7 HK7.out
       clear hw7)
    | (go_at_call 9; refine hln.mono ?_; rintro e w8 ⟨rfl, hw8⟩; subst w8))
  go_ret
  exact ⟨rfl, HK4.out.then HK7.out⟩
end Go.Proofs.YtpdlnmjnpodicaaDoor
