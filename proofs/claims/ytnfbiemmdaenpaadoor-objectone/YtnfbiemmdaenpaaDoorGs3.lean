/-
  WALKS: satchelref3.guess of a tag, of a blob.
-/
import Derived.Test.YtnfbiemmdaenpaaDoorGs2
import Derived.Test.YtnfbiemmdaenpaaDoorRCopy
namespace Go.Proofs.YtnfbiemmdaenpaaDoor
open Go.RowKit

/-- The tag that bytes would be. -/
def gTag (xs : List Int) : TagL :=
  let p1 := plus xs 1 32
  let p2 := plus xs p1 1
  let p3 := txtE xs p2
  let p4 := txtE xs p3
  let p5 := plus xs p4 8
  ⟨takeX xs 1 32, xAt xs p1, txtG xs p2, txtG xs p3, be (takeX xs p4 8), txtG xs p5⟩
theorem tagL_one {t : TagL} : ∀ u, u ∈ t.row → u.oneCell' = true := fun u hu => by
  unfold TagL.row at hu
  simp only [List.mem_append, List.mem_cons, List.not_mem_nil, or_false] at hu
  rcases hu with hu | rfl | rfl | rfl | rfl | rfl
  · exact map_oneCell _ u hu
  · rfl
  · rfl
  · rfl
  · rfl
  · rfl
theorem comL_one {c : ComL} {pv : Value} (hp : pv.oneCell' = true) : ∀ u, u ∈ c.row pv → u.oneCell' = true := fun u hu => by
  unfold ComL.row at hu
  simp only [List.mem_append, List.mem_cons, List.not_mem_nil, or_false] at hu
  rcases hu with hu | rfl | rfl | rfl | rfl
  · exact map_oneCell _ u hu
  · exact hp
  · rfl
  · rfl
  · rfl
theorem objV_one {o : ObjL} (h1 : o.bv.oneCell' = true) (h2 : o.ev.oneCell' = true) (h3 : o.pv.oneCell' = true) : o.row.toArray.all (·.oneCell') = true := all_oneCell_toArray fun u hu => by
  unfold ObjL.row at hu
  simp only [List.mem_append, List.mem_cons, List.not_mem_nil, or_false] at hu
  rcases hu with (rfl | rfl | rfl) | hu | hu
  · rfl
  · exact h1
  · exact h2
  · exact comL_one h3 u hu
  · exact tagL_one u hu

set_option maxRecDepth 100000 in
set_option maxHeartbeats 4000000 in
theorem guessTag_any (v : Value) (xs : List Int) (w : World) (hv : BytesAt w v xs) (ho : Octs xs) (hl : xs.length ≤ 65536) (hk : xAt xs 0 = 4) (hne : xs ≠ []) :
    Calls Tryd.prog 29 #[v] w fun e w' => e = .returned (.agg ({ kindO 4 with tag := gTag xs } : ObjL).row.toArray) ∧ Kept [] w w' := by
  have hp1 : plus xs 0 1 = 1 := by unfold plus; have := List.length_pos_iff.2 hne; omega
  obtain ⟨ao, cap, rfl, hcap, hnil⟩ : ∃ ao cap, v = .slice ao xs.length cap ∧ xs.length ≤ cap ∧ (ao = none → cap = 0) := by obtain ⟨ao, cap, h1, h2, h3, _⟩ := hv; exact ⟨ao, cap, h1, h2, h3⟩
  have hg0 := GAt.start hv ho hl
  have h1 := one_any hg0
  rw [hk, hp1] at h1
  have hun := Tryd.underlying33
  have hkz : (kindO 4).row.toArray.size = 76 := by rw [List.size_toArray]; rfl
  have hks : (Tryd.prog.info? 33).map (·.size) = some (kindO 4).row.toArray.size := by rw [hkz]; kernel_rfl
  have hkzz : Tryd.zeroCells33.size = (kindO 4).row.toArray.size := by rw [hkz]; kernel_rfl
  have hk1 : (kindO 4).row.toArray.all (·.oneCell') = true := by kernel_rfl
  have hbl := built_kind 4
  have HST : Hid (∀ w1, Kept [w.heap.size + 1] ((w.alloc (.cells Tryd.zeroCells33 33)).alloc (.cells #[.slice ao xs.length cap, .int .i64 0] 101)) w1 → GAt w1 (w.heap.size + 1) (.slice ao xs.length cap) xs 1 → Gu w (w1.alloc (.cells (kindO 4).row.toArray 33)) w1.heap.size (.slice ao xs.length cap) xs 1 (kindO 4)) := fun w1 k0 g => Gu.start hv k0 g
  have HK : Hid (∃ X, X = (kindO 4).row.toArray) := ⟨_, rfl⟩
  generalize hkr : (kindO 4).row.toArray = kr at *
  have HKR : Hid ((kindO 4).row.toArray = kr) := hkr
  have c0 : kr[0]? = some (.int .i64 4) := by rw [← hkr]; rfl
  clear hkr HK hg0 hk
  go_enter Tryd.func29, Tryd.ntmps29
  go_wp2_with fail
  go_at_call 49
  refine h1.mono ?_
  rintro e w1 ⟨rfl, g1, k1⟩
  have HG1 := HST.out w1 k1 g1
  have d0 : (w1.alloc (.cells kr 33)).cell? ⟨w1.heap.size, 0, none⟩ = some (.int .i64 4) := by rw [cell_of_row _ _ _ _ _ _ (heap_alloc_new w1 _)]; exact c0
  clear h1 HST g1 k1
  have hsz1 : w1.heap.size = w1.heap.size := rfl
  clear hsz1
  go_upto_region 25 with (first
    | (refine wpList_build_some (by rfl) 33 _ (by rfl) kr (by simp; exact hbl) ?_)
    | (refine wpList_store_new (by rfl) 33 (.tmp 4) (.tmp 16) (by rfl) w1 _ kr (by rfl) (by rfl) hks hkzz hk1 ?_))
  generalize w1.alloc (.cells kr 33) = W0 at *
  generalize w1.heap.size = ob at *
  obtain ⟨p0, hp0⟩ : ∃ p : Nat, p = 1 := ⟨_, rfl⟩
  obtain ⟨o0, ho0⟩ : ∃ o : ObjL, o = kindO 4 := ⟨_, rfl⟩
  have HG0 : Gu w W0 ob (.slice ao xs.length cap) xs p0 o0 := by rw [hp0, ho0]; exact HG1
  have hcl0 : o0.com.tree.length = 32 := by rw [ho0]; rfl
  have htl0 : o0.tag.target.length = 32 := by rw [ho0]; rfl
  have HP0 : Hid (p0 = 1) := hp0
  have HO0 : Hid (o0 = kindO 4) := ho0
  clear HG1 hp0 ho0 d0 HKR c0 hbl hk1 hkzz hks hkz
  have hc0 := gid_any HG0.gat
  obtain ⟨x0, hx0⟩ : ∃ x : List Int, x = takeX xs p0 32 := ⟨_, rfl⟩
  obtain ⟨p1, hp1⟩ : ∃ p : Nat, p = plus xs p0 32 := ⟨_, rfl⟩
  rw [← hx0, ← hp1] at hc0
  have HX0 : Hid (x0 = takeX xs p0 32) := hx0
  have HP1 : Hid (p1 = plus xs p0 32) := hp1
  obtain ⟨o1, ho1⟩ : ∃ o : ObjL, o = { o0 with tag := { o0.tag with target := x0 } } := ⟨_, rfl⟩
  have HO1 : Hid (o1 = { o0 with tag := { o0.tag with target := x0 } }) := ho1
  have hl0 : x0.length = 32 := by rw [hx0]; exact takeX_len _ _ _
  have hcl1 : o1.com.tree.length = 32 := by rw [ho1]; exact hcl0
  have htl1 : o1.tag.target.length = 32 := by rw [ho1]; exact hl0
  have HU0 : Hid (Gu w W0 ob (.slice ao xs.length cap) xs p0 o0) := HG0
  clear HG0
  go_wp2_with fail
  go_at_call 52
  refine hc0.mono ?_
  rintro e w1 ⟨rfl, g1, k1⟩
  have HN0 := HU0.out.next k1 g1
  have HTH0 : Hid (w1.there ob 39 32) := HN0.there (by rw [objL_len hcl0 htl0]; decide)
  have HZ0 : Hid (Gu w (w1.setCells ob 39 (x0.map (Value.int .u8))) ob (.slice ao xs.length cap) xs p1 o1) := HN0.putRow (by rw [List.length_map, hl0, objL_len hcl0 htl0]; decide) (by rw [ho1]; exact objL_target o0 x0 hcl0 htl0 hl0)
  have hsi0 : (Tryd.prog.info? 25).map (·.size) = some (idC x0).size := by rw [idC_size hl0]; exact Tryd.infoID
  have hai0 : (idC x0).all (·.oneCell') = true := all_oneCell_toArray (map_oneCell _)
  have hiz0 : (idC x0).size = 32 := idC_size hl0
  have HL0 : Hid ((idC x0).toList = x0.map (Value.int .u8)) := rfl
  clear hc0 g1 k1 HN0 HU0 hx0 hp1 ho1
  go_upto_region 26 with (refine wpList_store_mid (by rfl) 25 (.tmp 105) (.tmp 103) (by rfl) ob 39 (idC x0) (by rfl) (by rfl) (by rw [hiz0]; exact HTH0.out) hsi0 hai0 ?_; rw [HL0.out])
  have HG1 := HZ0.out
  clear HZ0 HTH0 hsi0 hai0 hiz0 HL0
  generalize w1.setCells ob 39 (x0.map (Value.int .u8)) = W1 at *
  have hc1 := one_any HG1.gat
  obtain ⟨x1, hx1⟩ : ∃ x : Int, x = xAt xs p1 := ⟨_, rfl⟩
  obtain ⟨p2, hp2⟩ : ∃ p : Nat, p = plus xs p1 1 := ⟨_, rfl⟩
  rw [← hx1, ← hp2] at hc1
  have HX1 : Hid (x1 = xAt xs p1) := hx1
  have HP2 : Hid (p2 = plus xs p1 1) := hp2
  obtain ⟨o2, ho2⟩ : ∃ o : ObjL, o = { o1 with tag := { o1.tag with kind := x1 } } := ⟨_, rfl⟩
  have HO2 : Hid (o2 = { o1 with tag := { o1.tag with kind := x1 } }) := ho2
  have hcl2 : o2.com.tree.length = 32 := by rw [ho2]; exact hcl1
  have htl2 : o2.tag.target.length = 32 := by rw [ho2]; exact htl1
  have HU1 : Hid (Gu w W1 ob (.slice ao xs.length cap) xs p1 o1) := HG1
  clear HG1
  go_wp2_with fail
  go_at_call 49
  refine hc1.mono ?_
  rintro e w2 ⟨rfl, g2, k2⟩
  have HN1 := HU1.out.next k2 g2
  obtain ⟨⟨cc1, dc1⟩, fc1⟩ := HN1.cell (i := 71) (by rw [objL_len hcl1 htl1]; decide)
  have HZ1 : Hid (Gu w (w2.setCell ⟨ob, 71, none⟩ (.int .i64 x1)) ob (.slice ao xs.length cap) xs p2 o2) := HN1.put (by rw [ho2, show 71 = 39 + 32 from rfl, set_tag o1 hcl1, show 32 = 32 + 0 from rfl, set_tagL o1.tag htl1]; rfl)
  clear hc1 g2 k2 HN1 HU1 hx1 hp2 ho2
  go_upto_region 27 with fail
  have HG2 := HZ1.out
  clear HZ1 dc1 fc1
  generalize w2.setCell ⟨ob, 71, none⟩ (.int .i64 x1) = W2 at *
  have hc2 := gtext_any HG2.gat
  obtain ⟨x2, hx2⟩ : ∃ x : List Int, x = txtG xs p2 := ⟨_, rfl⟩
  obtain ⟨p3, hp3⟩ : ∃ p : Nat, p = txtE xs p2 := ⟨_, rfl⟩
  rw [← hx2, ← hp3] at hc2
  have HX2 : Hid (x2 = txtG xs p2) := hx2
  have HP3 : Hid (p3 = txtE xs p2) := hp3
  obtain ⟨o3, ho3⟩ : ∃ o : ObjL, o = { o2 with tag := { o2.tag with name := x2 } } := ⟨_, rfl⟩
  have HO3 : Hid (o3 = { o2 with tag := { o2.tag with name := x2 } }) := ho3
  have hcl3 : o3.com.tree.length = 32 := by rw [ho3]; exact hcl2
  have htl3 : o3.tag.target.length = 32 := by rw [ho3]; exact htl2
  have HU2 : Hid (Gu w W2 ob (.slice ao xs.length cap) xs p2 o2) := HG2
  clear HG2
  go_wp2_with fail
  go_at_call 51
  refine hc2.mono ?_
  rintro e w3 ⟨rfl, g3, k3⟩
  have HN2 := HU2.out.next k3 g3
  obtain ⟨⟨cc2, dc2⟩, fc2⟩ := HN2.cell (i := 72) (by rw [objL_len hcl2 htl2]; decide)
  have HZ2 : Hid (Gu w (w3.setCell ⟨ob, 72, none⟩ (.string (strOfNums x2))) ob (.slice ao xs.length cap) xs p3 o3) := HN2.put (by rw [ho3, show 72 = 39 + 33 from rfl, set_tag o2 hcl2, show 33 = 32 + 1 from rfl, set_tagL o2.tag htl2]; rfl)
  clear hc2 g3 k3 HN2 HU2 hx2 hp3 ho3
  go_upto_region 28 with fail
  have HG3 := HZ2.out
  clear HZ2 dc2 fc2
  generalize w3.setCell ⟨ob, 72, none⟩ (.string (strOfNums x2)) = W3 at *
  have hc3 := gtext_any HG3.gat
  obtain ⟨x3, hx3⟩ : ∃ x : List Int, x = txtG xs p3 := ⟨_, rfl⟩
  obtain ⟨p4, hp4⟩ : ∃ p : Nat, p = txtE xs p3 := ⟨_, rfl⟩
  rw [← hx3, ← hp4] at hc3
  have HX3 : Hid (x3 = txtG xs p3) := hx3
  have HP4 : Hid (p4 = txtE xs p3) := hp4
  obtain ⟨o4, ho4⟩ : ∃ o : ObjL, o = { o3 with tag := { o3.tag with who := x3 } } := ⟨_, rfl⟩
  have HO4 : Hid (o4 = { o3 with tag := { o3.tag with who := x3 } }) := ho4
  have hcl4 : o4.com.tree.length = 32 := by rw [ho4]; exact hcl3
  have htl4 : o4.tag.target.length = 32 := by rw [ho4]; exact htl3
  have HU3 : Hid (Gu w W3 ob (.slice ao xs.length cap) xs p3 o3) := HG3
  clear HG3
  go_wp2_with fail
  go_at_call 51
  refine hc3.mono ?_
  rintro e w4 ⟨rfl, g4, k4⟩
  have HN3 := HU3.out.next k4 g4
  obtain ⟨⟨cc3, dc3⟩, fc3⟩ := HN3.cell (i := 73) (by rw [objL_len hcl3 htl3]; decide)
  have HZ3 : Hid (Gu w (w4.setCell ⟨ob, 73, none⟩ (.string (strOfNums x3))) ob (.slice ao xs.length cap) xs p4 o4) := HN3.put (by rw [ho4, show 73 = 39 + 34 from rfl, set_tag o3 hcl3, show 34 = 32 + 2 from rfl, set_tagL o3.tag htl3]; rfl)
  clear hc3 g4 k4 HN3 HU3 hx3 hp4 ho4
  go_upto_region 29 with fail
  have HG4 := HZ3.out
  clear HZ3 dc3 fc3
  generalize w4.setCell ⟨ob, 73, none⟩ (.string (strOfNums x3)) = W4 at *
  have hc4 := gtime_any HG4.gat
  obtain ⟨x4, hx4⟩ : ∃ x : Int, x = be (takeX xs p4 8) := ⟨_, rfl⟩
  obtain ⟨p5, hp5⟩ : ∃ p : Nat, p = plus xs p4 8 := ⟨_, rfl⟩
  rw [← hx4, ← hp5] at hc4
  have HX4 : Hid (x4 = be (takeX xs p4 8)) := hx4
  have HP5 : Hid (p5 = plus xs p4 8) := hp5
  obtain ⟨o5, ho5⟩ : ∃ o : ObjL, o = { o4 with tag := { o4.tag with time := x4 } } := ⟨_, rfl⟩
  have HO5 : Hid (o5 = { o4 with tag := { o4.tag with time := x4 } }) := ho5
  have hcl5 : o5.com.tree.length = 32 := by rw [ho5]; exact hcl4
  have htl5 : o5.tag.target.length = 32 := by rw [ho5]; exact htl4
  have HU4 : Hid (Gu w W4 ob (.slice ao xs.length cap) xs p4 o4) := HG4
  clear HG4
  go_wp2_with fail
  go_at_call 53
  refine hc4.mono ?_
  rintro e w5 ⟨rfl, g5, k5⟩
  have HN4 := HU4.out.next k5 g5
  obtain ⟨⟨cc4, dc4⟩, fc4⟩ := HN4.cell (i := 74) (by rw [objL_len hcl4 htl4]; decide)
  have HZ4 : Hid (Gu w (w5.setCell ⟨ob, 74, none⟩ (.int .u64 x4)) ob (.slice ao xs.length cap) xs p5 o5) := HN4.put (by rw [ho5, show 74 = 39 + 35 from rfl, set_tag o4 hcl4, show 35 = 32 + 3 from rfl, set_tagL o4.tag htl4]; rfl)
  clear hc4 g5 k5 HN4 HU4 hx4 hp5 ho5
  go_upto_region 30 with fail
  have HG5 := HZ4.out
  clear HZ4 dc4 fc4
  generalize w5.setCell ⟨ob, 74, none⟩ (.int .u64 x4) = W5 at *
  have hc5 := gtext_any HG5.gat
  obtain ⟨x5, hx5⟩ : ∃ x : List Int, x = txtG xs p5 := ⟨_, rfl⟩
  obtain ⟨p6, hp6⟩ : ∃ p : Nat, p = txtE xs p5 := ⟨_, rfl⟩
  rw [← hx5, ← hp6] at hc5
  have HX5 : Hid (x5 = txtG xs p5) := hx5
  have HP6 : Hid (p6 = txtE xs p5) := hp6
  obtain ⟨o6, ho6⟩ : ∃ o : ObjL, o = { o5 with tag := { o5.tag with text := x5 } } := ⟨_, rfl⟩
  have HO6 : Hid (o6 = { o5 with tag := { o5.tag with text := x5 } }) := ho6
  have hcl6 : o6.com.tree.length = 32 := by rw [ho6]; exact hcl5
  have htl6 : o6.tag.target.length = 32 := by rw [ho6]; exact htl5
  have HU5 : Hid (Gu w W5 ob (.slice ao xs.length cap) xs p5 o5) := HG5
  clear HG5
  go_wp2_with fail
  go_at_call 51
  refine hc5.mono ?_
  rintro e w6 ⟨rfl, g6, k6⟩
  have HN5 := HU5.out.next k6 g6
  obtain ⟨⟨cc5, dc5⟩, fc5⟩ := HN5.cell (i := 75) (by rw [objL_len hcl5 htl5]; decide)
  have HZ5 : Hid (Gu w (w6.setCell ⟨ob, 75, none⟩ (.string (strOfNums x5))) ob (.slice ao xs.length cap) xs p6 o6) := HN5.put (by rw [ho6, show 75 = 39 + 36 from rfl, set_tag o5 hcl5, show 36 = 32 + 4 from rfl, set_tagL o5.tag htl5]; rfl)
  clear hc5 g6 k6 HN5 HU5 hx5 hp6 ho6
  go_upto_region 31 with fail
  have HG6 := HZ5.out
  clear HZ5 dc5 fc5
  generalize w6.setCell ⟨ob, 75, none⟩ (.string (strOfNums x5)) = W6 at *
  have HE : Hid (o6 = { kindO 4 with tag := gTag xs }) := by
    show _ = _
    have e0 := HP0.out
    subst e0
    rw [HO6.out, HO5.out, HO4.out, HO3.out, HO2.out, HO1.out, HO0.out, HX5.out, HX4.out, HX3.out, HX2.out, HX1.out, HX0.out, HP5.out, HP4.out, HP3.out, HP2.out, HP1.out]
    rfl
  have hone : o6.row.toArray.all (·.oneCell') = true := by rw [HE.out]; exact objV_one rfl rfl rfl
  have hoz : o6.row.toArray.size = 76 := by rw [List.size_toArray]; exact objL_len hcl6 htl6
  have hos : (Tryd.prog.info? 33).map (·.size) = some o6.row.toArray.size := by rw [hoz]; kernel_rfl
  have hozz : Tryd.zeroCells33.size = o6.row.toArray.size := by rw [hoz]; kernel_rfl
  have HOB : Hid (W6.heap[ob]? = some (.cells o6.row.toArray 33 (0, 0))) := HG6.blk
  have HRS : Hid (W6.heap[w.heap.size]? = some (.cells Tryd.zeroCells33 33 (0, 0))) := HG6.res
  have HFin : Hid (Kept [] w (W6.setRow w.heap.size o6.row.toArray)) := kept_setRow HG6.kp (Nat.le_refl _) _
  clear HG6
  generalize hpr : o6.row.toArray = pr at *
  have HPr : Hid (o6.row.toArray = pr) := hpr
  clear hpr
  go_wp2_with (first
    | (refine wpList_load_row (by rfl) 33 (.tmp 4) (by rfl) ob (by rfl) 33 pr (0, 0) _ HOB.out hun rfl hos ?_)
    | (refine wpList_store_row (by rfl) 33 (.tmp 2) (.tmp 126) (by rfl) w.heap.size pr (by rfl) (by rfl) 33 _ HRS.out hos hozz hone ?_))
  refine bodyPost_ret (v := .agg pr) ?_ rfl ?_
  · rw [results_cell1 rfl]
    exact run_loadVar_row (P := Tryd.prog) _ w.heap.size 33 33 pr (0, 0) _ (setRow_heap _ _ _ _ _ _ HRS.out) hun rfl hos
  · exact ⟨by rw [← HE.out, HPr.out], HFin.out⟩
end Go.Proofs.YtnfbiemmdaenpaaDoor
