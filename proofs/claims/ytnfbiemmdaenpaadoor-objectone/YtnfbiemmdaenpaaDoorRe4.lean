/-
  WALK: satchelref3.commit: the fault of a commit, for every commit.
  WALK: satchelref3.lay of a tag: the tag's encoding.
-/
import Derived.Test.YtnfbiemmdaenpaaDoorRe1
import Derived.Test.YtnfbiemmdaenpaaDoorCom1
import Derived.Test.YtnfbiemmdaenpaaDoorRe0
import Derived.Test.YtnfbiemmdaenpaaDoorRead0
import Derived.Test.YtnfbiemmdaenpaaDoorTag2
namespace Go.Proofs.YtnfbiemmdaenpaaDoor
open Go.RowKit

set_option maxRecDepth 100000 in
set_option maxHeartbeats 4000000 in
theorem R3com_any (c : ComL) (pv : Value) (w : World) (hp : IdsAt w pv c.parents) (hg : c.Good) :
    Calls Tryd.prog 34 #[.agg (c.row pv).toArray] w fun e w' => e = .returned (.int .i64 (faultC c)) ∧ Kept [] w w' := by
  have HK0 : Hid (Kept [] w (w.alloc (.cells (c.row pv).toArray 29))) := (Kept.refl _ _).alloc _
  have HB : Hid ((w.alloc (.cells (c.row pv).toArray 29)).heap[w.heap.size]? = some (.cells (c.row pv).toArray 29 (0, 0))) := heap_alloc_new w _
  have HTC : Hid (∀ W : World, W.heap[w.heap.size]? = some (.cells (c.row pv).toArray 29 (0, 0)) → W.cell? ⟨w.heap.size, 32, none⟩ = some pv ∧ W.cell? ⟨w.heap.size, 33, none⟩ = some (.string (strOfNums c.who)) ∧ W.cell? ⟨w.heap.size, 34, none⟩ = some (.int .u64 c.time) ∧ W.cell? ⟨w.heap.size, 35, none⟩ = some (.string (strOfNums c.text))) := fun W hW => (com_cells hg.tree.1 hW).2
  have HSG : Hid (∀ W, Calls Tryd.prog 36 #[.string (strOfNums c.who), .int .u64 c.time, .string (strOfNums c.text)] W fun e w' => e = .returned (.bool (signB c.who c.time c.text)) ∧ w' = W) := fun W => R3told_any c.who c.time c.text W hg.who
  have HV : Hid (∀ W, Kept [] w W → IdsAt W pv c.parents) := fun W k => hp.keep k (fun _ _ _ => by simp)
  have HG : Hid (∀ o, o ∈ c.parents → GoodID o) := hg.parents
  have hun := Tryd.underlying25
  obtain ⟨ao, cap, rfl, hcap, _, hlen, _⟩ := hp
  obtain ⟨c1, c2, c3, c4⟩ := HTC.out _ HB.out
  obtain ⟨rv, hrv⟩ : ∃ rv : Int, rv = faultC c := ⟨_, rfl⟩
  rw [← hrv]
  obtain ⟨sb, hsb⟩ : ∃ sb : Bool, sb = signB c.who c.time c.text := ⟨_, rfl⟩
  have HRV : Hid (rv = if 8 < c.parents.length then 35 else if dupB c.parents = true then 36 else if sb = false then 36 else 0) := by rw [hsb]; exact hrv
  rw [← hsb] at HSG
  clear hrv hsb hg
  generalize (c.row (.slice ao c.parents.length cap)).toArray = tr at *
  generalize strOfNums c.who = sw at *
  generalize strOfNums c.text = st at *
  generalize c.time = tm at *
  generalize c.parents = ids at *
  by_cases hm : 8 < ids.length
  · have hd : decide (8 < (ids.length : Int)) = true := decide_eq_true (by omega)
    have HR : Hid (rv = 35) := by have h := HRV.out; rw [if_pos hm] at h; exact h
    go_enter Tryd.func34, Tryd.ntmps34
    go_wp2
    go_ret
    exact ⟨by rw [HR.out]; rfl, HK0.out⟩
  · have hd8 : decide (8 < (ids.length : Int)) = false := decide_eq_false (by omega)
    have HR : Hid (rv = if dupB ids = true then 36 else if sb = false then 36 else 0) := by have h := HRV.out; rw [if_neg hm] at h; exact h
    clear HRV
    go_enter Tryd.func34, Tryd.ntmps34
    go_wp2
    go_loopw [3, 4] (fun s3 _ wr => ∃ k : Nat, k ≤ ids.length ∧ s3 = .int .i64 k ∧ Hid (∀ (i : Nat), i < k → decide ((ids[i]?.getD []) ∈ ids.take i) = false) ∧ Hid (wr.heap[w.heap.size]? = some (.cells tr 29 (0, 0))) ∧ Hid (Kept [] w wr)) (fun s3 _ _ => ids.length - (intOf s3).toNat)
    case atStart => exact ⟨0, Nat.zero_le _, rfl, fun i h => absurd h (by omega), HB, HK0⟩
    case round =>
      clear c1 c2 c3 c4
      obtain ⟨k, hk, rfl, HN, HBx, HK⟩ := hrel
      obtain ⟨x1, x2, x3, x4⟩ := HTC.out wr HBx.out
      have hbw := lt_of_block HBx.out
      by_cases hlt : k < ids.length
      · obtain ⟨o, ho⟩ : ∃ o, ids[k]? = some o := ⟨_, List.getElem?_eq_getElem hlt⟩
        have hgo := HG.out o (List.mem_of_getElem? ho)
        have HOD : Hid (ids[k]?.getD [] = o) := by rw [ho]; exact rfl
        have HO : Hid (ids[k]? = some o) := ho
        have HGO : Hid (GoodID o) := hgo
        have t1 : decide ((k : Int) < ids.length) = true := decide_eq_true (by omega)
        clear ho hgo
        go_wp2
        go_loopw [4] (fun s4 wq => ∃ j : Nat, j ≤ k ∧ s4 = .int .i64 j ∧ Hid (∀ i, i < j → ids[i]? ≠ some o) ∧ Hid (wq.heap[w.heap.size]? = some (.cells tr 29 (0, 0))) ∧ Hid (Kept [] w wq)) (fun s4 _ => k - (intOf s4).toNat)
        case atStart => exact ⟨0, Nat.zero_le _, rfl, fun i h => absurd h (by omega), HBx, HK⟩
        case round =>
          clear x1 x2 x3 x4 HBx HK hbw
          obtain ⟨j, hj, rfl, HM, HBx, HK⟩ := hrel
          obtain ⟨x1, x2, x3, x4⟩ := HTC.out wr HBx.out
          have hbw := lt_of_block HBx.out
          by_cases hjk : j < k
          · have t2 : decide ((j : Int) < k) = true := decide_eq_true (by omega)
            have hjl : j < ids.length := by omega
            obtain ⟨p, hp⟩ : ∃ p, ids[j]? = some p := ⟨_, List.getElem?_eq_getElem hjl⟩
            have hgp := HG.out p (List.mem_of_getElem? hp)
            obtain ⟨ao', cap', he, _, _, _, hc⟩ := HV.out wr HK.out
            injection he with e1 e2 e3
            subst e1 e3
            obtain ⟨b, off, rfl, hh⟩ := hc (by rintro rfl; simp at hlt)
            have HRO : Hid (∀ W, Kept [] wr W → W.rangeAt b (off + k * 32) (o.map (Value.int .u8))) := fun W hW => range_kept (hh k o HO.out) hW (by simp)
            have HRP : Hid (∀ W, Kept [] wr W → W.rangeAt b (off + j * 32) (p.map (Value.int .u8))) := fun W hW => range_kept (hh j p hp) hW (by simp)
            have HC1 : Hid (∀ W, Kept [] wr W → W.cell? ⟨w.heap.size, 32, none⟩ = some (.slice (some ⟨b, off, none⟩) ids.length cap)) := fun W hW => hW.cell x1 (by simp)
            have hso : (Tryd.prog.info? 25).map (·.size) = some (o.map (Value.int .u8)).length := by rw [List.length_map, HGO.out.1]; exact Tryd.infoID
            have hsp : (Tryd.prog.info? 25).map (·.size) = some (p.map (Value.int .u8)).length := by rw [List.length_map, hgp.1]; exact Tryd.infoID
            have heqf : ∀ W, (Op.equalIn 10000 25 (.agg (o.map (Value.int .u8)).toArray) (.agg (p.map (Value.int .u8)).toArray)).run Tryd.prog W = .ok (decide (o = p)) W := fun W => idEq o p W HGO.out.1 hgp.1
            have HP : Hid (ids[j]? = some p) := hp
            clear hp hgp hh hc
            go_wp2_with fail
            refine region_quiet (Kept [] wr) (by kernel_rfl) (by kernel_rfl) (Kept.refl [] _).drew ?_
            refine quiet_val (by rfl) (.pointer (some ⟨w.heap.size, 32, none⟩)) (fun W => by go_simp) ?_
            simp only [Act.put, List.setIfInBounds_toArray, List.set_cons_zero, List.set_cons_succ]
            refine valC (by rfl) (.slice (some ⟨b, off, none⟩) ids.length cap) (fun W hW => by have hcc := HC1.out W hW; go_simp) ?_
            simp only [Act.put, List.setIfInBounds_toArray, List.set_cons_zero, List.set_cons_succ]
            refine quiet_move (by rfl) (.tmp 3) rfl (.int .i64 k) rfl ?_
            simp only [Act.put, List.setIfInBounds_toArray, List.set_cons_zero, List.set_cons_succ]
            refine quiet_val (by rfl) (.pointer (some ⟨b, off + k * 32, none⟩)) (fun W => by go_simp) ?_
            simp only [Act.put, List.setIfInBounds_toArray, List.set_cons_zero, List.set_cons_succ]
            refine quiet_row (by rfl) _ _ rfl b (off + k * 32) rfl (o.map (Value.int .u8)) _ HRO.out hun rfl hso ?_
            simp only [Act.put, List.setIfInBounds_toArray, List.set_cons_zero, List.set_cons_succ]
            refine quiet_val (by rfl) (.pointer (some ⟨w.heap.size, 32, none⟩)) (fun W => by go_simp) ?_
            simp only [Act.put, List.setIfInBounds_toArray, List.set_cons_zero, List.set_cons_succ]
            refine valC (by rfl) (.slice (some ⟨b, off, none⟩) ids.length cap) (fun W hW => by have hcc := HC1.out W hW; go_simp) ?_
            simp only [Act.put, List.setIfInBounds_toArray, List.set_cons_zero, List.set_cons_succ]
            refine quiet_move (by rfl) (.tmp 4) rfl (.int .i64 j) rfl ?_
            simp only [Act.put, List.setIfInBounds_toArray, List.set_cons_zero, List.set_cons_succ]
            refine quiet_val (by rfl) (.pointer (some ⟨b, off + j * 32, none⟩)) (fun W => by go_simp) ?_
            simp only [Act.put, List.setIfInBounds_toArray, List.set_cons_zero, List.set_cons_succ]
            refine quiet_row (by rfl) _ _ rfl b (off + j * 32) rfl (p.map (Value.int .u8)) _ HRP.out hun rfl hsp ?_
            simp only [Act.put, List.setIfInBounds_toArray, List.set_cons_zero, List.set_cons_succ]
            refine quiet_eql (by rfl) (.tmp 25) (.tmp 30) _ rfl _ _ rfl rfl (decide (o = p)) heqf ?_
            simp only [Act.put, List.setIfInBounds_toArray, List.set_cons_zero, List.set_cons_succ]
            refine wpQuiet_nil fun w3 hk3 => ?_
            have HB3 : Hid (w3.heap[w.heap.size]? = some (.cells tr 29 (0, 0))) := hk3.heap HBx.out (by simp)
            have HK3 : Hid (Kept [] w w3) := HK.out.then hk3
            clear hk3 HC1 HRO HRP x1 x2 x3 x4 heqf
            by_cases heq : o = p
            · have hd : decide (o = p) = true := decide_eq_true heq
              rw [hd]
              have HD : Hid (rv = 36) := by
                have h := HR.out
                have hdup : dupB ids = true := by
                  unfold dupB
                  rw [List.any_eq_true]
                  refine ⟨k, List.mem_range.2 hlt, decide_eq_true ?_⟩
                  rw [HOD.out]
                  have h1 : (ids.take k)[j]? = some o := by rw [List.getElem?_take_of_lt hjk, HP.out, heq]
                  exact List.mem_of_getElem? h1
                rw [if_pos hdup] at h
                exact h
              clear heq hd
              go_wp2
              go_ret
              exact ⟨by rw [HD.out]; rfl, HK3.out⟩
            · have hd : decide (o = p) = false := decide_eq_false heq
              rw [hd]
              have HM' : Hid (∀ i, i < j + 1 → ids[i]? ≠ some o) := fun i hi e => by
                by_cases hij : i = j
                · subst hij
                  rw [HP.out] at e
                  exact heq (Option.some.inj e).symm
                · exact HM.out i (by omega) e
              clear heq hd
              go_wp2
              go_roundw
              case rel => exact ⟨j + 1, by omega, by go_num, HM', HB3, HK3⟩
              case measure => simp [intOf]; omega
          · have t2 : decide ((j : Int) < k) = false := decide_eq_false (by omega)
            obtain rfl : j = k := by omega
            have HN' : Hid (∀ (i : Nat), i < j + 1 → decide ((ids[i]?.getD []) ∈ ids.take i) = false) := fun i hi => by
              by_cases hij : i = j
              · subst hij
                rw [HOD.out]
                refine decide_eq_false fun hin => ?_
                obtain ⟨x, hx, e⟩ := List.getElem_of_mem hin
                have hxl : x < i := by have := hx; rw [List.length_take] at this; omega
                refine HM.out x hxl ?_
                rw [← List.getElem?_take_of_lt hxl, List.getElem?_eq_getElem hx, e]
              · exact HN.out i (by omega)
            clear HM HN
            go_wp2
            go_roundw
            case rel => exact ⟨j + 1, by omega, by go_num, HN', HBx, HK⟩
            case measure => simp [intOf]; omega
      · obtain rfl : k = ids.length := by omega
        have t1 : decide (((ids.length : Nat) : Int) < ids.length) = false := decide_eq_false (by omega)
        have HD : Hid (rv = if sb = false then 36 else 0) := by
          have h := HR.out
          have hdup : dupB ids = false := by
            unfold dupB
            rw [List.any_eq_false]
            intro i hi
            rw [HN.out i (List.mem_range.1 hi)]
            simp
          rw [hdup, if_neg (by decide)] at h
          exact h
        clear HN
        cases sb
        all_goals go_wp2_with (go_at_call 36; refine (HSG.out _).mono ?_; rintro e w2 ⟨rfl, hw2⟩; subst w2)
        all_goals go_ret
        all_goals exact ⟨by rw [HD.out]; rfl, HK.out⟩
end Go.Proofs.YtnfbiemmdaenpaaDoor

namespace Go.Proofs.YtnfbiemmdaenpaaDoor
open Go.RowKit

theorem fixedB1 (n : Int) (h0 : 0 ≤ n) (h1 : n ≤ 255) : fixedB n 1 = [n] := by
  simp [fixedB]
  omega
/-- lay between its steps: the object's box, and the list so far. -/
structure LSt (w wr : World) (row : Array Value) (u : Value) (zs : List Int) : Prop where
  box : wr.heap[w.heap.size]? = some (.cells row 33 (0, 0))
  own : OwnB wr (w.heap.size + 1) u zs
  kept : Kept [] w wr
section
variable {w wr w' : World} {row : Array Value} {u u' : Value} {zs us : List Int}
theorem LSt.big (L : LSt w wr row u zs) : w.heap.size + 1 ≤ wr.heap.size := lt_of_block L.box
theorem LSt.on (L : LSt w wr row u zs) (k : Kept [] wr w') : LSt w w' row u zs := ⟨k.heap L.box (by simp), L.own.kept k (by simp), L.kept.then k⟩
theorem LSt.low (L : LSt w wr row u zs) : ∀ x, u.ownBlock = some x → w.heap.size + 1 ≤ x := fun x hx => (World.ownsRow.lt L.own x hx).1
theorem LSt.app (L : LSt w wr row u zs) (h : Appended wr w' (w.heap.size + 1) u u' us) : LSt w w' row u' us := by
  have k : Kept u.ownBlock.toList wr w' := h.keep wr _ (Kept.refl _ _) fun x hx => Or.inl (by simp [hx])
  refine ⟨k.heap L.box fun e => ?_, h.own, h.keep w [] L.kept fun x hx => Or.inr ?_⟩
  · have := L.low _ (by simpa using e)
    omega
  · have := L.low x hx
    omega
theorem LSt.laid (L : LSt w wr row u zs) (h : Laid wr w' (w.heap.size + 1) u u' us) : LSt w w' row u' us := by
  have k : Kept u.ownBlock.toList wr w' := h.keep wr _ (Kept.refl _ _) fun x hx => Or.inl (by simp [hx])
  refine ⟨k.heap L.box fun e => ?_, h.own, h.keep w [] L.kept fun x hx => Or.inr ?_⟩
  · have := L.low _ (by simpa using e)
    omega
  · have := L.low x hx
    omega
end
theorem otag_cells {w : World} {b : Nat} {o : ObjL} {ty : TypeId} {fr : Nat × Nat} (hl : o.com.tree.length = 32) (ht : o.tag.target.length = 32) (h : w.heap[b]? = some (.cells o.row.toArray ty fr)) :
    w.cell? ⟨b, 0, none⟩ = some (.int .i64 o.kind) ∧ w.rangeAt b 39 (o.tag.target.map (Value.int .u8)) ∧ w.cell? ⟨b, 71, none⟩ = some (.int .i64 o.tag.kind) ∧ w.cell? ⟨b, 72, none⟩ = some (.string (strOfNums o.tag.name)) ∧ w.cell? ⟨b, 73, none⟩ = some (.string (strOfNums o.tag.who)) ∧
      w.cell? ⟨b, 74, none⟩ = some (.int .u64 o.tag.time) ∧ w.cell? ⟨b, 75, none⟩ = some (.string (strOfNums o.tag.text)) := by
  obtain ⟨c0, _, _, _, hr⟩ := obj_cells hl h
  have hlm : (o.tag.target.map (Value.int .u8)).length = 32 := by rw [List.length_map, ht]
  have key : ∀ j v, [Value.int .i64 o.tag.kind, .string (strOfNums o.tag.name), .string (strOfNums o.tag.who), .int .u64 o.tag.time, .string (strOfNums o.tag.text)][j]? = some v → w.cell? ⟨b, 39 + (32 + j), none⟩ = some v := fun j v hj => hr (32 + j) v (by
    unfold TagL.row
    rw [List.getElem?_append_right (by omega), hlm, Nat.add_sub_cancel_left]
    exact hj)
  refine ⟨c0, fun j v hj => hr j v ?_, key 0 _ rfl, key 1 _ rfl, key 2 _ rfl, key 3 _ rfl, key 4 _ rfl⟩
  unfold TagL.row
  rw [List.getElem?_append_left (List.getElem?_eq_some_iff.1 hj).1]
  exact hj

set_option maxRecDepth 100000 in
set_option maxHeartbeats 4000000 in
theorem R3layTag_any (o : ObjL) (w : World) (h4 : o.kind = 4) (hc : o.com.tree.length = 32) (hg : o.tag.Good) (hk0 : 0 ≤ o.tag.kind) (hk1 : o.tag.kind ≤ 255) (hz : o.tag.name.length + o.tag.who.length + o.tag.text.length ≤ 100000000) :
    Calls Tryd.prog 25 #[.agg o.row.toArray] w fun e w' => ∃ v, e = .returned v ∧ OwnB w' w.heap.size v (encG o.tag) ∧ Kept [] w w' := by
  have HTC : Hid (∀ W : World, W.heap[w.heap.size]? = some (.cells o.row.toArray 33 (0, 0)) → W.cell? ⟨w.heap.size, 0, none⟩ = some (.int .i64 4) ∧ W.rangeAt w.heap.size 39 (o.tag.target.map (Value.int .u8)) ∧ W.cell? ⟨w.heap.size, 71, none⟩ = some (.int .i64 o.tag.kind) ∧ W.cell? ⟨w.heap.size, 72, none⟩ = some (.string (strOfNums o.tag.name)) ∧ W.cell? ⟨w.heap.size, 73, none⟩ = some (.string (strOfNums o.tag.who)) ∧
      W.cell? ⟨w.heap.size, 74, none⟩ = some (.int .u64 o.tag.time) ∧ W.cell? ⟨w.heap.size, 75, none⟩ = some (.string (strOfNums o.tag.text))) := fun W hW => by rw [← h4]; exact otag_cells hc hg.target.1 hW
  have HE : Hid (encG o.tag = [4] ++ o.tag.target ++ [o.tag.kind] ++ (varB o.tag.name.length ++ o.tag.name) ++ (varB o.tag.who.length ++ o.tag.who) ++ fixedB o.tag.time 8 ++ (varB o.tag.text.length ++ o.tag.text)) := by
    show _ = _
    unfold encG
    rw [fixedB1 4 (by decide) (by decide), fixedB1 _ hk0 hk1]
    simp only [List.append_assoc]
  have HB0 : Hid ((w.alloc (.cells o.row.toArray 33)).heap[w.heap.size]? = some (.cells o.row.toArray 33 (0, 0))) := heap_alloc_new w _
  generalize o.row.toArray = row at *
  generalize o.tag = t at *
  obtain ⟨tg, kd, nm, wh, tm, tx⟩ := t
  obtain ⟨g1, _, _, g4, g5, g6, g7, g8⟩ := hg
  dsimp only at *
  have hun := Tryd.underlying25
  have hso : (Tryd.prog.info? 25).map (·.size) = some (tg.map (Value.int .u8)).length := by rw [List.length_map, g1.1]; exact Tryd.infoID
  have l1 := g1.1
  have v1 := varB_len (nm.length : Int) (by omega) (by omega)
  have v2 := varB_len (wh.length : Int) (by omega) (by omega)
  have v3 := varB_len (tx.length : Int) (by omega) (by omega)
  have v4 := fixedB_len tm 8
  have r8 : IntKind.u8.wrap kd = kd := by rw [IntKind.wrap_u8']; omega
  have hnm := fun W => R3text_any nm g4.1 (by omega) W
  have hwh := fun W => R3text_any wh g5.1 (by omega) W
  have htx := fun W => R3text_any tx g8.1 (by omega) W
  have htm := fun W => R3big_any tm W g6 g7
  have HG1 : Hid (GoodID tg) := g1
  generalize strOfNums nm = snm at *
  generalize strOfNums wh = swh at *
  generalize strOfNums tx = stx at *
  clear h4 hc g1 g4 g5 g6 g7 g8
  have HL0 : Hid (LSt w ((w.alloc (.cells row 33)).alloc (.cells #[.int .u8 4] 5)) row (.slice (some ⟨w.heap.size + 1, 0, none⟩) 1 1) [4]) := by
    have h := OwnB.one (w := w.alloc (.cells row 33)) 4
    rw [World.size_alloc] at h
    exact ⟨((Kept.refl [] _).alloc _).heap HB0.out (by simp), h, ((Kept.refl [] w).alloc _).alloc _⟩
  obtain ⟨y0, y1, y2, y3, y4, y5, y6⟩ := HTC.out _ HB0.out
  obtain ⟨x0, x1, x2, x3, x4, x5, x6⟩ := HTC.out _ HL0.out.box
  have z0 := HL0.out.big
  go_enter Tryd.func25, Tryd.ntmps25
  go_wp2_with (refine wpList_load_mid (by rfl) 25 (.tmp 112) (by rfl) w.heap.size 39 (by rfl) (tg.map (Value.int .u8)) _ x1 hun rfl hso ?_)
  go_at_call 39
  refine (R3raw_any HL0.out.own z0 tg HG1.out (by simp)).mono ?_
  rintro e w1 ⟨u1, rfl, h1⟩
  have HL1 : Hid (LSt w w1 row u1 ([4] ++ tg)) := HL0.out.laid h1
  clear h1 HL0 x0 x1 x2 x3 x4 x5 x6 z0 y0 y1 y2 y3 y4 y5 y6
  obtain ⟨x0, x1, x2, x3, x4, x5, x6⟩ := HTC.out _ HL1.out.box
  have z1 := HL1.out.big
  have HL2 : Hid (LSt w (w1.alloc (.cells #[.int .u8 kd] 5)) row u1 ([4] ++ tg)) := HL1.out.on ((Kept.refl _ _).alloc _)
  go_wp2_with (at_builtin; refine wpList_append_bytes rfl (.tmp 115) (.tmp 120) rfl rfl HL2.out.own rfl (one_byte w1 kd) (by simp; omega) HL2.out.big ?_; intro u3 w3 ha
               have HL3 : Hid (LSt w w3 row u3 ([4] ++ tg ++ [kd])) := HL2.out.app ha
               obtain ⟨x0, x1, x2, x3, x4, x5, x6⟩ := HTC.out _ HL3.out.box
               have z3 := HL3.out.big
               clear ha)
  go_at_call 38
  refine (hnm _).mono ?_
  rintro e w4 ⟨v4, rfl, o4, k4⟩
  have HL4 : Hid (LSt w w4 row u3 ([4] ++ tg ++ [kd])) := HL3.out.on k4
  have HO4 : Hid (BytesAt w4 v4 ((varB nm.length ++ nm))) := o4.bytes
  clear o4 k4 x0 x1 x2 x3 x4 x5 x6 HL3 z3
  obtain ⟨x0, x1, x2, x3, x4, x5, x6⟩ := HTC.out _ HL4.out.box
  have z4 := HL4.out.big
  go_wp2_with (at_builtin; refine wpList_append_bytes rfl (.tmp 122) (.tmp 126) rfl rfl HL4.out.own rfl HO4.out (by simp; omega) z4 ?_; intro u5 w5 ha
               have HL5 : Hid (LSt w w5 row u5 ([4] ++ tg ++ [kd] ++ (varB nm.length ++ nm))) := HL4.out.app ha
               obtain ⟨x0, x1, x2, x3, x4, x5, x6⟩ := HTC.out _ HL5.out.box
               have z5 := HL5.out.big
               clear ha)
  go_at_call 38
  refine (hwh _).mono ?_
  rintro e w6 ⟨v6, rfl, o6, k6⟩
  have HL6 : Hid (LSt w w6 row u5 ([4] ++ tg ++ [kd] ++ (varB nm.length ++ nm))) := HL5.out.on k6
  have HO6 : Hid (BytesAt w6 v6 ((varB wh.length ++ wh))) := o6.bytes
  clear o6 k6 x0 x1 x2 x3 x4 x5 x6 HL5 z5
  obtain ⟨x0, x1, x2, x3, x4, x5, x6⟩ := HTC.out _ HL6.out.box
  have z6 := HL6.out.big
  go_wp2_with (at_builtin; refine wpList_append_bytes rfl (.tmp 128) (.tmp 132) rfl rfl HL6.out.own rfl HO6.out (by simp; omega) z6 ?_; intro u7 w7 ha
               have HL7 : Hid (LSt w w7 row u7 ([4] ++ tg ++ [kd] ++ (varB nm.length ++ nm) ++ (varB wh.length ++ wh))) := HL6.out.app ha
               obtain ⟨x0, x1, x2, x3, x4, x5, x6⟩ := HTC.out _ HL7.out.box
               have z7 := HL7.out.big
               clear ha)
  go_at_call 40
  refine (htm _).mono ?_
  rintro e w8 ⟨v8, rfl, o8, k8⟩
  have HL8 : Hid (LSt w w8 row u7 ([4] ++ tg ++ [kd] ++ (varB nm.length ++ nm) ++ (varB wh.length ++ wh))) := HL7.out.on k8
  have HO8 : Hid (BytesAt w8 v8 (fixedB tm 8)) := o8.bytes
  clear o8 k8 x0 x1 x2 x3 x4 x5 x6 HL7 z7
  obtain ⟨x0, x1, x2, x3, x4, x5, x6⟩ := HTC.out _ HL8.out.box
  have z8 := HL8.out.big
  go_wp2_with (at_builtin; refine wpList_append_bytes rfl (.tmp 134) (.tmp 138) rfl rfl HL8.out.own rfl HO8.out (by simp; omega) z8 ?_; intro u9 w9 ha
               have HL9 : Hid (LSt w w9 row u9 ([4] ++ tg ++ [kd] ++ (varB nm.length ++ nm) ++ (varB wh.length ++ wh) ++ fixedB tm 8)) := HL8.out.app ha
               obtain ⟨x0, x1, x2, x3, x4, x5, x6⟩ := HTC.out _ HL9.out.box
               have z9 := HL9.out.big
               clear ha)
  go_at_call 38
  refine (htx _).mono ?_
  rintro e w10 ⟨v10, rfl, o10, k10⟩
  have HL10 : Hid (LSt w w10 row u9 ([4] ++ tg ++ [kd] ++ (varB nm.length ++ nm) ++ (varB wh.length ++ wh) ++ fixedB tm 8)) := HL9.out.on k10
  have HO10 : Hid (BytesAt w10 v10 ((varB tx.length ++ tx))) := o10.bytes
  clear o10 k10 x0 x1 x2 x3 x4 x5 x6 HL9 z9
  obtain ⟨x0, x1, x2, x3, x4, x5, x6⟩ := HTC.out _ HL10.out.box
  have z10 := HL10.out.big
  go_wp2_with (at_builtin; refine wpList_append_bytes rfl (.tmp 140) (.tmp 144) rfl rfl HL10.out.own rfl HO10.out (by simp; omega) z10 ?_; intro u11 w11 ha
               have HL11 : Hid (LSt w w11 row u11 ([4] ++ tg ++ [kd] ++ (varB nm.length ++ nm) ++ (varB wh.length ++ wh) ++ fixedB tm 8 ++ (varB tx.length ++ tx))) := HL10.out.app ha
               obtain ⟨x0, x1, x2, x3, x4, x5, x6⟩ := HTC.out _ HL11.out.box
               have z11 := HL11.out.big
               clear ha)
  go_ret
  refine ⟨_, rfl, ?_, HL11.out.kept⟩
  rw [HE.out]
  exact HL11.out.own.mono (by omega)
end Go.Proofs.YtnfbiemmdaenpaaDoor
