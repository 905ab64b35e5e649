/-
  WALK: satchelref14.Merge: one stamp behind the other, each at its place.
-/
import Derived.Test.YtmjbaficdoehfaaMg9
namespace Go.Proofs.Ytmjbaficdoehfaa
open Go.RowKit Go.Sort

set_option maxRecDepth 100000 in
set_option maxHeartbeats 8000000 in
theorem Merge14_any (va vb : Value) (A B : List StampE) (w : World) (ha : StampsAt w va A) (hb : StampsAt w vb B) (hl : A.length + B.length ≤ 100000) :
    Calls Try.prog 9 #[va, vb] w fun e w' => ∃ v' M, e = .returned v' ∧ MergedTo (A ++ B) M ∧ StampOwn w' w.heap.size v' M ∧ Kept [] w w' := by
  have HA : Hid (StampsAt w va A) := ha
  have HB : Hid (∀ W, Kept [] w W → StampsAt W vb B) := fun W k => hb.kept k
  have has := Try.underlying32
  have HNL : Hid (w.ownsRow w.heap.size 32 34 (.slice none 0 0) 0 []) := StampOwn.nil w w.heap.size
  clear ha hb
  have hAL : (A ++ B).length ≤ 100000 := by rw [List.length_append]; exact hl
  obtain ⟨AL, hALe⟩ : ∃ AL, AL = A ++ B := ⟨_, rfl⟩
  rw [← hALe] at hAL ⊢
  have HALE : Hid (AL = A ++ B) := hALe
  clear hALe
  go_enter Try.func9, Try.ntmps9
  go_wp2_with (first
    | (refine wpList_append_rows (by rfl) (.tmp 10) (.tmp 11) 22 32 (.agg zeroS.row.toArray) 34 56 Try.underlying22 Try.zeroStampI (by show zeroS.row.toArray.size = 34; rw [List.size_toArray, zeroS.row_len]) (by decide) (by rfl) (by rfl) HNL.out (by rfl) HA.out srows_len srows_one (by rw [List.length_map]; omega) (by decide) (Nat.le_refl _) ?_
       intro v0 w0 h0 k0
       have H0 : Hid (w0.ownsRow w.heap.size 32 34 v0 A.length (A.map StampE.row).flatten ∧ Kept [] w w0) := (by rw [List.length_map, Nat.zero_add, List.nil_append] at h0; exact ⟨h0, k0⟩)
       clear h0 k0)
    | (refine wpList_append_rows (by rfl) (.tmp 13) (.tmp 14) 22 32 (.agg zeroS.row.toArray) 34 56 Try.underlying22 Try.zeroStampI (by show zeroS.row.toArray.size = 34; rw [List.size_toArray, zeroS.row_len]) (by decide) (by rfl) (by rfl) H0.out.1 (by rfl) (HB.out _ H0.out.2) srows_len srows_one (by rw [List.length_map]; omega) (by decide) H0.out.2.size ?_
       intro v1 w1 h1 k1
       have H1 : Hid (StampOwn w1 w.heap.size v1 AL ∧ Kept [] w w1) := (by
         refine ⟨?_, H0.out.2.trans k1 (fun y hy => Or.inr (World.ownsRow.lt H0.out.1 y (by simpa using hy)).1)⟩
         unfold StampOwn
         rw [HALE.out, List.length_append, List.map_append, List.flatten_append]
         rw [List.length_map] at h1
         exact h1)
       clear h1 k1))
  clear HA HB HNL H0 HALE
  obtain ⟨ao, cap, rfl⟩ := H1.out.1.is
  have HS1 : Hid (w.heap.size ≤ w1.heap.size) := H1.out.2.size
  have HAL : Hid (∀ W, Kept [] w1 W → StampsAt W (.slice ao AL.length cap) AL) := fun W k => (H1.out.1.at (by omega)).kept k
  have HW1 : Hid (Kept [] w w1) := H1.out.2
  clear H1
  go_loopw [6, 7] (fun s6 s7 wr => ∃ (i : Nat) (O : List StampE), i ≤ AL.length ∧ s7 = .int .i64 i ∧ Hid (MergedTo (AL.take i) O) ∧ O.length ≤ i ∧ Hid (StampOwn wr w1.heap.size s6 O) ∧ Hid (Kept [] w1 wr)) (fun _ s7 _ => AL.length - (intOf s7).toNat)
  case atStart => exact ⟨0, [], Nat.zero_le _, rfl, MergedTo.nil, Nat.le_refl _, StampOwn.nil w1 _, Kept.refl _ _⟩
  case round =>
    obtain ⟨i, O, hi, rfl, HM, hO, HOW, HKW⟩ := hrel
    obtain ⟨a6, c6, rfl⟩ := HOW.out.is
    by_cases hlt : i < AL.length
    · have i0 : (i : Int) < (AL.length : Int) := by omega
      have i1 : (0 : Int) ≤ (i : Int) := by omega
      have t0 : decide ((i : Int) < (AL.length : Int)) = true := decide_eq_true i0
      obtain ⟨x, hx⟩ : ∃ x, AL[i]? = some x := ⟨_, List.getElem?_eq_getElem hlt⟩
      obtain ⟨bA, offA, rfl, hrx⟩ : ∃ bA offA, ao = some ⟨bA, offA, none⟩ ∧ ∀ W, Kept [] w1 W → W.rangeAt bA (offA + i * 34) x.row := by
        obtain ⟨_, _, e, _, _, _, hc⟩ := HAL.out w1 (Kept.refl _ _)
        obtain ⟨b, off, hb, hh⟩ := hc (fun e => by rw [List.map_eq_nil_iff] at e; rw [e] at hlt; simp at hlt)
        injection e with e1 e2 e3
        refine ⟨b, off, e1.trans hb, fun W k => range_kept (hh i x.row (by rw [List.getElem?_map, hx]; rfl)) k (by simp)⟩
      have HRX0 : Hid (∀ W, Kept [] w1 W → W.rangeAt bA (offA + i * 34) x.row) := hrx
      have HTK0 : Hid (AL.take (i + 1) = AL.take i ++ [x]) := by
        have h : AL.take (i + 1) = AL.take i ++ [x] := by rw [List.take_add_one, hx]; rfl
        exact h
      have h6c : O.length ≤ c6 := by
        rcases HOW.out.form with ⟨h1, h2⟩ | ⟨_, _, _, h2, _, _, h3, _⟩
        · injection h2 with _ _ e3; rw [h1]; exact Nat.zero_le _
        · injection h2 with _ _ e3; rw [e3]; exact h3
      have hsx : (Try.prog.info? 32).map (·.size) = some x.row.length := by rw [x.row_len]; exact stampSize
      have hx34 : x.row.length = 34 := x.row_len
      have hx1 : ∀ u, u ∈ x.row → u.oneCell' = true := x.row_one
      clear hx hrx
      have HIN : Hid (StampOwn wr w1.heap.size (.slice a6 O.length c6) O ∧ Kept [] w1 wr) := ⟨HOW.out, HKW.out⟩
      clear HOW HKW
      go_wp2_with fail
      go_loopw [8] (fun s8 wr => ∃ k : Nat, k ≤ O.length ∧ s8 = .int .i64 k ∧ Hid ((∀ j y, j < k → O[j]? = some y → cmpB y.name x.name < 0) ∧ StampOwn wr w1.heap.size (.slice a6 O.length c6) O ∧ Kept [] w1 wr)) (fun s8 _ => O.length - (intOf s8).toNat)
      case atStart => exact ⟨0, Nat.zero_le _, rfl, fun j y h => absurd h (by omega), HIN.out.1, HIN.out.2⟩
      case round =>
        obtain ⟨k, hk, rfl, HI⟩ := hrel
        have FX0 : Hid (∀ W, Kept [] wr W → W.cell? ⟨bA, offA + i * 34, none⟩ = some (.string (strOfNums x.name)) ∧ W.rangeAt bA (offA + i * 34) x.row) := fun W q => by
          have h := HRX0.out W (HI.out.2.2.then q)
          exact ⟨by have h0 := h 0 _ rfl; rwa [Nat.add_zero] at h0, h⟩
        have FX : Hid (∀ W, Kept [] wr W → W.cell? ⟨bA, offA + i * 34, none⟩ = some (.string (strOfNums x.name)) ∧ W.rangeAt bA (offA + i * 34) x.row) := FX0
        clear FX0
        have k0 : (0 : Int) ≤ (k : Int) := by omega
        by_cases hko : k < O.length
        · have k1 : (k : Int) < (O.length : Int) := by omega
          have tk : decide ((k : Int) < (O.length : Int)) = true := decide_eq_true k1
          obtain ⟨y, hy⟩ : ∃ y, O[k]? = some y := ⟨_, List.getElem?_eq_getElem hko⟩
          obtain ⟨g6, rfl, hB6⟩ : ∃ g6, a6 = some ⟨g6, 0, none⟩ ∧ w1.heap.size ≤ g6 := by
            rcases HI.out.2.1.form with ⟨h1, _⟩ | ⟨g, c, cur, h2, h3, _⟩
            · rw [h1] at hko; simp at hko
            · injection h2 with e1 e2 e3
              exact ⟨g, e1, h3⟩
          have HB6 : Hid (w1.heap.size ≤ g6) := hB6
          have FY : Hid (∀ W, Kept [] wr W → W.cell? ⟨g6, k * 34, none⟩ = some (.string (strOfNums y.name)) ∧ W.rangeAt g6 (k * 34) y.row) := fun W q => by
            have h := StampOwn.range (HI.out.2.1.on q (by simp)) k y hy
            exact ⟨by have h0 := h 0 _ rfl; rwa [Nat.add_zero] at h0, h⟩
          have hls : Op.bytesLess (strOfNums y.name).toList (strOfNums x.name).toList = decide (cmpB y.name x.name < 0) := str_less y.on x.on
          have heq : ((strOfNums y.name).toList == (strOfNums x.name).toList) = decide (y.name = x.name) := str_lists y.on x.on
          have hsy : (Try.prog.info? 32).map (·.size) = some y.row.length := by rw [y.row_len]; exact stampSize
          have FB0 : Hid (∀ W, Kept [] wr W → Calls Try.prog 16 #[.agg x.row.toArray, .agg y.row.toArray] W fun e w' => e = .returned (.bool (decide (Beat y x))) ∧ Kept [] wr w') := fun W q => (Better_any x y W).mono fun e w' ⟨h1, h2⟩ => ⟨h1, q.then h2⟩
          have HY : Hid (O[k]? = some y) := hy
          have HXR : Hid (x.row = x.row) := rfl
          have hx34' : x.row.toArray.size = 34 := by rw [List.size_toArray, x.row_len]
          have hsx2 : (Try.prog.info? 32).map (·.size) = some x.row.toArray.size := by rw [List.size_toArray, x.row_len]; exact stampSize
          have hox : x.row.toArray.all (·.oneCell') = true := all_oneCell_toArray x.row_one
          clear hy hB6
          generalize strOfNums y.name = SY at *
          generalize strOfNums x.name = SX at *
          generalize hyr : y.row = yr at *
          generalize hxr : x.row = xr at *
          clear HXR hyr
          have HXR : Hid (x.row = xr) := hxr
          clear hxr
          by_cases hless : cmpB y.name x.name < 0
          · rw [decide_eq_true hless] at hls
            have HLOW : Hid (∀ j z, j < k + 1 → O[j]? = some z → cmpB z.name x.name < 0) := fun j z hj hz => by
              by_cases e : j = k
              · subst e
                rw [HY.out] at hz
                exact Option.some.inj hz ▸ hless
              · exact HI.out.1 j z (by omega) hz
            clear hless heq
            go_wp2_with fail
            refine region_quiet (Kept [] wr) (by kernel_rfl) (by kernel_rfl) ((Kept.refl [] wr).drew) ?_
            with_reducible refine wpQuiet_step ?_
            intro K hK
            rw [if_pos (by kernel_rfl)]
            refine move_at (.tmp 8) rfl (.int .i64 (k : Int)) rfl (hK _ ?_)
            clear hK K
            simp only [Act.put, List.setIfInBounds_toArray, List.set_cons_zero, List.set_cons_succ]
            with_reducible refine wpQuiet_step ?_
            intro K hK
            rw [if_pos (by kernel_rfl)]
            refine move_at (.tmp 6) rfl (.slice (some ⟨g6, 0, none⟩) O.length c6) rfl (hK _ ?_)
            clear hK K
            simp only [Act.put, List.setIfInBounds_toArray, List.set_cons_zero, List.set_cons_succ]
            with_reducible refine wpQuiet_step ?_
            intro K hK
            rw [if_pos (by kernel_rfl)]
            refine val_at (.int .i64 (O.length : Int)) (fun W => by go_simp) (hK _ ?_)
            clear hK K
            simp only [Act.put, List.setIfInBounds_toArray, List.set_cons_zero, List.set_cons_succ]
            with_reducible refine wpQuiet_step ?_
            intro K hK
            rw [if_pos (by kernel_rfl)]
            refine val_at (.bool true) (fun W => by go_simp) (hK _ ?_)
            clear hK K
            simp only [Act.put, List.setIfInBounds_toArray, List.set_cons_zero, List.set_cons_succ]
            with_reducible refine wpQuiet_step ?_
            intro K hK
            rw [if_pos (by kernel_rfl)]
            refine move_at (.tmp 25) rfl (.bool true) rfl (hK _ ?_)
            clear hK K
            simp only [Act.put, List.setIfInBounds_toArray, List.set_cons_zero, List.set_cons_succ]
            with_reducible refine wpQuiet_step ?_
            intro K hK
            rw [if_pos (by kernel_rfl)]
            refine move_at (.tmp 6) rfl (.slice (some ⟨g6, 0, none⟩) O.length c6) rfl (hK _ ?_)
            clear hK K
            simp only [Act.put, List.setIfInBounds_toArray, List.set_cons_zero, List.set_cons_succ]
            with_reducible refine wpQuiet_step ?_
            intro K hK
            rw [if_pos (by kernel_rfl)]
            refine move_at (.tmp 8) rfl (.int .i64 (k : Int)) rfl (hK _ ?_)
            clear hK K
            simp only [Act.put, List.setIfInBounds_toArray, List.set_cons_zero, List.set_cons_succ]
            with_reducible refine wpQuiet_step ?_
            intro K hK
            rw [if_pos (by kernel_rfl)]
            refine val_at (.pointer (some ⟨g6, k * 34, none⟩)) (fun W => by go_simp) (hK _ ?_)
            clear hK K
            simp only [Act.put, List.setIfInBounds_toArray, List.set_cons_zero, List.set_cons_succ]
            with_reducible refine wpQuiet_step ?_
            intro K hK
            rw [if_pos (by kernel_rfl)]
            refine val_at (.pointer (some ⟨g6, k * 34, none⟩)) (fun W => by go_simp) (hK _ ?_)
            clear hK K
            simp only [Act.put, List.setIfInBounds_toArray, List.set_cons_zero, List.set_cons_succ]
            with_reducible refine wpQuiet_step ?_
            intro K hK
            rw [if_pos (by kernel_rfl)]
            refine valS_at (.string SY) (fun W hW => by have hcc := (FY.out W hW).1; go_simp) (hK _ ?_)
            clear hK K
            simp only [Act.put, List.setIfInBounds_toArray, List.set_cons_zero, List.set_cons_succ]
            with_reducible refine wpQuiet_step ?_
            intro K hK
            rw [if_pos (by kernel_rfl)]
            refine move_at (.tmp 5) rfl (.slice (some ⟨bA, offA, none⟩) AL.length cap) rfl (hK _ ?_)
            clear hK K
            simp only [Act.put, List.setIfInBounds_toArray, List.set_cons_zero, List.set_cons_succ]
            with_reducible refine wpQuiet_step ?_
            intro K hK
            rw [if_pos (by kernel_rfl)]
            refine move_at (.tmp 7) rfl (.int .i64 (i : Int)) rfl (hK _ ?_)
            clear hK K
            simp only [Act.put, List.setIfInBounds_toArray, List.set_cons_zero, List.set_cons_succ]
            with_reducible refine wpQuiet_step ?_
            intro K hK
            rw [if_pos (by kernel_rfl)]
            refine val_at (.pointer (some ⟨bA, offA + i * 34, none⟩)) (fun W => by go_simp) (hK _ ?_)
            clear hK K
            simp only [Act.put, List.setIfInBounds_toArray, List.set_cons_zero, List.set_cons_succ]
            with_reducible refine wpQuiet_step ?_
            intro K hK
            rw [if_pos (by kernel_rfl)]
            refine val_at (.pointer (some ⟨bA, offA + i * 34, none⟩)) (fun W => by go_simp) (hK _ ?_)
            clear hK K
            simp only [Act.put, List.setIfInBounds_toArray, List.set_cons_zero, List.set_cons_succ]
            with_reducible refine wpQuiet_step ?_
            intro K hK
            rw [if_pos (by kernel_rfl)]
            refine valS_at (.string SX) (fun W hW => by have hcc := (FX.out W hW).1; go_simp) (hK _ ?_)
            clear hK K
            simp only [Act.put, List.setIfInBounds_toArray, List.set_cons_zero, List.set_cons_succ]
            with_reducible refine wpQuiet_step ?_
            intro K hK
            rw [if_pos (by kernel_rfl)]
            refine val_at (.bool true) (fun W => by go_simp) (hK _ ?_)
            clear hK K
            simp only [Act.put, List.setIfInBounds_toArray, List.set_cons_zero, List.set_cons_succ]
            with_reducible refine wpQuiet_step ?_
            intro K hK
            rw [if_pos (by kernel_rfl)]
            refine val_at (.bool true) (fun W => by go_simp) (hK _ ?_)
            clear hK K
            simp only [Act.put, List.setIfInBounds_toArray, List.set_cons_zero, List.set_cons_succ]
            refine wpQuiet_nil fun w5 hk5 => ?_
            have HK5 : Hid (Kept [] wr w5) := hk5
            clear hk5
            clear FX FY FB0
            go_wp2
            go_roundw
            case rel => exact ⟨k + 1, by omega, by go_num, HLOW.out, HI.out.2.1.on HK5.out (by simp), HI.out.2.2.then HK5.out⟩
            case measure => simp [intOf]; omega
          · rw [decide_eq_false hless] at hls
            by_cases hnm : y.name = x.name
            · rw [decide_eq_true hnm] at heq
              by_cases hbt : Beat y x
              · have FB : Hid (∀ W, Kept [] wr W → Calls Try.prog 16 #[.agg xr.toArray, .agg yr.toArray] W fun e w' => e = .returned (.bool true) ∧ Kept [] wr w') := by
                  have h := FB0.out
                  rw [decide_eq_true hbt] at h
                  exact h
                have HMP : Hid (MergedTo (AL.take (i + 1)) (O.set k x)) := by
                  have h : MergedTo (AL.take (i + 1)) (O.set k x) := by rw [HTK0.out]; exact HM.out.put HY.out hnm hbt
                  exact h
                clear FB0 hbt hnm hless
                go_wp2_with fail
                refine region_quiet (Kept [] wr) (by kernel_rfl) (by kernel_rfl) ((Kept.refl [] wr).drew) ?_
                with_reducible refine wpQuiet_step ?_
                intro K hK
                rw [if_pos (by kernel_rfl)]
                refine move_at (.tmp 8) rfl (.int .i64 (k : Int)) rfl (hK _ ?_)
                clear hK K
                simp only [Act.put, List.setIfInBounds_toArray, List.set_cons_zero, List.set_cons_succ]
                with_reducible refine wpQuiet_step ?_
                intro K hK
                rw [if_pos (by kernel_rfl)]
                refine move_at (.tmp 6) rfl (.slice (some ⟨g6, 0, none⟩) O.length c6) rfl (hK _ ?_)
                clear hK K
                simp only [Act.put, List.setIfInBounds_toArray, List.set_cons_zero, List.set_cons_succ]
                with_reducible refine wpQuiet_step ?_
                intro K hK
                rw [if_pos (by kernel_rfl)]
                refine val_at (.int .i64 (O.length : Int)) (fun W => by go_simp) (hK _ ?_)
                clear hK K
                simp only [Act.put, List.setIfInBounds_toArray, List.set_cons_zero, List.set_cons_succ]
                with_reducible refine wpQuiet_step ?_
                intro K hK
                rw [if_pos (by kernel_rfl)]
                refine val_at (.bool true) (fun W => by go_simp) (hK _ ?_)
                clear hK K
                simp only [Act.put, List.setIfInBounds_toArray, List.set_cons_zero, List.set_cons_succ]
                with_reducible refine wpQuiet_step ?_
                intro K hK
                rw [if_pos (by kernel_rfl)]
                refine move_at (.tmp 25) rfl (.bool true) rfl (hK _ ?_)
                clear hK K
                simp only [Act.put, List.setIfInBounds_toArray, List.set_cons_zero, List.set_cons_succ]
                with_reducible refine wpQuiet_step ?_
                intro K hK
                rw [if_pos (by kernel_rfl)]
                refine move_at (.tmp 6) rfl (.slice (some ⟨g6, 0, none⟩) O.length c6) rfl (hK _ ?_)
                clear hK K
                simp only [Act.put, List.setIfInBounds_toArray, List.set_cons_zero, List.set_cons_succ]
                with_reducible refine wpQuiet_step ?_
                intro K hK
                rw [if_pos (by kernel_rfl)]
                refine move_at (.tmp 8) rfl (.int .i64 (k : Int)) rfl (hK _ ?_)
                clear hK K
                simp only [Act.put, List.setIfInBounds_toArray, List.set_cons_zero, List.set_cons_succ]
                with_reducible refine wpQuiet_step ?_
                intro K hK
                rw [if_pos (by kernel_rfl)]
                refine val_at (.pointer (some ⟨g6, k * 34, none⟩)) (fun W => by go_simp) (hK _ ?_)
                clear hK K
                simp only [Act.put, List.setIfInBounds_toArray, List.set_cons_zero, List.set_cons_succ]
                with_reducible refine wpQuiet_step ?_
                intro K hK
                rw [if_pos (by kernel_rfl)]
                refine val_at (.pointer (some ⟨g6, k * 34, none⟩)) (fun W => by go_simp) (hK _ ?_)
                clear hK K
                simp only [Act.put, List.setIfInBounds_toArray, List.set_cons_zero, List.set_cons_succ]
                with_reducible refine wpQuiet_step ?_
                intro K hK
                rw [if_pos (by kernel_rfl)]
                refine valS_at (.string SY) (fun W hW => by have hcc := (FY.out W hW).1; go_simp) (hK _ ?_)
                clear hK K
                simp only [Act.put, List.setIfInBounds_toArray, List.set_cons_zero, List.set_cons_succ]
                with_reducible refine wpQuiet_step ?_
                intro K hK
                rw [if_pos (by kernel_rfl)]
                refine move_at (.tmp 5) rfl (.slice (some ⟨bA, offA, none⟩) AL.length cap) rfl (hK _ ?_)
                clear hK K
                simp only [Act.put, List.setIfInBounds_toArray, List.set_cons_zero, List.set_cons_succ]
                with_reducible refine wpQuiet_step ?_
                intro K hK
                rw [if_pos (by kernel_rfl)]
                refine move_at (.tmp 7) rfl (.int .i64 (i : Int)) rfl (hK _ ?_)
                clear hK K
                simp only [Act.put, List.setIfInBounds_toArray, List.set_cons_zero, List.set_cons_succ]
                with_reducible refine wpQuiet_step ?_
                intro K hK
                rw [if_pos (by kernel_rfl)]
                refine val_at (.pointer (some ⟨bA, offA + i * 34, none⟩)) (fun W => by go_simp) (hK _ ?_)
                clear hK K
                simp only [Act.put, List.setIfInBounds_toArray, List.set_cons_zero, List.set_cons_succ]
                with_reducible refine wpQuiet_step ?_
                intro K hK
                rw [if_pos (by kernel_rfl)]
                refine val_at (.pointer (some ⟨bA, offA + i * 34, none⟩)) (fun W => by go_simp) (hK _ ?_)
                clear hK K
                simp only [Act.put, List.setIfInBounds_toArray, List.set_cons_zero, List.set_cons_succ]
                with_reducible refine wpQuiet_step ?_
                intro K hK
                rw [if_pos (by kernel_rfl)]
                refine valS_at (.string SX) (fun W hW => by have hcc := (FX.out W hW).1; go_simp) (hK _ ?_)
                clear hK K
                simp only [Act.put, List.setIfInBounds_toArray, List.set_cons_zero, List.set_cons_succ]
                with_reducible refine wpQuiet_step ?_
                intro K hK
                rw [if_pos (by kernel_rfl)]
                refine val_at (.bool false) (fun W => by go_simp) (hK _ ?_)
                clear hK K
                simp only [Act.put, List.setIfInBounds_toArray, List.set_cons_zero, List.set_cons_succ]
                with_reducible refine wpQuiet_step ?_
                intro K hK
                rw [if_pos (by kernel_rfl)]
                refine val_at (.bool false) (fun W => by go_simp) (hK _ ?_)
                clear hK K
                simp only [Act.put, List.setIfInBounds_toArray, List.set_cons_zero, List.set_cons_succ]
                refine wpQuiet_nil fun w5 hk5 => ?_
                have HK5 : Hid (Kept [] wr w5) := hk5
                clear hk5
                go_wp2_with fail
                refine region_quiet (Kept [] wr) (by kernel_rfl) (by kernel_rfl) (HK5.out.drew) ?_
                with_reducible refine wpQuiet_step ?_
                intro K hK
                rw [if_pos (by kernel_rfl)]
                refine move_at (.tmp 8) rfl (.int .i64 (k : Int)) rfl (hK _ ?_)
                clear hK K
                simp only [Act.put, List.setIfInBounds_toArray, List.set_cons_zero, List.set_cons_succ]
                with_reducible refine wpQuiet_step ?_
                intro K hK
                rw [if_pos (by kernel_rfl)]
                refine move_at (.tmp 6) rfl (.slice (some ⟨g6, 0, none⟩) O.length c6) rfl (hK _ ?_)
                clear hK K
                simp only [Act.put, List.setIfInBounds_toArray, List.set_cons_zero, List.set_cons_succ]
                with_reducible refine wpQuiet_step ?_
                intro K hK
                rw [if_pos (by kernel_rfl)]
                refine val_at (.int .i64 (O.length : Int)) (fun W => by go_simp) (hK _ ?_)
                clear hK K
                simp only [Act.put, List.setIfInBounds_toArray, List.set_cons_zero, List.set_cons_succ]
                with_reducible refine wpQuiet_step ?_
                intro K hK
                rw [if_pos (by kernel_rfl)]
                refine val_at (.bool true) (fun W => by go_simp) (hK _ ?_)
                clear hK K
                simp only [Act.put, List.setIfInBounds_toArray, List.set_cons_zero, List.set_cons_succ]
                with_reducible refine wpQuiet_step ?_
                intro K hK
                rw [if_pos (by kernel_rfl)]
                refine move_at (.tmp 44) rfl (.bool true) rfl (hK _ ?_)
                clear hK K
                simp only [Act.put, List.setIfInBounds_toArray, List.set_cons_zero, List.set_cons_succ]
                with_reducible refine wpQuiet_step ?_
                intro K hK
                rw [if_pos (by kernel_rfl)]
                refine move_at (.tmp 6) rfl (.slice (some ⟨g6, 0, none⟩) O.length c6) rfl (hK _ ?_)
                clear hK K
                simp only [Act.put, List.setIfInBounds_toArray, List.set_cons_zero, List.set_cons_succ]
                with_reducible refine wpQuiet_step ?_
                intro K hK
                rw [if_pos (by kernel_rfl)]
                refine move_at (.tmp 8) rfl (.int .i64 (k : Int)) rfl (hK _ ?_)
                clear hK K
                simp only [Act.put, List.setIfInBounds_toArray, List.set_cons_zero, List.set_cons_succ]
                with_reducible refine wpQuiet_step ?_
                intro K hK
                rw [if_pos (by kernel_rfl)]
                refine val_at (.pointer (some ⟨g6, k * 34, none⟩)) (fun W => by go_simp) (hK _ ?_)
                clear hK K
                simp only [Act.put, List.setIfInBounds_toArray, List.set_cons_zero, List.set_cons_succ]
                with_reducible refine wpQuiet_step ?_
                intro K hK
                rw [if_pos (by kernel_rfl)]
                refine val_at (.pointer (some ⟨g6, k * 34, none⟩)) (fun W => by go_simp) (hK _ ?_)
                clear hK K
                simp only [Act.put, List.setIfInBounds_toArray, List.set_cons_zero, List.set_cons_succ]
                with_reducible refine wpQuiet_step ?_
                intro K hK
                rw [if_pos (by kernel_rfl)]
                refine valS_at (.string SY) (fun W hW => by have hcc := (FY.out W hW).1; go_simp) (hK _ ?_)
                clear hK K
                simp only [Act.put, List.setIfInBounds_toArray, List.set_cons_zero, List.set_cons_succ]
                with_reducible refine wpQuiet_step ?_
                intro K hK
                rw [if_pos (by kernel_rfl)]
                refine move_at (.tmp 5) rfl (.slice (some ⟨bA, offA, none⟩) AL.length cap) rfl (hK _ ?_)
                clear hK K
                simp only [Act.put, List.setIfInBounds_toArray, List.set_cons_zero, List.set_cons_succ]
                with_reducible refine wpQuiet_step ?_
                intro K hK
                rw [if_pos (by kernel_rfl)]
                refine move_at (.tmp 7) rfl (.int .i64 (i : Int)) rfl (hK _ ?_)
                clear hK K
                simp only [Act.put, List.setIfInBounds_toArray, List.set_cons_zero, List.set_cons_succ]
                with_reducible refine wpQuiet_step ?_
                intro K hK
                rw [if_pos (by kernel_rfl)]
                refine val_at (.pointer (some ⟨bA, offA + i * 34, none⟩)) (fun W => by go_simp) (hK _ ?_)
                clear hK K
                simp only [Act.put, List.setIfInBounds_toArray, List.set_cons_zero, List.set_cons_succ]
                with_reducible refine wpQuiet_step ?_
                intro K hK
                rw [if_pos (by kernel_rfl)]
                refine val_at (.pointer (some ⟨bA, offA + i * 34, none⟩)) (fun W => by go_simp) (hK _ ?_)
                clear hK K
                simp only [Act.put, List.setIfInBounds_toArray, List.set_cons_zero, List.set_cons_succ]
                with_reducible refine wpQuiet_step ?_
                intro K hK
                rw [if_pos (by kernel_rfl)]
                refine valS_at (.string SX) (fun W hW => by have hcc := (FX.out W hW).1; go_simp) (hK _ ?_)
                clear hK K
                simp only [Act.put, List.setIfInBounds_toArray, List.set_cons_zero, List.set_cons_succ]
                with_reducible refine wpQuiet_step ?_
                intro K hK
                rw [if_pos (by kernel_rfl)]
                refine val_at (.bool true) (fun W => by go_simp) (hK _ ?_)
                clear hK K
                simp only [Act.put, List.setIfInBounds_toArray, List.set_cons_zero, List.set_cons_succ]
                with_reducible refine wpQuiet_step ?_
                intro K hK
                rw [if_pos (by kernel_rfl)]
                refine val_at (.bool true) (fun W => by go_simp) (hK _ ?_)
                clear hK K
                simp only [Act.put, List.setIfInBounds_toArray, List.set_cons_zero, List.set_cons_succ]
                refine wpQuiet_nil fun w6 hk6 => ?_
                have HK6 : Hid (Kept [] wr w6) := hk6
                clear hk6
                go_wp2_with fail
                refine region_quiet (Kept [] wr) (by kernel_rfl) (by kernel_rfl) (HK6.out.drew) ?_
                with_reducible refine wpQuiet_step ?_
                intro K hK
                rw [if_pos (by kernel_rfl)]
                refine move_at (.tmp 5) rfl (.slice (some ⟨bA, offA, none⟩) AL.length cap) rfl (hK _ ?_)
                clear hK K
                simp only [Act.put, List.setIfInBounds_toArray, List.set_cons_zero, List.set_cons_succ]
                with_reducible refine wpQuiet_step ?_
                intro K hK
                rw [if_pos (by kernel_rfl)]
                refine move_at (.tmp 7) rfl (.int .i64 (i : Int)) rfl (hK _ ?_)
                clear hK K
                simp only [Act.put, List.setIfInBounds_toArray, List.set_cons_zero, List.set_cons_succ]
                with_reducible refine wpQuiet_step ?_
                intro K hK
                rw [if_pos (by kernel_rfl)]
                refine val_at (.pointer (some ⟨bA, offA + i * 34, none⟩)) (fun W => by go_simp) (hK _ ?_)
                clear hK K
                simp only [Act.put, List.setIfInBounds_toArray, List.set_cons_zero, List.set_cons_succ]
                with_reducible refine wpQuiet_step ?_
                intro K hK
                rw [if_pos (by kernel_rfl)]
                refine row_at 32 (.tmp 60) rfl bA (offA + i * 34) rfl xr _ (fun W hW => (FX.out W hW).2) has rfl hsx (hK _ ?_)
                clear hK K
                simp only [Act.put, List.setIfInBounds_toArray, List.set_cons_zero, List.set_cons_succ]
                with_reducible refine wpQuiet_step ?_
                intro K hK
                rw [if_pos (by kernel_rfl)]
                refine move_at (.tmp 6) rfl (.slice (some ⟨g6, 0, none⟩) O.length c6) rfl (hK _ ?_)
                clear hK K
                simp only [Act.put, List.setIfInBounds_toArray, List.set_cons_zero, List.set_cons_succ]
                with_reducible refine wpQuiet_step ?_
                intro K hK
                rw [if_pos (by kernel_rfl)]
                refine move_at (.tmp 8) rfl (.int .i64 (k : Int)) rfl (hK _ ?_)
                clear hK K
                simp only [Act.put, List.setIfInBounds_toArray, List.set_cons_zero, List.set_cons_succ]
                with_reducible refine wpQuiet_step ?_
                intro K hK
                rw [if_pos (by kernel_rfl)]
                refine val_at (.pointer (some ⟨g6, k * 34, none⟩)) (fun W => by go_simp) (hK _ ?_)
                clear hK K
                simp only [Act.put, List.setIfInBounds_toArray, List.set_cons_zero, List.set_cons_succ]
                with_reducible refine wpQuiet_step ?_
                intro K hK
                rw [if_pos (by kernel_rfl)]
                refine row_at 32 (.tmp 64) rfl g6 (k * 34) rfl yr _ (fun W hW => (FY.out W hW).2) has rfl hsy (hK _ ?_)
                clear hK K
                simp only [Act.put, List.setIfInBounds_toArray, List.set_cons_zero, List.set_cons_succ]
                with_reducible refine wpQuiet_step ?_
                intro K hK
                rw [if_pos (by kernel_rfl)]
                refine call_at 16 #[.agg xr.toArray, .agg yr.toArray] (.bool true) (fun W => by go_simp) FB.out (hK _ ?_)
                clear hK K
                simp only [Act.put, List.setIfInBounds_toArray, List.set_cons_zero, List.set_cons_succ]
                refine wpQuiet_nil fun w7 hk7 => ?_
                have HK7 : Hid (Kept [] wr w7) := hk7
                clear hk7
                have HC7 : Hid (CMem w7 g6 c6 O ∧ w1.heap.size ≤ g6 ∧ c6 ≤ maxLen ∧ Kept [] w1 w7) := by
                  obtain ⟨h1, h2, h3⟩ := (HI.out.2.1.on HK7.out (by simp)).mem
                  exact ⟨h1, h2, h3, HI.out.2.2.then HK7.out⟩
                have HRX7 : Hid (w7.rangeAt bA (offA + i * 34) xr) := (FX.out w7 HK7.out).2
                clear FX FY FB
                go_wp2_with (first
                  | (refine wpList_load_mid (by rfl) 32 (.tmp 71) (by rfl) bA (offA + i * 34) (by rfl) xr _ HRX7.out has rfl hsx ?_)
                  | (refine wpList_store_mid (by rfl) 32 (.tmp 73) (.tmp 72) (by rfl) g6 (k * 34) xr.toArray (by rfl) (by rfl) (HC7.out.1.there (k * 34) _ (by rw [hx34']; omega)) hsx2 hox ?_))
                go_roundw
                case rel =>
                  refine ⟨i + 1, O.set k x, by omega, by go_num, HMP.out, by rw [List.length_set]; omega, ?_, ?_⟩
                  · have h := (HC7.out.1.put k hko x).own HC7.out.2.1 HC7.out.2.2.1
                    rw [HXR.out, List.length_set] at h
                    have h2 : StampOwn (w7.setCells g6 (k * 34) xr) w1.heap.size (.slice (some ⟨g6, 0, none⟩) O.length c6) (O.set k x) := h
                    exact h2
                  · have h := Kept.setCells (S := []) g6 (Or.inr HC7.out.2.1) xr (k * 34) w7 HC7.out.2.2.2
                    exact h
                case measure => simp [intOf]; omega
              · have FB : Hid (∀ W, Kept [] wr W → Calls Try.prog 16 #[.agg xr.toArray, .agg yr.toArray] W fun e w' => e = .returned (.bool false) ∧ Kept [] wr w') := by
                  have h := FB0.out
                  rw [decide_eq_false hbt] at h
                  exact h
                have HMP : Hid (MergedTo (AL.take (i + 1)) O) := by
                  have h : MergedTo (AL.take (i + 1)) O := by rw [HTK0.out]; exact HM.out.keep (List.mem_of_getElem? HY.out) hnm hbt
                  exact h
                clear FB0 hbt hnm hless
                go_wp2_with fail
                refine region_quiet (Kept [] wr) (by kernel_rfl) (by kernel_rfl) ((Kept.refl [] wr).drew) ?_
                with_reducible refine wpQuiet_step ?_
                intro K hK
                rw [if_pos (by kernel_rfl)]
                refine move_at (.tmp 8) rfl (.int .i64 (k : Int)) rfl (hK _ ?_)
                clear hK K
                simp only [Act.put, List.setIfInBounds_toArray, List.set_cons_zero, List.set_cons_succ]
                with_reducible refine wpQuiet_step ?_
                intro K hK
                rw [if_pos (by kernel_rfl)]
                refine move_at (.tmp 6) rfl (.slice (some ⟨g6, 0, none⟩) O.length c6) rfl (hK _ ?_)
                clear hK K
                simp only [Act.put, List.setIfInBounds_toArray, List.set_cons_zero, List.set_cons_succ]
                with_reducible refine wpQuiet_step ?_
                intro K hK
                rw [if_pos (by kernel_rfl)]
                refine val_at (.int .i64 (O.length : Int)) (fun W => by go_simp) (hK _ ?_)
                clear hK K
                simp only [Act.put, List.setIfInBounds_toArray, List.set_cons_zero, List.set_cons_succ]
                with_reducible refine wpQuiet_step ?_
                intro K hK
                rw [if_pos (by kernel_rfl)]
                refine val_at (.bool true) (fun W => by go_simp) (hK _ ?_)
                clear hK K
                simp only [Act.put, List.setIfInBounds_toArray, List.set_cons_zero, List.set_cons_succ]
                with_reducible refine wpQuiet_step ?_
                intro K hK
                rw [if_pos (by kernel_rfl)]
                refine move_at (.tmp 25) rfl (.bool true) rfl (hK _ ?_)
                clear hK K
                simp only [Act.put, List.setIfInBounds_toArray, List.set_cons_zero, List.set_cons_succ]
                with_reducible refine wpQuiet_step ?_
                intro K hK
                rw [if_pos (by kernel_rfl)]
                refine move_at (.tmp 6) rfl (.slice (some ⟨g6, 0, none⟩) O.length c6) rfl (hK _ ?_)
                clear hK K
                simp only [Act.put, List.setIfInBounds_toArray, List.set_cons_zero, List.set_cons_succ]
                with_reducible refine wpQuiet_step ?_
                intro K hK
                rw [if_pos (by kernel_rfl)]
                refine move_at (.tmp 8) rfl (.int .i64 (k : Int)) rfl (hK _ ?_)
                clear hK K
                simp only [Act.put, List.setIfInBounds_toArray, List.set_cons_zero, List.set_cons_succ]
                with_reducible refine wpQuiet_step ?_
                intro K hK
                rw [if_pos (by kernel_rfl)]
                refine val_at (.pointer (some ⟨g6, k * 34, none⟩)) (fun W => by go_simp) (hK _ ?_)
                clear hK K
                simp only [Act.put, List.setIfInBounds_toArray, List.set_cons_zero, List.set_cons_succ]
                with_reducible refine wpQuiet_step ?_
                intro K hK
                rw [if_pos (by kernel_rfl)]
                refine val_at (.pointer (some ⟨g6, k * 34, none⟩)) (fun W => by go_simp) (hK _ ?_)
                clear hK K
                simp only [Act.put, List.setIfInBounds_toArray, List.set_cons_zero, List.set_cons_succ]
                with_reducible refine wpQuiet_step ?_
                intro K hK
                rw [if_pos (by kernel_rfl)]
                refine valS_at (.string SY) (fun W hW => by have hcc := (FY.out W hW).1; go_simp) (hK _ ?_)
                clear hK K
                simp only [Act.put, List.setIfInBounds_toArray, List.set_cons_zero, List.set_cons_succ]
                with_reducible refine wpQuiet_step ?_
                intro K hK
                rw [if_pos (by kernel_rfl)]
                refine move_at (.tmp 5) rfl (.slice (some ⟨bA, offA, none⟩) AL.length cap) rfl (hK _ ?_)
                clear hK K
                simp only [Act.put, List.setIfInBounds_toArray, List.set_cons_zero, List.set_cons_succ]
                with_reducible refine wpQuiet_step ?_
                intro K hK
                rw [if_pos (by kernel_rfl)]
                refine move_at (.tmp 7) rfl (.int .i64 (i : Int)) rfl (hK _ ?_)
                clear hK K
                simp only [Act.put, List.setIfInBounds_toArray, List.set_cons_zero, List.set_cons_succ]
                with_reducible refine wpQuiet_step ?_
                intro K hK
                rw [if_pos (by kernel_rfl)]
                refine val_at (.pointer (some ⟨bA, offA + i * 34, none⟩)) (fun W => by go_simp) (hK _ ?_)
                clear hK K
                simp only [Act.put, List.setIfInBounds_toArray, List.set_cons_zero, List.set_cons_succ]
                with_reducible refine wpQuiet_step ?_
                intro K hK
                rw [if_pos (by kernel_rfl)]
                refine val_at (.pointer (some ⟨bA, offA + i * 34, none⟩)) (fun W => by go_simp) (hK _ ?_)
                clear hK K
                simp only [Act.put, List.setIfInBounds_toArray, List.set_cons_zero, List.set_cons_succ]
                with_reducible refine wpQuiet_step ?_
                intro K hK
                rw [if_pos (by kernel_rfl)]
                refine valS_at (.string SX) (fun W hW => by have hcc := (FX.out W hW).1; go_simp) (hK _ ?_)
                clear hK K
                simp only [Act.put, List.setIfInBounds_toArray, List.set_cons_zero, List.set_cons_succ]
                with_reducible refine wpQuiet_step ?_
                intro K hK
                rw [if_pos (by kernel_rfl)]
                refine val_at (.bool false) (fun W => by go_simp) (hK _ ?_)
                clear hK K
                simp only [Act.put, List.setIfInBounds_toArray, List.set_cons_zero, List.set_cons_succ]
                with_reducible refine wpQuiet_step ?_
                intro K hK
                rw [if_pos (by kernel_rfl)]
                refine val_at (.bool false) (fun W => by go_simp) (hK _ ?_)
                clear hK K
                simp only [Act.put, List.setIfInBounds_toArray, List.set_cons_zero, List.set_cons_succ]
                refine wpQuiet_nil fun w5 hk5 => ?_
                have HK5 : Hid (Kept [] wr w5) := hk5
                clear hk5
                go_wp2_with fail
                refine region_quiet (Kept [] wr) (by kernel_rfl) (by kernel_rfl) (HK5.out.drew) ?_
                with_reducible refine wpQuiet_step ?_
                intro K hK
                rw [if_pos (by kernel_rfl)]
                refine move_at (.tmp 8) rfl (.int .i64 (k : Int)) rfl (hK _ ?_)
                clear hK K
                simp only [Act.put, List.setIfInBounds_toArray, List.set_cons_zero, List.set_cons_succ]
                with_reducible refine wpQuiet_step ?_
                intro K hK
                rw [if_pos (by kernel_rfl)]
                refine move_at (.tmp 6) rfl (.slice (some ⟨g6, 0, none⟩) O.length c6) rfl (hK _ ?_)
                clear hK K
                simp only [Act.put, List.setIfInBounds_toArray, List.set_cons_zero, List.set_cons_succ]
                with_reducible refine wpQuiet_step ?_
                intro K hK
                rw [if_pos (by kernel_rfl)]
                refine val_at (.int .i64 (O.length : Int)) (fun W => by go_simp) (hK _ ?_)
                clear hK K
                simp only [Act.put, List.setIfInBounds_toArray, List.set_cons_zero, List.set_cons_succ]
                with_reducible refine wpQuiet_step ?_
                intro K hK
                rw [if_pos (by kernel_rfl)]
                refine val_at (.bool true) (fun W => by go_simp) (hK _ ?_)
                clear hK K
                simp only [Act.put, List.setIfInBounds_toArray, List.set_cons_zero, List.set_cons_succ]
                with_reducible refine wpQuiet_step ?_
                intro K hK
                rw [if_pos (by kernel_rfl)]
                refine move_at (.tmp 44) rfl (.bool true) rfl (hK _ ?_)
                clear hK K
                simp only [Act.put, List.setIfInBounds_toArray, List.set_cons_zero, List.set_cons_succ]
                with_reducible refine wpQuiet_step ?_
                intro K hK
                rw [if_pos (by kernel_rfl)]
                refine move_at (.tmp 6) rfl (.slice (some ⟨g6, 0, none⟩) O.length c6) rfl (hK _ ?_)
                clear hK K
                simp only [Act.put, List.setIfInBounds_toArray, List.set_cons_zero, List.set_cons_succ]
                with_reducible refine wpQuiet_step ?_
                intro K hK
                rw [if_pos (by kernel_rfl)]
                refine move_at (.tmp 8) rfl (.int .i64 (k : Int)) rfl (hK _ ?_)
                clear hK K
                simp only [Act.put, List.setIfInBounds_toArray, List.set_cons_zero, List.set_cons_succ]
                with_reducible refine wpQuiet_step ?_
                intro K hK
                rw [if_pos (by kernel_rfl)]
                refine val_at (.pointer (some ⟨g6, k * 34, none⟩)) (fun W => by go_simp) (hK _ ?_)
                clear hK K
                simp only [Act.put, List.setIfInBounds_toArray, List.set_cons_zero, List.set_cons_succ]
                with_reducible refine wpQuiet_step ?_
                intro K hK
                rw [if_pos (by kernel_rfl)]
                refine val_at (.pointer (some ⟨g6, k * 34, none⟩)) (fun W => by go_simp) (hK _ ?_)
                clear hK K
                simp only [Act.put, List.setIfInBounds_toArray, List.set_cons_zero, List.set_cons_succ]
                with_reducible refine wpQuiet_step ?_
                intro K hK
                rw [if_pos (by kernel_rfl)]
                refine valS_at (.string SY) (fun W hW => by have hcc := (FY.out W hW).1; go_simp) (hK _ ?_)
                clear hK K
                simp only [Act.put, List.setIfInBounds_toArray, List.set_cons_zero, List.set_cons_succ]
                with_reducible refine wpQuiet_step ?_
                intro K hK
                rw [if_pos (by kernel_rfl)]
                refine move_at (.tmp 5) rfl (.slice (some ⟨bA, offA, none⟩) AL.length cap) rfl (hK _ ?_)
                clear hK K
                simp only [Act.put, List.setIfInBounds_toArray, List.set_cons_zero, List.set_cons_succ]
                with_reducible refine wpQuiet_step ?_
                intro K hK
                rw [if_pos (by kernel_rfl)]
                refine move_at (.tmp 7) rfl (.int .i64 (i : Int)) rfl (hK _ ?_)
                clear hK K
                simp only [Act.put, List.setIfInBounds_toArray, List.set_cons_zero, List.set_cons_succ]
                with_reducible refine wpQuiet_step ?_
                intro K hK
                rw [if_pos (by kernel_rfl)]
                refine val_at (.pointer (some ⟨bA, offA + i * 34, none⟩)) (fun W => by go_simp) (hK _ ?_)
                clear hK K
                simp only [Act.put, List.setIfInBounds_toArray, List.set_cons_zero, List.set_cons_succ]
                with_reducible refine wpQuiet_step ?_
                intro K hK
                rw [if_pos (by kernel_rfl)]
                refine val_at (.pointer (some ⟨bA, offA + i * 34, none⟩)) (fun W => by go_simp) (hK _ ?_)
                clear hK K
                simp only [Act.put, List.setIfInBounds_toArray, List.set_cons_zero, List.set_cons_succ]
                with_reducible refine wpQuiet_step ?_
                intro K hK
                rw [if_pos (by kernel_rfl)]
                refine valS_at (.string SX) (fun W hW => by have hcc := (FX.out W hW).1; go_simp) (hK _ ?_)
                clear hK K
                simp only [Act.put, List.setIfInBounds_toArray, List.set_cons_zero, List.set_cons_succ]
                with_reducible refine wpQuiet_step ?_
                intro K hK
                rw [if_pos (by kernel_rfl)]
                refine val_at (.bool true) (fun W => by go_simp) (hK _ ?_)
                clear hK K
                simp only [Act.put, List.setIfInBounds_toArray, List.set_cons_zero, List.set_cons_succ]
                with_reducible refine wpQuiet_step ?_
                intro K hK
                rw [if_pos (by kernel_rfl)]
                refine val_at (.bool true) (fun W => by go_simp) (hK _ ?_)
                clear hK K
                simp only [Act.put, List.setIfInBounds_toArray, List.set_cons_zero, List.set_cons_succ]
                refine wpQuiet_nil fun w6 hk6 => ?_
                have HK6 : Hid (Kept [] wr w6) := hk6
                clear hk6
                go_wp2_with fail
                refine region_quiet (Kept [] wr) (by kernel_rfl) (by kernel_rfl) (HK6.out.drew) ?_
                with_reducible refine wpQuiet_step ?_
                intro K hK
                rw [if_pos (by kernel_rfl)]
                refine move_at (.tmp 5) rfl (.slice (some ⟨bA, offA, none⟩) AL.length cap) rfl (hK _ ?_)
                clear hK K
                simp only [Act.put, List.setIfInBounds_toArray, List.set_cons_zero, List.set_cons_succ]
                with_reducible refine wpQuiet_step ?_
                intro K hK
                rw [if_pos (by kernel_rfl)]
                refine move_at (.tmp 7) rfl (.int .i64 (i : Int)) rfl (hK _ ?_)
                clear hK K
                simp only [Act.put, List.setIfInBounds_toArray, List.set_cons_zero, List.set_cons_succ]
                with_reducible refine wpQuiet_step ?_
                intro K hK
                rw [if_pos (by kernel_rfl)]
                refine val_at (.pointer (some ⟨bA, offA + i * 34, none⟩)) (fun W => by go_simp) (hK _ ?_)
                clear hK K
                simp only [Act.put, List.setIfInBounds_toArray, List.set_cons_zero, List.set_cons_succ]
                with_reducible refine wpQuiet_step ?_
                intro K hK
                rw [if_pos (by kernel_rfl)]
                refine row_at 32 (.tmp 60) rfl bA (offA + i * 34) rfl xr _ (fun W hW => (FX.out W hW).2) has rfl hsx (hK _ ?_)
                clear hK K
                simp only [Act.put, List.setIfInBounds_toArray, List.set_cons_zero, List.set_cons_succ]
                with_reducible refine wpQuiet_step ?_
                intro K hK
                rw [if_pos (by kernel_rfl)]
                refine move_at (.tmp 6) rfl (.slice (some ⟨g6, 0, none⟩) O.length c6) rfl (hK _ ?_)
                clear hK K
                simp only [Act.put, List.setIfInBounds_toArray, List.set_cons_zero, List.set_cons_succ]
                with_reducible refine wpQuiet_step ?_
                intro K hK
                rw [if_pos (by kernel_rfl)]
                refine move_at (.tmp 8) rfl (.int .i64 (k : Int)) rfl (hK _ ?_)
                clear hK K
                simp only [Act.put, List.setIfInBounds_toArray, List.set_cons_zero, List.set_cons_succ]
                with_reducible refine wpQuiet_step ?_
                intro K hK
                rw [if_pos (by kernel_rfl)]
                refine val_at (.pointer (some ⟨g6, k * 34, none⟩)) (fun W => by go_simp) (hK _ ?_)
                clear hK K
                simp only [Act.put, List.setIfInBounds_toArray, List.set_cons_zero, List.set_cons_succ]
                with_reducible refine wpQuiet_step ?_
                intro K hK
                rw [if_pos (by kernel_rfl)]
                refine row_at 32 (.tmp 64) rfl g6 (k * 34) rfl yr _ (fun W hW => (FY.out W hW).2) has rfl hsy (hK _ ?_)
                clear hK K
                simp only [Act.put, List.setIfInBounds_toArray, List.set_cons_zero, List.set_cons_succ]
                with_reducible refine wpQuiet_step ?_
                intro K hK
                rw [if_pos (by kernel_rfl)]
                refine call_at 16 #[.agg xr.toArray, .agg yr.toArray] (.bool false) (fun W => by go_simp) FB.out (hK _ ?_)
                clear hK K
                simp only [Act.put, List.setIfInBounds_toArray, List.set_cons_zero, List.set_cons_succ]
                refine wpQuiet_nil fun w7 hk7 => ?_
                have HK7 : Hid (Kept [] wr w7) := hk7
                clear hk7
                clear FX FY FB
                go_wp2
                go_roundw
                case rel => exact ⟨i + 1, O, by omega, by go_num, HMP.out, by omega, HI.out.2.1.on HK7.out (by simp), HI.out.2.2.then HK7.out⟩
                case measure => simp [intOf]; omega
            · rw [decide_eq_false hnm] at heq
              have HMI : Hid (MergedTo (AL.take (i + 1)) (O.take k ++ x :: O.drop k)) := by
                have h : MergedTo (AL.take (i + 1)) (O.take k ++ x :: O.drop k) := by
                  rw [HTK0.out]
                  refine HM.out.ins (fun j z hj hz => HI.out.1 j z hj hz) fun z hz => ?_
                  rw [HY.out] at hz
                  obtain rfl := Option.some.inj hz
                  exact ⟨hless, hnm⟩
                exact h
              clear FB0 hnm hless
              go_wp2_with fail
              refine region_quiet (Kept [] wr) (by kernel_rfl) (by kernel_rfl) ((Kept.refl [] wr).drew) ?_
              with_reducible refine wpQuiet_step ?_
              intro K hK
              rw [if_pos (by kernel_rfl)]
              refine move_at (.tmp 8) rfl (.int .i64 (k : Int)) rfl (hK _ ?_)
              clear hK K
              simp only [Act.put, List.setIfInBounds_toArray, List.set_cons_zero, List.set_cons_succ]
              with_reducible refine wpQuiet_step ?_
              intro K hK
              rw [if_pos (by kernel_rfl)]
              refine move_at (.tmp 6) rfl (.slice (some ⟨g6, 0, none⟩) O.length c6) rfl (hK _ ?_)
              clear hK K
              simp only [Act.put, List.setIfInBounds_toArray, List.set_cons_zero, List.set_cons_succ]
              with_reducible refine wpQuiet_step ?_
              intro K hK
              rw [if_pos (by kernel_rfl)]
              refine val_at (.int .i64 (O.length : Int)) (fun W => by go_simp) (hK _ ?_)
              clear hK K
              simp only [Act.put, List.setIfInBounds_toArray, List.set_cons_zero, List.set_cons_succ]
              with_reducible refine wpQuiet_step ?_
              intro K hK
              rw [if_pos (by kernel_rfl)]
              refine val_at (.bool true) (fun W => by go_simp) (hK _ ?_)
              clear hK K
              simp only [Act.put, List.setIfInBounds_toArray, List.set_cons_zero, List.set_cons_succ]
              with_reducible refine wpQuiet_step ?_
              intro K hK
              rw [if_pos (by kernel_rfl)]
              refine move_at (.tmp 25) rfl (.bool true) rfl (hK _ ?_)
              clear hK K
              simp only [Act.put, List.setIfInBounds_toArray, List.set_cons_zero, List.set_cons_succ]
              with_reducible refine wpQuiet_step ?_
              intro K hK
              rw [if_pos (by kernel_rfl)]
              refine move_at (.tmp 6) rfl (.slice (some ⟨g6, 0, none⟩) O.length c6) rfl (hK _ ?_)
              clear hK K
              simp only [Act.put, List.setIfInBounds_toArray, List.set_cons_zero, List.set_cons_succ]
              with_reducible refine wpQuiet_step ?_
              intro K hK
              rw [if_pos (by kernel_rfl)]
              refine move_at (.tmp 8) rfl (.int .i64 (k : Int)) rfl (hK _ ?_)
              clear hK K
              simp only [Act.put, List.setIfInBounds_toArray, List.set_cons_zero, List.set_cons_succ]
              with_reducible refine wpQuiet_step ?_
              intro K hK
              rw [if_pos (by kernel_rfl)]
              refine val_at (.pointer (some ⟨g6, k * 34, none⟩)) (fun W => by go_simp) (hK _ ?_)
              clear hK K
              simp only [Act.put, List.setIfInBounds_toArray, List.set_cons_zero, List.set_cons_succ]
              with_reducible refine wpQuiet_step ?_
              intro K hK
              rw [if_pos (by kernel_rfl)]
              refine val_at (.pointer (some ⟨g6, k * 34, none⟩)) (fun W => by go_simp) (hK _ ?_)
              clear hK K
              simp only [Act.put, List.setIfInBounds_toArray, List.set_cons_zero, List.set_cons_succ]
              with_reducible refine wpQuiet_step ?_
              intro K hK
              rw [if_pos (by kernel_rfl)]
              refine valS_at (.string SY) (fun W hW => by have hcc := (FY.out W hW).1; go_simp) (hK _ ?_)
              clear hK K
              simp only [Act.put, List.setIfInBounds_toArray, List.set_cons_zero, List.set_cons_succ]
              with_reducible refine wpQuiet_step ?_
              intro K hK
              rw [if_pos (by kernel_rfl)]
              refine move_at (.tmp 5) rfl (.slice (some ⟨bA, offA, none⟩) AL.length cap) rfl (hK _ ?_)
              clear hK K
              simp only [Act.put, List.setIfInBounds_toArray, List.set_cons_zero, List.set_cons_succ]
              with_reducible refine wpQuiet_step ?_
              intro K hK
              rw [if_pos (by kernel_rfl)]
              refine move_at (.tmp 7) rfl (.int .i64 (i : Int)) rfl (hK _ ?_)
              clear hK K
              simp only [Act.put, List.setIfInBounds_toArray, List.set_cons_zero, List.set_cons_succ]
              with_reducible refine wpQuiet_step ?_
              intro K hK
              rw [if_pos (by kernel_rfl)]
              refine val_at (.pointer (some ⟨bA, offA + i * 34, none⟩)) (fun W => by go_simp) (hK _ ?_)
              clear hK K
              simp only [Act.put, List.setIfInBounds_toArray, List.set_cons_zero, List.set_cons_succ]
              with_reducible refine wpQuiet_step ?_
              intro K hK
              rw [if_pos (by kernel_rfl)]
              refine val_at (.pointer (some ⟨bA, offA + i * 34, none⟩)) (fun W => by go_simp) (hK _ ?_)
              clear hK K
              simp only [Act.put, List.setIfInBounds_toArray, List.set_cons_zero, List.set_cons_succ]
              with_reducible refine wpQuiet_step ?_
              intro K hK
              rw [if_pos (by kernel_rfl)]
              refine valS_at (.string SX) (fun W hW => by have hcc := (FX.out W hW).1; go_simp) (hK _ ?_)
              clear hK K
              simp only [Act.put, List.setIfInBounds_toArray, List.set_cons_zero, List.set_cons_succ]
              with_reducible refine wpQuiet_step ?_
              intro K hK
              rw [if_pos (by kernel_rfl)]
              refine val_at (.bool false) (fun W => by go_simp) (hK _ ?_)
              clear hK K
              simp only [Act.put, List.setIfInBounds_toArray, List.set_cons_zero, List.set_cons_succ]
              with_reducible refine wpQuiet_step ?_
              intro K hK
              rw [if_pos (by kernel_rfl)]
              refine val_at (.bool false) (fun W => by go_simp) (hK _ ?_)
              clear hK K
              simp only [Act.put, List.setIfInBounds_toArray, List.set_cons_zero, List.set_cons_succ]
              refine wpQuiet_nil fun w5 hk5 => ?_
              have HK5 : Hid (Kept [] wr w5) := hk5
              clear hk5
              go_wp2_with fail
              refine region_quiet (Kept [] wr) (by kernel_rfl) (by kernel_rfl) (HK5.out.drew) ?_
              with_reducible refine wpQuiet_step ?_
              intro K hK
              rw [if_pos (by kernel_rfl)]
              refine move_at (.tmp 8) rfl (.int .i64 (k : Int)) rfl (hK _ ?_)
              clear hK K
              simp only [Act.put, List.setIfInBounds_toArray, List.set_cons_zero, List.set_cons_succ]
              with_reducible refine wpQuiet_step ?_
              intro K hK
              rw [if_pos (by kernel_rfl)]
              refine move_at (.tmp 6) rfl (.slice (some ⟨g6, 0, none⟩) O.length c6) rfl (hK _ ?_)
              clear hK K
              simp only [Act.put, List.setIfInBounds_toArray, List.set_cons_zero, List.set_cons_succ]
              with_reducible refine wpQuiet_step ?_
              intro K hK
              rw [if_pos (by kernel_rfl)]
              refine val_at (.int .i64 (O.length : Int)) (fun W => by go_simp) (hK _ ?_)
              clear hK K
              simp only [Act.put, List.setIfInBounds_toArray, List.set_cons_zero, List.set_cons_succ]
              with_reducible refine wpQuiet_step ?_
              intro K hK
              rw [if_pos (by kernel_rfl)]
              refine val_at (.bool true) (fun W => by go_simp) (hK _ ?_)
              clear hK K
              simp only [Act.put, List.setIfInBounds_toArray, List.set_cons_zero, List.set_cons_succ]
              with_reducible refine wpQuiet_step ?_
              intro K hK
              rw [if_pos (by kernel_rfl)]
              refine move_at (.tmp 44) rfl (.bool true) rfl (hK _ ?_)
              clear hK K
              simp only [Act.put, List.setIfInBounds_toArray, List.set_cons_zero, List.set_cons_succ]
              with_reducible refine wpQuiet_step ?_
              intro K hK
              rw [if_pos (by kernel_rfl)]
              refine move_at (.tmp 6) rfl (.slice (some ⟨g6, 0, none⟩) O.length c6) rfl (hK _ ?_)
              clear hK K
              simp only [Act.put, List.setIfInBounds_toArray, List.set_cons_zero, List.set_cons_succ]
              with_reducible refine wpQuiet_step ?_
              intro K hK
              rw [if_pos (by kernel_rfl)]
              refine move_at (.tmp 8) rfl (.int .i64 (k : Int)) rfl (hK _ ?_)
              clear hK K
              simp only [Act.put, List.setIfInBounds_toArray, List.set_cons_zero, List.set_cons_succ]
              with_reducible refine wpQuiet_step ?_
              intro K hK
              rw [if_pos (by kernel_rfl)]
              refine val_at (.pointer (some ⟨g6, k * 34, none⟩)) (fun W => by go_simp) (hK _ ?_)
              clear hK K
              simp only [Act.put, List.setIfInBounds_toArray, List.set_cons_zero, List.set_cons_succ]
              with_reducible refine wpQuiet_step ?_
              intro K hK
              rw [if_pos (by kernel_rfl)]
              refine val_at (.pointer (some ⟨g6, k * 34, none⟩)) (fun W => by go_simp) (hK _ ?_)
              clear hK K
              simp only [Act.put, List.setIfInBounds_toArray, List.set_cons_zero, List.set_cons_succ]
              with_reducible refine wpQuiet_step ?_
              intro K hK
              rw [if_pos (by kernel_rfl)]
              refine valS_at (.string SY) (fun W hW => by have hcc := (FY.out W hW).1; go_simp) (hK _ ?_)
              clear hK K
              simp only [Act.put, List.setIfInBounds_toArray, List.set_cons_zero, List.set_cons_succ]
              with_reducible refine wpQuiet_step ?_
              intro K hK
              rw [if_pos (by kernel_rfl)]
              refine move_at (.tmp 5) rfl (.slice (some ⟨bA, offA, none⟩) AL.length cap) rfl (hK _ ?_)
              clear hK K
              simp only [Act.put, List.setIfInBounds_toArray, List.set_cons_zero, List.set_cons_succ]
              with_reducible refine wpQuiet_step ?_
              intro K hK
              rw [if_pos (by kernel_rfl)]
              refine move_at (.tmp 7) rfl (.int .i64 (i : Int)) rfl (hK _ ?_)
              clear hK K
              simp only [Act.put, List.setIfInBounds_toArray, List.set_cons_zero, List.set_cons_succ]
              with_reducible refine wpQuiet_step ?_
              intro K hK
              rw [if_pos (by kernel_rfl)]
              refine val_at (.pointer (some ⟨bA, offA + i * 34, none⟩)) (fun W => by go_simp) (hK _ ?_)
              clear hK K
              simp only [Act.put, List.setIfInBounds_toArray, List.set_cons_zero, List.set_cons_succ]
              with_reducible refine wpQuiet_step ?_
              intro K hK
              rw [if_pos (by kernel_rfl)]
              refine val_at (.pointer (some ⟨bA, offA + i * 34, none⟩)) (fun W => by go_simp) (hK _ ?_)
              clear hK K
              simp only [Act.put, List.setIfInBounds_toArray, List.set_cons_zero, List.set_cons_succ]
              with_reducible refine wpQuiet_step ?_
              intro K hK
              rw [if_pos (by kernel_rfl)]
              refine valS_at (.string SX) (fun W hW => by have hcc := (FX.out W hW).1; go_simp) (hK _ ?_)
              clear hK K
              simp only [Act.put, List.setIfInBounds_toArray, List.set_cons_zero, List.set_cons_succ]
              with_reducible refine wpQuiet_step ?_
              intro K hK
              rw [if_pos (by kernel_rfl)]
              refine val_at (.bool false) (fun W => by go_simp) (hK _ ?_)
              clear hK K
              simp only [Act.put, List.setIfInBounds_toArray, List.set_cons_zero, List.set_cons_succ]
              with_reducible refine wpQuiet_step ?_
              intro K hK
              rw [if_pos (by kernel_rfl)]
              refine val_at (.bool false) (fun W => by go_simp) (hK _ ?_)
              clear hK K
              simp only [Act.put, List.setIfInBounds_toArray, List.set_cons_zero, List.set_cons_succ]
              refine wpQuiet_nil fun w6 hk6 => ?_
              have HK6 : Hid (Kept [] wr w6) := hk6
              clear hk6
              clear FY
              have HO6 : Hid (StampOwn w6 w1.heap.size (.slice (some ⟨g6, 0, none⟩) O.length c6) O ∧ Kept [] w1 w6) := ⟨HI.out.2.1.on HK6.out (by simp), HI.out.2.2.then HK6.out⟩
              have HSZ : Hid (w1.heap.size ≤ w6.heap.size) := HO6.out.2.size
              have HRX : Hid (∀ W, Kept [] w6 W → W.rangeAt bA (offA + i * 34) xr) := fun W q => (FX.out W (HK6.out.then q)).2
              have hsl : ∀ W : World, (sizeOf 32).run Try.prog W = .ok 34 W := fun W => Try.sizeOf32 W
              have HNIL : Hid (w6.ownsRow w6.heap.size 32 34 (.slice none 0 0) 0 []) := StampOwn.nil w6 w6.heap.size
              have h6 : O.length ≤ c6 := h6c
              have k6 : k ≤ O.length := hk
              clear FX
              have HTK : Hid (∀ W, Kept [] w6 W → RowsAt W (.slice (some ⟨g6, 0, none⟩) k c6) 34 ((O.take k).map StampE.row)) := fun W q => by
                have h := RowsAt.take (m := k) (show RowsAt W (.slice (some ⟨g6, 0, none⟩) O.length c6) 34 (O.map StampE.row) from (HO6.out.1.on q (by simp)).at (by omega)) (by rw [List.length_map]; exact k6)
                rwa [← List.map_take] at h
              have HDP : Hid (∀ W, Kept [] w6 W → RowsAt W (.slice (if c6 = k then ((some ⟨g6, 0, none⟩) : Option Addr) else ((some ⟨g6, 0, none⟩) : Option Addr).map (·.add (k * 34))) (O.length - k) (c6 - k)) 34 ((O.drop k).map StampE.row)) := fun W q => by
                have h := RowsAt.drop (m := k) (show RowsAt W (.slice (some ⟨g6, 0, none⟩) O.length c6) 34 (O.map StampE.row) from (HO6.out.1.on q (by simp)).at (by omega)) (by rw [List.length_map]; exact k6)
                rwa [← List.map_drop] at h
              go_wp2_with (first
                | (refine wpList_uptoA (by rfl) 22 34 (by kernel_rfl) (hsl _) (.tmp 75) (.tmp 76) (by rfl) (some ⟨g6, 0, none⟩) O.length c6 (by rfl) k (k : Int) rfl (by rfl) (by omega) ?_)
                | (refine wpList_append_rows (by rfl) (.tmp 74) (.tmp 77) 22 32 (.agg zeroS.row.toArray) 34 56 Try.underlying22 Try.zeroStampI (by show zeroS.row.toArray.size = 34; rw [List.size_toArray, zeroS.row_len]) (by decide) (by rfl) (by rfl) HNIL.out (by rfl) (HTK.out _ (Kept.refl _ _)) srows_len srows_one (by rw [List.length_map, List.length_take]; omega) (by decide) (Nat.le_refl _) ?_
                   intro v8 w8 h8 k8
                   have H8 : Hid (w8.ownsRow w6.heap.size 32 34 v8 (O.take k).length ((O.take k).map StampE.row).flatten ∧ Kept [] w6 w8) := (by rw [List.length_map, Nat.zero_add, List.nil_append] at h8; exact ⟨h8, k8⟩)
                   clear h8 k8)
                | (refine wpList_load_mid (by rfl) 32 (.tmp 82) (by rfl) bA (offA + i * 34) (by rfl) xr _ (HRX.out _ H8.out.2) has rfl hsx ?_)
                | (refine wpList_build_k (by rfl) Try.underlying22 Try.zeroStampI (by decide) (by decide) (.tmp 83) (by rfl) xr (by rfl) hx34 ?_)
                | (refine wpList_append_rows (by rfl) (.tmp 79) (.tmp 84) 22 32 (.agg zeroS.row.toArray) 34 56 Try.underlying22 Try.zeroStampI (by show zeroS.row.toArray.size = 34; rw [List.size_toArray, zeroS.row_len]) (by decide) (by rfl) (by rfl) (ownsK_on H8.out.1 ((Kept.refl [] w8).alloc _) (by simp)) (by rfl) (row_at_new w8 xr 32 34) (by rintro r hr; rw [List.mem_singleton.1 hr]; exact hx34) (by rintro r hr; rw [List.mem_singleton.1 hr]; exact hx1) (by rw [List.length_take]; show min k O.length + 1 ≤ 1000000; omega) (by decide) (Nat.le_trans H8.out.2.size (by rw [World.size_alloc]; omega)) ?_
                   intro v9 w9 h9 k9
                   have H9 : Hid (w9.ownsRow w6.heap.size 32 34 v9 ((O.take k).length + 1) (((O.take k).map StampE.row).flatten ++ xr) ∧ Kept [] w6 w9) := (by
                     refine ⟨?_, (H8.out.2.alloc _).trans k9 (fun y hy => Or.inr (World.ownsRow.lt H8.out.1 y (by simpa using hy)).1)⟩
                     have h := h9
                     rw [List.flatten_cons, List.flatten_nil, List.append_nil] at h
                     exact h)
                   clear h9 k9)
                | (refine wpList_fromA (by rfl) 22 34 (by kernel_rfl) (hsl _) (.tmp 87) (.tmp 88) (by rfl) (some ⟨g6, 0, none⟩) O.length c6 (by rfl) k (k : Int) rfl (by rfl) (by omega) ?_)
                | (refine wpList_append_rows (by rfl) (.tmp 86) (.tmp 89) 22 32 (.agg zeroS.row.toArray) 34 56 Try.underlying22 Try.zeroStampI (by show zeroS.row.toArray.size = 34; rw [List.size_toArray, zeroS.row_len]) (by decide) (by rfl) (by rfl) H9.out.1 (by rfl) (HDP.out _ H9.out.2) srows_len srows_one (by rw [List.length_map, List.length_drop, List.length_take]; omega) (by decide) H9.out.2.size ?_
                   intro v10 w10 h10 k10
                   have H10 : Hid (StampOwn w10 w1.heap.size v10 (O.take k ++ x :: O.drop k) ∧ Kept [] w1 w10) := (by
                     have kk := H9.out.2.trans k10 (fun y hy => Or.inr (World.ownsRow.lt H9.out.1 y (by simpa using hy)).1)
                     refine ⟨?_, HO6.out.2.then kk⟩
                     refine StampOwn.low (B := w6.heap.size) ?_ HSZ.out
                     unfold StampOwn
                     rw [List.length_map, List.append_assoc] at h10
                     rw [List.map_append, List.flatten_append, List.map_cons, List.flatten_cons, List.length_append, List.length_cons, HXR.out]
                     rw [show (O.take k).length + ((O.drop k).length + 1) = (O.take k).length + 1 + (O.drop k).length by omega]
                     exact h10)
                   clear h10 k10))
              go_roundw
              case rel => exact ⟨i + 1, O.take k ++ x :: O.drop k, by omega, by go_num, HMI.out, by rw [List.length_append, List.length_cons, List.length_take, List.length_drop]; omega, H10.out.1, H10.out.2⟩
              case measure => simp [intOf]; omega
        · have k1 : ¬ ((k : Int) < (O.length : Int)) := by omega
          have tk : decide ((k : Int) < (O.length : Int)) = false := decide_eq_false k1
          have HMI : Hid (MergedTo (AL.take (i + 1)) (O.take k ++ x :: O.drop k)) := by
            have h : MergedTo (AL.take (i + 1)) (O.take k ++ x :: O.drop k) := by
              rw [HTK0.out]
              refine HM.out.ins (fun j z hj hz => HI.out.1 j z hj hz) fun z hz => ?_
              rw [List.getElem?_eq_none (by omega)] at hz
              cases hz
            exact h
          generalize hxr : x.row = xr at *
          have HXR : Hid (x.row = xr) := hxr
          clear hxr
          go_wp2_with fail
          refine region_quiet (Kept [] wr) (by kernel_rfl) (by kernel_rfl) ((Kept.refl [] wr).drew) ?_
          with_reducible refine wpQuiet_step ?_
          intro K hK
          rw [if_pos (by kernel_rfl)]
          refine move_at (.tmp 8) rfl (.int .i64 (k : Int)) rfl (hK _ ?_)
          clear hK K
          simp only [Act.put, List.setIfInBounds_toArray, List.set_cons_zero, List.set_cons_succ]
          with_reducible refine wpQuiet_step ?_
          intro K hK
          rw [if_pos (by kernel_rfl)]
          refine move_at (.tmp 6) rfl (.slice a6 O.length c6) rfl (hK _ ?_)
          clear hK K
          simp only [Act.put, List.setIfInBounds_toArray, List.set_cons_zero, List.set_cons_succ]
          with_reducible refine wpQuiet_step ?_
          intro K hK
          rw [if_pos (by kernel_rfl)]
          refine val_at (.int .i64 (O.length : Int)) (fun W => by go_simp) (hK _ ?_)
          clear hK K
          simp only [Act.put, List.setIfInBounds_toArray, List.set_cons_zero, List.set_cons_succ]
          with_reducible refine wpQuiet_step ?_
          intro K hK
          rw [if_pos (by kernel_rfl)]
          refine val_at (.bool false) (fun W => by go_simp) (hK _ ?_)
          clear hK K
          simp only [Act.put, List.setIfInBounds_toArray, List.set_cons_zero, List.set_cons_succ]
          with_reducible refine wpQuiet_step ?_
          intro K hK
          rw [if_pos (by kernel_rfl)]
          refine move_at (.tmp 25) rfl (.bool false) rfl (hK _ ?_)
          clear hK K
          simp only [Act.put, List.setIfInBounds_toArray, List.set_cons_zero, List.set_cons_succ]
          with_reducible refine wpQuiet_step ?_
          intro K hK
          rw [if_neg (not_of_false (by kernel_rfl))]
          refine hK _ ?_
          clear hK K
          simp only [Act.put, List.setIfInBounds_toArray, List.set_cons_zero, List.set_cons_succ]
          with_reducible refine wpQuiet_step ?_
          intro K hK
          rw [if_neg (not_of_false (by kernel_rfl))]
          refine hK _ ?_
          clear hK K
          simp only [Act.put, List.setIfInBounds_toArray, List.set_cons_zero, List.set_cons_succ]
          with_reducible refine wpQuiet_step ?_
          intro K hK
          rw [if_neg (not_of_false (by kernel_rfl))]
          refine hK _ ?_
          clear hK K
          simp only [Act.put, List.setIfInBounds_toArray, List.set_cons_zero, List.set_cons_succ]
          with_reducible refine wpQuiet_step ?_
          intro K hK
          rw [if_neg (not_of_false (by kernel_rfl))]
          refine hK _ ?_
          clear hK K
          simp only [Act.put, List.setIfInBounds_toArray, List.set_cons_zero, List.set_cons_succ]
          with_reducible refine wpQuiet_step ?_
          intro K hK
          rw [if_neg (not_of_false (by kernel_rfl))]
          refine hK _ ?_
          clear hK K
          simp only [Act.put, List.setIfInBounds_toArray, List.set_cons_zero, List.set_cons_succ]
          with_reducible refine wpQuiet_step ?_
          intro K hK
          rw [if_neg (not_of_false (by kernel_rfl))]
          refine hK _ ?_
          clear hK K
          simp only [Act.put, List.setIfInBounds_toArray, List.set_cons_zero, List.set_cons_succ]
          with_reducible refine wpQuiet_step ?_
          intro K hK
          rw [if_neg (not_of_false (by kernel_rfl))]
          refine hK _ ?_
          clear hK K
          simp only [Act.put, List.setIfInBounds_toArray, List.set_cons_zero, List.set_cons_succ]
          with_reducible refine wpQuiet_step ?_
          intro K hK
          rw [if_neg (not_of_false (by kernel_rfl))]
          refine hK _ ?_
          clear hK K
          simp only [Act.put, List.setIfInBounds_toArray, List.set_cons_zero, List.set_cons_succ]
          with_reducible refine wpQuiet_step ?_
          intro K hK
          rw [if_neg (not_of_false (by kernel_rfl))]
          refine hK _ ?_
          clear hK K
          simp only [Act.put, List.setIfInBounds_toArray, List.set_cons_zero, List.set_cons_succ]
          with_reducible refine wpQuiet_step ?_
          intro K hK
          rw [if_neg (not_of_false (by kernel_rfl))]
          refine hK _ ?_
          clear hK K
          simp only [Act.put, List.setIfInBounds_toArray, List.set_cons_zero, List.set_cons_succ]
          with_reducible refine wpQuiet_step ?_
          intro K hK
          rw [if_neg (not_of_false (by kernel_rfl))]
          refine hK _ ?_
          clear hK K
          simp only [Act.put, List.setIfInBounds_toArray, List.set_cons_zero, List.set_cons_succ]
          with_reducible refine wpQuiet_step ?_
          intro K hK
          rw [if_pos (by kernel_rfl)]
          refine val_at (.bool false) (fun W => by go_simp) (hK _ ?_)
          clear hK K
          simp only [Act.put, List.setIfInBounds_toArray, List.set_cons_zero, List.set_cons_succ]
          refine wpQuiet_nil fun w5 hk5 => ?_
          have HK5 : Hid (Kept [] wr w5) := hk5
          clear hk5
          go_wp2_with fail
          refine region_quiet (Kept [] wr) (by kernel_rfl) (by kernel_rfl) (HK5.out.drew) ?_
          with_reducible refine wpQuiet_step ?_
          intro K hK
          rw [if_pos (by kernel_rfl)]
          refine move_at (.tmp 8) rfl (.int .i64 (k : Int)) rfl (hK _ ?_)
          clear hK K
          simp only [Act.put, List.setIfInBounds_toArray, List.set_cons_zero, List.set_cons_succ]
          with_reducible refine wpQuiet_step ?_
          intro K hK
          rw [if_pos (by kernel_rfl)]
          refine move_at (.tmp 6) rfl (.slice a6 O.length c6) rfl (hK _ ?_)
          clear hK K
          simp only [Act.put, List.setIfInBounds_toArray, List.set_cons_zero, List.set_cons_succ]
          with_reducible refine wpQuiet_step ?_
          intro K hK
          rw [if_pos (by kernel_rfl)]
          refine val_at (.int .i64 (O.length : Int)) (fun W => by go_simp) (hK _ ?_)
          clear hK K
          simp only [Act.put, List.setIfInBounds_toArray, List.set_cons_zero, List.set_cons_succ]
          with_reducible refine wpQuiet_step ?_
          intro K hK
          rw [if_pos (by kernel_rfl)]
          refine val_at (.bool false) (fun W => by go_simp) (hK _ ?_)
          clear hK K
          simp only [Act.put, List.setIfInBounds_toArray, List.set_cons_zero, List.set_cons_succ]
          with_reducible refine wpQuiet_step ?_
          intro K hK
          rw [if_pos (by kernel_rfl)]
          refine move_at (.tmp 44) rfl (.bool false) rfl (hK _ ?_)
          clear hK K
          simp only [Act.put, List.setIfInBounds_toArray, List.set_cons_zero, List.set_cons_succ]
          with_reducible refine wpQuiet_step ?_
          intro K hK
          rw [if_neg (not_of_false (by kernel_rfl))]
          refine hK _ ?_
          clear hK K
          simp only [Act.put, List.setIfInBounds_toArray, List.set_cons_zero, List.set_cons_succ]
          with_reducible refine wpQuiet_step ?_
          intro K hK
          rw [if_neg (not_of_false (by kernel_rfl))]
          refine hK _ ?_
          clear hK K
          simp only [Act.put, List.setIfInBounds_toArray, List.set_cons_zero, List.set_cons_succ]
          with_reducible refine wpQuiet_step ?_
          intro K hK
          rw [if_neg (not_of_false (by kernel_rfl))]
          refine hK _ ?_
          clear hK K
          simp only [Act.put, List.setIfInBounds_toArray, List.set_cons_zero, List.set_cons_succ]
          with_reducible refine wpQuiet_step ?_
          intro K hK
          rw [if_neg (not_of_false (by kernel_rfl))]
          refine hK _ ?_
          clear hK K
          simp only [Act.put, List.setIfInBounds_toArray, List.set_cons_zero, List.set_cons_succ]
          with_reducible refine wpQuiet_step ?_
          intro K hK
          rw [if_neg (not_of_false (by kernel_rfl))]
          refine hK _ ?_
          clear hK K
          simp only [Act.put, List.setIfInBounds_toArray, List.set_cons_zero, List.set_cons_succ]
          with_reducible refine wpQuiet_step ?_
          intro K hK
          rw [if_neg (not_of_false (by kernel_rfl))]
          refine hK _ ?_
          clear hK K
          simp only [Act.put, List.setIfInBounds_toArray, List.set_cons_zero, List.set_cons_succ]
          with_reducible refine wpQuiet_step ?_
          intro K hK
          rw [if_neg (not_of_false (by kernel_rfl))]
          refine hK _ ?_
          clear hK K
          simp only [Act.put, List.setIfInBounds_toArray, List.set_cons_zero, List.set_cons_succ]
          with_reducible refine wpQuiet_step ?_
          intro K hK
          rw [if_neg (not_of_false (by kernel_rfl))]
          refine hK _ ?_
          clear hK K
          simp only [Act.put, List.setIfInBounds_toArray, List.set_cons_zero, List.set_cons_succ]
          with_reducible refine wpQuiet_step ?_
          intro K hK
          rw [if_neg (not_of_false (by kernel_rfl))]
          refine hK _ ?_
          clear hK K
          simp only [Act.put, List.setIfInBounds_toArray, List.set_cons_zero, List.set_cons_succ]
          with_reducible refine wpQuiet_step ?_
          intro K hK
          rw [if_neg (not_of_false (by kernel_rfl))]
          refine hK _ ?_
          clear hK K
          simp only [Act.put, List.setIfInBounds_toArray, List.set_cons_zero, List.set_cons_succ]
          with_reducible refine wpQuiet_step ?_
          intro K hK
          rw [if_neg (not_of_false (by kernel_rfl))]
          refine hK _ ?_
          clear hK K
          simp only [Act.put, List.setIfInBounds_toArray, List.set_cons_zero, List.set_cons_succ]
          with_reducible refine wpQuiet_step ?_
          intro K hK
          rw [if_pos (by kernel_rfl)]
          refine val_at (.bool false) (fun W => by go_simp) (hK _ ?_)
          clear hK K
          simp only [Act.put, List.setIfInBounds_toArray, List.set_cons_zero, List.set_cons_succ]
          refine wpQuiet_nil fun w6 hk6 => ?_
          have HK6 : Hid (Kept [] wr w6) := hk6
          clear hk6
          have HO6 : Hid (StampOwn w6 w1.heap.size (.slice a6 O.length c6) O ∧ Kept [] w1 w6) := ⟨HI.out.2.1.on HK6.out (by simp), HI.out.2.2.then HK6.out⟩
          have HSZ : Hid (w1.heap.size ≤ w6.heap.size) := HO6.out.2.size
          have HRX : Hid (∀ W, Kept [] w6 W → W.rangeAt bA (offA + i * 34) xr) := fun W q => (FX.out W (HK6.out.then q)).2
          have hsl : ∀ W : World, (sizeOf 32).run Try.prog W = .ok 34 W := fun W => Try.sizeOf32 W
          have HNIL : Hid (w6.ownsRow w6.heap.size 32 34 (.slice none 0 0) 0 []) := StampOwn.nil w6 w6.heap.size
          have h6 : O.length ≤ c6 := h6c
          have k6 : k ≤ O.length := hk
          clear FX
          have HTK : Hid (∀ W, Kept [] w6 W → RowsAt W (.slice a6 k c6) 34 ((O.take k).map StampE.row)) := fun W q => by
            have h := RowsAt.take (m := k) (show RowsAt W (.slice a6 O.length c6) 34 (O.map StampE.row) from (HO6.out.1.on q (by simp)).at (by omega)) (by rw [List.length_map]; exact k6)
            rwa [← List.map_take] at h
          have HDP : Hid (∀ W, Kept [] w6 W → RowsAt W (.slice (if c6 = k then (a6 : Option Addr) else (a6 : Option Addr).map (·.add (k * 34))) (O.length - k) (c6 - k)) 34 ((O.drop k).map StampE.row)) := fun W q => by
            have h := RowsAt.drop (m := k) (show RowsAt W (.slice a6 O.length c6) 34 (O.map StampE.row) from (HO6.out.1.on q (by simp)).at (by omega)) (by rw [List.length_map]; exact k6)
            rwa [← List.map_drop] at h
          go_wp2_with (first
            | (refine wpList_uptoA (by rfl) 22 34 (by kernel_rfl) (hsl _) (.tmp 75) (.tmp 76) (by rfl) a6 O.length c6 (by rfl) k (k : Int) rfl (by rfl) (by omega) ?_)
            | (refine wpList_append_rows (by rfl) (.tmp 74) (.tmp 77) 22 32 (.agg zeroS.row.toArray) 34 56 Try.underlying22 Try.zeroStampI (by show zeroS.row.toArray.size = 34; rw [List.size_toArray, zeroS.row_len]) (by decide) (by rfl) (by rfl) HNIL.out (by rfl) (HTK.out _ (Kept.refl _ _)) srows_len srows_one (by rw [List.length_map, List.length_take]; omega) (by decide) (Nat.le_refl _) ?_
               intro v8 w8 h8 k8
               have H8 : Hid (w8.ownsRow w6.heap.size 32 34 v8 (O.take k).length ((O.take k).map StampE.row).flatten ∧ Kept [] w6 w8) := (by rw [List.length_map, Nat.zero_add, List.nil_append] at h8; exact ⟨h8, k8⟩)
               clear h8 k8)
            | (refine wpList_load_mid (by rfl) 32 (.tmp 82) (by rfl) bA (offA + i * 34) (by rfl) xr _ (HRX.out _ H8.out.2) has rfl hsx ?_)
            | (refine wpList_build_k (by rfl) Try.underlying22 Try.zeroStampI (by decide) (by decide) (.tmp 83) (by rfl) xr (by rfl) hx34 ?_)
            | (refine wpList_append_rows (by rfl) (.tmp 79) (.tmp 84) 22 32 (.agg zeroS.row.toArray) 34 56 Try.underlying22 Try.zeroStampI (by show zeroS.row.toArray.size = 34; rw [List.size_toArray, zeroS.row_len]) (by decide) (by rfl) (by rfl) (ownsK_on H8.out.1 ((Kept.refl [] w8).alloc _) (by simp)) (by rfl) (row_at_new w8 xr 32 34) (by rintro r hr; rw [List.mem_singleton.1 hr]; exact hx34) (by rintro r hr; rw [List.mem_singleton.1 hr]; exact hx1) (by rw [List.length_take]; show min k O.length + 1 ≤ 1000000; omega) (by decide) (Nat.le_trans H8.out.2.size (by rw [World.size_alloc]; omega)) ?_
               intro v9 w9 h9 k9
               have H9 : Hid (w9.ownsRow w6.heap.size 32 34 v9 ((O.take k).length + 1) (((O.take k).map StampE.row).flatten ++ xr) ∧ Kept [] w6 w9) := (by
                 refine ⟨?_, (H8.out.2.alloc _).trans k9 (fun y hy => Or.inr (World.ownsRow.lt H8.out.1 y (by simpa using hy)).1)⟩
                 have h := h9
                 rw [List.flatten_cons, List.flatten_nil, List.append_nil] at h
                 exact h)
               clear h9 k9)
            | (refine wpList_fromA (by rfl) 22 34 (by kernel_rfl) (hsl _) (.tmp 87) (.tmp 88) (by rfl) a6 O.length c6 (by rfl) k (k : Int) rfl (by rfl) (by omega) ?_)
            | (refine wpList_append_rows (by rfl) (.tmp 86) (.tmp 89) 22 32 (.agg zeroS.row.toArray) 34 56 Try.underlying22 Try.zeroStampI (by show zeroS.row.toArray.size = 34; rw [List.size_toArray, zeroS.row_len]) (by decide) (by rfl) (by rfl) H9.out.1 (by rfl) (HDP.out _ H9.out.2) srows_len srows_one (by rw [List.length_map, List.length_drop, List.length_take]; omega) (by decide) H9.out.2.size ?_
               intro v10 w10 h10 k10
               have H10 : Hid (StampOwn w10 w1.heap.size v10 (O.take k ++ x :: O.drop k) ∧ Kept [] w1 w10) := (by
                 have kk := H9.out.2.trans k10 (fun y hy => Or.inr (World.ownsRow.lt H9.out.1 y (by simpa using hy)).1)
                 refine ⟨?_, HO6.out.2.then kk⟩
                 refine StampOwn.low (B := w6.heap.size) ?_ HSZ.out
                 unfold StampOwn
                 rw [List.length_map, List.append_assoc] at h10
                 rw [List.map_append, List.flatten_append, List.map_cons, List.flatten_cons, List.length_append, List.length_cons, HXR.out]
                 rw [show (O.take k).length + ((O.drop k).length + 1) = (O.take k).length + 1 + (O.drop k).length by omega]
                 exact h10)
               clear h10 k10))
          go_roundw
          case rel => exact ⟨i + 1, O.take k ++ x :: O.drop k, by omega, by go_num, HMI.out, by rw [List.length_append, List.length_cons, List.length_take, List.length_drop]; omega, H10.out.1, H10.out.2⟩
          case measure => simp [intOf]; omega
    · have t0 : decide ((i : Int) < (AL.length : Int)) = false := decide_eq_false (by omega)
      have t0' : ¬ ((i : Int) < (AL.length : Int)) := by omega
      have HF : Hid (MergedTo AL O) := by
        have h := HM.out
        rw [List.take_of_length_le (by omega)] at h
        exact h
      go_wp2
      go_ret
      exact ⟨_, rfl, O, HF.out, HOW.out.low HS1.out, HW1.out.then HKW.out⟩
end Go.Proofs.Ytmjbaficdoehfaa
