/-
  WALK: satchelref3.Parse, of any bytes.
-/
import Derived.Test.YtnfbiemmdaenpaaDoorAppK
import Derived.Test.YtnfbiemmdaenpaaDoorRe1
import Derived.Test.YtnfbiemmdaenpaaDoorOe1
import Derived.Test.YtnfbiemmdaenpaaDoorRCopy
import Derived.Test.YtnfbiemmdaenpaaDoorPar2
import Derived.Test.YtnfbiemmdaenpaaDoorTwin
namespace Go.Proofs.YtnfbiemmdaenpaaDoor
open Go.RowKit

/-- The object that bytes would be, its lists at these places. -/
def guessO (xs : List Int) (bv ev pv : Value) : ObjL :=
  if xAt xs 0 = 1 then { kindO 1 with bv := bv, blob := xs.drop 1 } else if xAt xs 0 = 2 then { kindO 2 with ev := ev, es := gTree xs }
  else if xAt xs 0 = 3 then { kindO 3 with com := gCom xs, pv := pv } else { kindO 4 with tag := gTag xs }
theorem zero32_good : GoodID zero32 := ⟨rfl, fun u hu => by rw [(List.mem_replicate.1 hu).2]; exact ⟨by decide, by decide⟩⟩
theorem goodT_nil : GoodText [] := ⟨fun u hu => by (cases hu), by decide⟩
theorem zeroC_good : zeroC.Good := ⟨zero32_good, (fun o ho => by cases ho), goodT_nil, by decide, by decide, goodT_nil⟩
theorem zeroG_good : zeroG.Good := ⟨zero32_good, by decide, by decide, goodT_nil, goodT_nil, by decide, by decide, goodT_nil⟩
theorem ents_nil (w : World) : EntsAt w (.slice none 0 0) [] := ⟨none, 0, rfl, Nat.le_refl _, fun _ => rfl, by decide, fun h => absurd rfl h⟩
theorem ids_nil (w : World) : IdsAt w (.slice none 0 0) [] := ⟨none, 0, rfl, Nat.le_refl _, fun _ => rfl, by decide, fun h => absurd rfl h⟩
theorem be8 {l : List Int} (h : Octs l) (hl : l.length = 8) : 0 ≤ be l ∧ be l ≤ 18446744073709551615 := by
  have := be_from l h 0 (by decide)
  rw [hl] at this
  have h2 : be l < (0 + 1) * 256 ^ 8 := this.2
  have h3 : 0 ≤ be l := this.1
  omega
theorem txt_good {xs : List Int} (ho : Octs xs) (hl : xs.length ≤ 65536) (p : Nat) : GoodText (txtG xs p) := ⟨txtG_octs ho p, by rw [txtG_len]; unfold txtN; omega⟩
theorem gTag_good {xs : List Int} (ho : Octs xs) (hl : xs.length ≤ 65536) : (gTag xs).Good := by
  have hk := xAt_oct ho (plus xs 1 32)
  have ht := be8 (takeX_octs ho (txtE xs (txtE xs (plus xs (plus xs 1 32) 1))) 8) (takeX_len _ _ _)
  exact ⟨⟨takeX_len _ _ _, takeX_octs ho _ _⟩, by show -9223372036854775808 ≤ xAt xs (plus xs 1 32); omega, by show xAt xs (plus xs 1 32) ≤ 9223372036854775807; omega, txt_good ho hl _, txt_good ho hl _, ht.1, ht.2, txt_good ho hl _⟩
theorem gPars_good {xs : List Int} (ho : Octs xs) : ∀ n p, ∀ o, o ∈ (gPars xs n p).1 → GoodID o
  | 0, p, o, h => by cases h
  | n + 1, p, o, h => by
    unfold gPars at h
    split at h
    · rcases List.mem_cons.1 h with rfl | h
      · exact ⟨takeX_len _ _ _, takeX_octs ho _ _⟩
      · exact gPars_good ho n _ o h
    · cases h
theorem gCom_good {xs : List Int} (ho : Octs xs) (hl : xs.length ≤ 65536) : (gCom xs).Good := by
  have ht := be8 (takeX_octs ho (txtE xs (gPars xs (numG xs (plus xs 1 32)).1.toNat (plus xs (plus xs 1 32) (numG xs (plus xs 1 32)).2)).2) 8) (takeX_len _ _ _)
  exact ⟨⟨takeX_len _ _ _, takeX_octs ho _ _⟩, gPars_good ho _ _, txt_good ho hl _, ht.1, ht.2, txt_good ho hl _⟩

theorem guess_any (v : Value) (xs : List Int) (w : World) (hv : BytesAt w v xs) (ho : Octs xs) (hl : xs.length ≤ 65536) (h1 : 1 ≤ xAt xs 0) (h4 : xAt xs 0 ≤ 4) (hne : xs ≠ []) :
    Calls Tryd.prog 29 #[v] w fun e w' => ∃ bv ev pv, e = .returned (.agg (guessO xs bv ev pv).row.toArray) ∧ ObjL.Good w' (guessO xs bv ev pv) ∧ (∀ b, (blkOf (guessO xs bv ev pv).bv = some b ∨ blkOf (guessO xs bv ev pv).ev = some b ∨ blkOf (guessO xs bv ev pv).pv = some b) → w.heap.size ≤ b) ∧ Kept [] w w' := by
  by_cases k1 : xAt xs 0 = 1
  · refine (guessBlob_any v xs w hv ho hl k1 hne).mono ?_
    rintro e w' ⟨bv, he, hb, hbb, hk⟩
    have eg : ∀ ev pv, guessO xs bv ev pv = { kindO 1 with bv := bv, blob := xs.drop 1 } := fun ev pv => by unfold guessO; rw [if_pos k1]
    refine ⟨bv, .slice none 0 0, .slice none 0 0, by rw [eg]; exact he, by rw [eg]; exact ⟨(by decide : (-9223372036854775808 : Int) ≤ 1), (by decide : (1 : Int) ≤ 9223372036854775807), hb, ⟨octs_drop ho 1, by show (xs.drop 1).length ≤ _; rw [List.length_drop]; omega⟩, ents_nil w', (fun e he => by cases he), ids_nil w', zeroC_good, zeroG_good⟩, fun b h => ?_, hk⟩
    rw [eg] at h
    rcases h with h | h | h
    · exact hbb b h
    · cases h
    · cases h
  · by_cases k2 : xAt xs 0 = 2
    · refine (guessTree_any v xs w hv ho hl k2 hne).mono ?_
      rintro e w' ⟨ev, he, hb, hg, hbb, hk⟩
      have eg : ∀ bv pv, guessO xs bv ev pv = { kindO 2 with ev := ev, es := gTree xs } := fun bv pv => by unfold guessO; rw [if_neg k1, if_pos k2]
      refine ⟨.slice none 0 0, ev, .slice none 0 0, by rw [eg]; exact he, by rw [eg]; exact ⟨(by decide : (-9223372036854775808 : Int) ≤ 2), (by decide : (2 : Int) ≤ 9223372036854775807), BytesAt.nil w', goodT_nil, hb, hg, ids_nil w', zeroC_good, zeroG_good⟩, fun b h => ?_, hk⟩
      rw [eg] at h
      rcases h with h | h | h
      · cases h
      · exact hbb b h
      · cases h
    · by_cases k3 : xAt xs 0 = 3
      · refine (guessCom_any v xs w hv ho hl k3 hne).mono ?_
        rintro e w' ⟨pv, he, hb, hbb, hk⟩
        have eg : ∀ bv ev, guessO xs bv ev pv = { kindO 3 with com := gCom xs, pv := pv } := fun bv ev => by unfold guessO; rw [if_neg k1, if_neg k2, if_pos k3]
        refine ⟨.slice none 0 0, .slice none 0 0, pv, by rw [eg]; exact he, by rw [eg]; exact ⟨(by decide : (-9223372036854775808 : Int) ≤ 3), (by decide : (3 : Int) ≤ 9223372036854775807), BytesAt.nil w', goodT_nil, ents_nil w', (fun e he => by cases he), hb, gCom_good ho hl, zeroG_good⟩, fun b h => ?_, hk⟩
        rw [eg] at h
        rcases h with h | h | h
        · cases h
        · cases h
        · exact hbb b h
      · refine (guessTag_any v xs w hv ho hl (by omega) hne).mono ?_
        rintro e w' ⟨he, hk⟩
        have eg : ∀ bv ev pv, guessO xs bv ev pv = { kindO 4 with tag := gTag xs } := fun bv ev pv => by unfold guessO; rw [if_neg k1, if_neg k2, if_neg k3]
        refine ⟨.slice none 0 0, .slice none 0 0, .slice none 0 0, by rw [eg]; exact he, by rw [eg]; exact ⟨(by decide : (-9223372036854775808 : Int) ≤ 4), (by decide : (4 : Int) ≤ 9223372036854775807), BytesAt.nil w', goodT_nil, ents_nil w', (fun e he => by cases he), ids_nil w', zeroC_good, gTag_good ho hl⟩, fun b h => ?_, hk⟩
        rw [eg] at h
        rcases h with h | h | h
        · cases h
        · cases h
        · cases h
/-- Is the object that the bytes would be right, and are they its encoding? -/
def nilV : Value := .slice none 0 0
def gOk (xs : List Int) : Bool := decide (faultO (guessO xs nilV nilV nilV) = 0) && decide (encO (guessO xs nilV nilV nilV) = xs)
def parErr (xs : List Int) : Int := if 65536 < xs.length then 31 else if ¬ (1 ≤ xAt xs 0 ∧ xAt xs 0 ≤ 4) then 30 else if gOk xs = true then 0 else 37
theorem guessO_same (xs : List Int) (bv ev pv : Value) : faultO (guessO xs bv ev pv) = faultO (guessO xs nilV nilV nilV) ∧ encO (guessO xs bv ev pv) = encO (guessO xs nilV nilV nilV) := by
  unfold guessO
  split
  · exact ⟨rfl, rfl⟩
  · split
    · exact ⟨rfl, rfl⟩
    · split
      · exact ⟨rfl, rfl⟩
      · exact ⟨rfl, rfl⟩
theorem zeroO_good (w : World) : ObjL.Good w zeroO := ⟨by decide, by decide, BytesAt.nil w, goodT_nil, ents_nil w, (fun e he => by cases he), ids_nil w, zeroC_good, zeroG_good⟩
/-- What a Parse answers. -/
def ParA (w : World) (xs : List Int) (e : Ending) (w' : World) : Prop :=
  ∃ o, e = .returned (.tuple #[.agg o.row.toArray, .int .i64 (parErr xs)]) ∧ ObjL.Good w' o ∧ Kept [] w w' ∧ (parErr xs = 0 → ∃ bv ev pv, o = guessO xs bv ev pv) ∧ (parErr xs ≠ 0 → o = zeroO)
theorem built_zero : Tryd.prog.built 33 [] = some zeroO.row.toArray := by rw [Tryd.builtObj, fill_nil]

theorem good_keep {W W' : World} {o : ObjL} {g : Nat} (h : ObjL.Good W o) (k : Kept [g] W W') (hn : ∀ b, (blkOf o.bv = some b ∨ blkOf o.ev = some b ∨ blkOf o.pv = some b) → b ≠ g) : ObjL.Good W' o :=
  ⟨h.lo, h.hi, h.bv.keep k (fun _ b hb e => hn b (Or.inl hb) (by simpa using e)), h.blob, h.ev.keep k (fun _ b hb e => hn b (Or.inr (Or.inl hb)) (by simpa using e)), h.es, h.pv.keep k (fun _ b hb e => hn b (Or.inr (Or.inr hb)) (by simpa using e)), h.com, h.tag⟩
theorem wpList_wantG {P : Program} {ops : Array Oper} {rest : List Oper} {o : Oper} {a : Act} {w : World} {Q : Exit → Act → World → Prop} (hw : Region.wanted o (yielded ops a.tmps) = true)
    (h : ∀ K : Act → World → Prop, (∀ a w, wpList P ops Q rest a w → K a w) → o.wp P a w K Q) : wpList P ops Q (o :: rest) a w :=
  wpList_step fun K hK => by rw [if_pos hw]; exact h K hK
theorem encO_len {w : World} {o : ObjL} (hg : ObjL.Good w o) (hf : faultO o = 0) : (encO o).length ≤ 140737488355328 := by
  unfold encO
  unfold faultO at hf
  split
  · unfold encB
    rw [List.length_append, fixedB_len]
    have := hg.blob.2
    omega
  · rename_i k1
    rw [if_neg k1] at hf
    split
    · rename_i k2
      rw [if_pos k2] at hf
      obtain ⟨hm, hok⟩ := faultT_zero hf
      have := encT_len hm (fun e he => ⟨(hok e he).2.2, (hg.es e he).id.1⟩)
      omega
    · rename_i k2
      rw [if_neg k2] at hf
      split
      · rename_i k3
        rw [if_pos k3] at hf
        obtain ⟨h8, hw, hx⟩ := faultC_zero hf
        have := encC_len h8 hg.com.parents hg.com.tree.1 hw hx
        omega
      · rename_i k3
        rw [if_neg k3] at hf
        split
        · rename_i k4
          rw [if_pos k4] at hf
          obtain ⟨_, _, hn, hw, hx⟩ := faultG_zero hf
          have := encG_len hg.tag.target.1 hn hw hx
          omega
        · simp
theorem parse_ok (xs : List Int) (bv ev pv : Value) (h1 : ¬ 65536 < xs.length) (h2 : 1 ≤ xAt xs 0 ∧ xAt xs 0 ≤ 4) : parErr xs = if faultO (guessO xs bv ev pv) = 0 ∧ encO (guessO xs bv ev pv) = xs then 0 else 37 := by
  unfold parErr gOk
  rw [if_neg h1, if_neg (by simpa using h2), (guessO_same xs bv ev pv).1, (guessO_same xs bv ev pv).2]
  by_cases ha : faultO (guessO xs nilV nilV nilV) = 0
  · by_cases hb : encO (guessO xs nilV nilV nilV) = xs
    · rw [if_pos (by simp [ha, hb]), if_pos ⟨ha, hb⟩]
    · rw [if_neg (by simp [hb]), if_neg (fun h => hb h.2)]
  · rw [if_neg (by simp [ha]), if_neg (fun h => ha h.1)]

set_option maxRecDepth 100000 in
set_option maxHeartbeats 4000000 in
theorem R3Parse_bad (v : Value) (xs : List Int) (w : World) (hv : BytesAt w v xs) (ho : Octs xs) (hm : xs.length ≤ 140737488351232) (hb : 65536 < xs.length ∨ ¬ (1 ≤ xAt xs 0 ∧ xAt xs 0 ≤ 4)) :
    Calls Tryd.prog 14 #[v] w (ParA w xs) := by
  have hun := Tryd.underlying33
  have hbz := built_zero
  have hzz : Tryd.zeroCells33.size = zeroO.row.toArray.size := by kernel_rfl
  have hzs : (Tryd.prog.info? 33).map (·.size) = some zeroO.row.toArray.size := by kernel_rfl
  have hz1 : zeroO.row.toArray.all (·.oneCell') = true := by kernel_rfl
  have HZ : Hid ((w.alloc (.cells Tryd.zeroCells33 33)).heap[w.heap.size]? = some (.cells Tryd.zeroCells33 33 (0, 0))) := heap_alloc_new w _
  have HKF : Hid (Kept [] w ((w.alloc (.cells Tryd.zeroCells33 33)).setRow w.heap.size zeroO.row.toArray)) := kept_setRow ((Kept.refl [] w).alloc _) (Nat.le_refl _) _
  have HGZ : Hid (∀ W, ObjL.Good W zeroO) := zeroO_good
  have HZO : Hid (∃ X, X = zeroO.row.toArray) := ⟨_, rfl⟩
  obtain ⟨er, her⟩ : ∃ er, er = parErr xs := ⟨_, rfl⟩
  have HFin : Hid (∀ W e, e = .returned (.tuple #[.agg zeroO.row.toArray, .int .i64 er]) → er ≠ 0 → Kept [] w W → ParA w xs e W) := fun W e he h0 hk => by
    rw [her] at he h0
    exact ⟨zeroO, he, zeroO_good W, hk, fun h => absurd h h0, fun _ => rfl⟩
  by_cases hlong : 65536 < xs.length
  · have hE : Hid (er = 31) := by show er = 31; rw [her]; unfold parErr; rw [if_pos hlong]
    obtain ⟨ao, cap, rfl, _⟩ := hv
    have t1 : decide ((65536 : Int) < (xs.length : Int)) = true := decide_eq_true (by omega)
    clear her hb ho
    generalize hzr : zeroO.row.toArray = zr at *
    clear hzr
    go_enter Tryd.func14, Tryd.ntmps14
    go_wp2_with (first
      | (refine wpList_build_some (by rfl) 33 _ (by rfl) zr (by simp; exact hbz) ?_)
      | (refine wpList_store_row (by rfl) 33 (.tmp 2) (.tmp 8) (by rfl) w.heap.size zr (by rfl) (by rfl) 33 _ HZ.out hzs hzz hz1 ?_))
    refine bodyPost_ret (v := .tuple #[.agg zr, .int .i64 31]) ?_ rfl (HFin.out _ _ (by rw [hE.out]) (by rw [hE.out]; decide) HKF.out)
    rw [results_cell_tmp rfl]
    have hld := run_loadVar_row (P := Tryd.prog) _ w.heap.size 33 33 zr (0, 0) _ (setRow_heap _ _ _ _ _ _ HZ.out) hun rfl hzs
    simp [asAddr, Result.andThen, hld]
  · have hnk : ¬ (1 ≤ xAt xs 0 ∧ xAt xs 0 ≤ 4) := by
      rcases hb with h | h
      · exact absurd h hlong
      · exact h
    have hE : Hid (er = 30) := by show er = 30; rw [her]; unfold parErr; rw [if_neg hlong, if_pos hnk]
    have t0 : decide ((65536 : Int) < (xs.length : Int)) = false := decide_eq_false (by omega)
    have hxo := xAt_oct ho 0
    rcases hv.parts with ⟨rfl, ao, cap, rfl⟩ | ⟨b, off, cap, rfl, _, hpos, hcell⟩
    · clear her hb ho hv hnk hxo
      generalize hzr : zeroO.row.toArray = zr at *
      clear hzr
      go_enter Tryd.func14, Tryd.ntmps14
      go_wp2_with (first
        | (refine wpList_build_some (by rfl) 33 _ (by rfl) zr (by simp; exact hbz) ?_)
        | (refine wpList_store_row (by rfl) 33 (.tmp 2) (.tmp 24) (by rfl) w.heap.size zr (by rfl) (by rfl) 33 _ HZ.out hzs hzz hz1 ?_))
      refine bodyPost_ret (v := .tuple #[.agg zr, .int .i64 30]) ?_ rfl (HFin.out _ _ (by rw [hE.out]) (by rw [hE.out]; decide) HKF.out)
      rw [results_cell_tmp rfl]
      have hld := run_loadVar_row (P := Tryd.prog) _ w.heap.size 33 33 zr (0, 0) _ (setRow_heap _ _ _ _ _ _ HZ.out) hun rfl hzs
      simp [asAddr, Result.andThen, hld]
    · have hc0 : (w.alloc (.cells Tryd.zeroCells33 33)).cell? ⟨b, off, none⟩ = some (.int .u8 (xAt xs 0)) := ((Kept.refl [] w).alloc _).cell (by have h := hcell 0 hpos; rw [Nat.add_zero] at h; exact h) (by simp)
      have hl0 : ¬ xs.length = 0 := by omega
      have hl1 : ((xs.length : Int) == 0) = false := beq_eq_false_iff_ne.2 (by omega)
      have hl2 : (0 : Int) < (xs.length : Int) := by omega
      clear her hb ho hv hcell
      generalize xAt xs 0 = x at *
      generalize hzr : zeroO.row.toArray = zr at *
      clear hzr
      by_cases h1 : x < 1
      · have t1 : decide (x < 1) = true := decide_eq_true h1
        go_enter Tryd.func14, Tryd.ntmps14
        go_wp2_with (first
          | (refine wpList_build_some (by rfl) 33 _ (by rfl) zr (by simp; exact hbz) ?_)
          | (refine wpList_store_row (by rfl) 33 (.tmp 2) (.tmp 24) (by rfl) w.heap.size zr (by rfl) (by rfl) 33 _ HZ.out hzs hzz hz1 ?_))
        refine bodyPost_ret (v := .tuple #[.agg zr, .int .i64 30]) ?_ rfl (HFin.out _ _ (by rw [hE.out]) (by rw [hE.out]; decide) HKF.out)
        rw [results_cell_tmp rfl]
        have hld := run_loadVar_row (P := Tryd.prog) _ w.heap.size 33 33 zr (0, 0) _ (setRow_heap _ _ _ _ _ _ HZ.out) hun rfl hzs
        simp [asAddr, Result.andThen, hld]
      · have t1 : decide (x < 1) = false := decide_eq_false h1
        have t2 : decide (4 < x) = true := decide_eq_true (by omega)
        go_enter Tryd.func14, Tryd.ntmps14
        go_wp2_with (first
          | (refine wpList_build_some (by rfl) 33 _ (by rfl) zr (by simp; exact hbz) ?_)
          | (refine wpList_store_row (by rfl) 33 (.tmp 2) (.tmp 24) (by rfl) w.heap.size zr (by rfl) (by rfl) 33 _ HZ.out hzs hzz hz1 ?_))
        refine bodyPost_ret (v := .tuple #[.agg zr, .int .i64 30]) ?_ rfl (HFin.out _ _ (by rw [hE.out]) (by rw [hE.out]; decide) HKF.out)
        rw [results_cell_tmp rfl]
        have hld := run_loadVar_row (P := Tryd.prog) _ w.heap.size 33 33 zr (0, 0) _ (setRow_heap _ _ _ _ _ _ HZ.out) hun rfl hzs
        simp [asAddr, Result.andThen, hld]

set_option maxRecDepth 100000 in
set_option maxHeartbeats 4000000 in
theorem R3Parse_good (v : Value) (xs : List Int) (w : World) (hv : BytesAt w v xs) (ho : Octs xs) (hlong : ¬ 65536 < xs.length) (hk : 1 ≤ xAt xs 0 ∧ xAt xs 0 ≤ 4) :
    Calls Tryd.prog 14 #[v] w (ParA w xs) := by
  have hun := Tryd.underlying33
  have hbz := built_zero
  have hzz : Tryd.zeroCells33.size = zeroO.row.toArray.size := by kernel_rfl
  have hzs : (Tryd.prog.info? 33).map (·.size) = some zeroO.row.toArray.size := by kernel_rfl
  have hz1 : zeroO.row.toArray.all (·.oneCell') = true := by kernel_rfl
  have hne : xs ≠ [] := by rintro rfl; simp [xAt] at hk
  have k0 : Kept [] w (w.alloc (.cells Tryd.zeroCells33 33)) := (Kept.refl _ _).alloc _
  have HZ : Hid ((w.alloc (.cells Tryd.zeroCells33 33)).heap[w.heap.size]? = some (.cells Tryd.zeroCells33 33 (0, 0))) := heap_alloc_new w _
  have HK0 : Hid (Kept [] w (w.alloc (.cells Tryd.zeroCells33 33))) := k0
  have hgu := guess_any v xs _ (hv.keep k0 (fun _ _ _ => by simp)) ho (by omega) hk.1 hk.2 hne
  have HV : Hid (∀ W, Kept [] w W → BytesAt W v xs) := fun W k => hv.keep k (fun _ _ _ => by simp)
  obtain ⟨er, her⟩ : ∃ er, er = parErr xs := ⟨_, rfl⟩
  have HER : Hid (er = parErr xs) := her
  have HPO : Hid (∀ bv ev pv, parErr xs = if faultO (guessO xs bv ev pv) = 0 ∧ encO (guessO xs bv ev pv) = xs then 0 else 37) := fun bv ev pv => parse_ok xs bv ev pv hlong hk
  have hnl : xs.length ≤ 65536 := by omega
  rcases hv.parts with ⟨rfl, _⟩ | ⟨b, off, cap, rfl, _, hpos, hcell⟩
  · exact absurd rfl hne
  have hc0 : (w.alloc (.cells Tryd.zeroCells33 33)).cell? ⟨b, off, none⟩ = some (.int .u8 (xAt xs 0)) := k0.cell (by have h := hcell 0 hpos; rw [Nat.add_zero] at h; exact h) (by simp)
  have t0 : decide ((65536 : Int) < (xs.length : Int)) = false := decide_eq_false (by omega)
  have hl0 : ¬ xs.length = 0 := by omega
  have hl1 : ((xs.length : Int) == 0) = false := beq_eq_false_iff_ne.2 (by omega)
  have hl2 : (0 : Int) < (xs.length : Int) := by omega
  have t1 : decide (xAt xs 0 < 1) = false := decide_eq_false (by omega)
  have t2 : decide (4 < xAt xs 0) = false := decide_eq_false (by omega)
  clear her ho hv hcell k0 hne hlong hk
  generalize hzr : zeroO.row.toArray = zr at *
  have HZR : Hid (zeroO.row.toArray = zr) := hzr
  clear hzr
  generalize xAt xs 0 = x at *
  go_enter Tryd.func14, Tryd.ntmps14
  go_wp2_with fail
  go_at_call 29
  refine hgu.mono ?_
  rintro e w1 ⟨bv, ev, pv, rfl, hg1, hlow0, k1⟩
  obtain ⟨o, hoo⟩ : ∃ o, o = guessO xs bv ev pv := ⟨_, rfl⟩
  have HOO : Hid (o = guessO xs bv ev pv) := hoo
  have hpo := HPO.out bv ev pv
  rw [← hoo] at hg1 hpo hlow0 ⊢
  have hlow : ∀ b, (blkOf o.bv = some b ∨ blkOf o.ev = some b ∨ blkOf o.pv = some b) → b ≠ w.heap.size := fun b hb => by
    have h := hlow0 b hb
    rw [World.size_alloc] at h
    omega
  rw [← HER.out] at hpo
  have HEr : Hid (er = if faultO o = 0 ∧ encO o = xs then 0 else 37) := hpo
  have hoz : o.row.toArray.size = 76 := by rw [List.size_toArray]; exact objL_len hg1.com.tree.1 hg1.tag.target.1
  have hos : (Tryd.prog.info? 33).map (·.size) = some o.row.toArray.size := by rw [hoz]; kernel_rfl
  have hozz : Tryd.zeroCells33.size = o.row.toArray.size := by rw [hoz]; kernel_rfl
  have ho1 : o.row.toArray.all (·.oneCell') = true := objL_one hg1
  have HG1 : Hid (∀ W, Kept [] w1 W → ObjL.Good W o) := fun W k => hg1.kept k
  have HK1 : Hid (Kept [] w w1) := HK0.out.then k1
  have HZ1 : Hid (w1.heap[w.heap.size]? = some (.cells Tryd.zeroCells33 33 (0, 0))) := k1.heap HZ.out (by simp)
  have HGK : Hid (∀ W W', ObjL.Good W o → Kept [] w1 W → Kept [w.heap.size] W W' → ObjL.Good W' o) := fun W W' hg _ kF => good_keep hg kF hlow
  have HWr : Hid (∀ W, Kept [] w1 W → Calls Tryd.prog 24 #[.agg o.row.toArray] W fun e w' => e = .returned (.int .i64 (faultO o)) ∧ Kept [] W w') := fun W k => R3Wrong_any o W (hg1.kept k)
  have HLy : Hid (faultO o = 0 → ∀ W, Kept [] w1 W → Calls Tryd.prog 25 #[.agg o.row.toArray] W fun e w' => ∃ v, e = .returned v ∧ OwnB w' W.heap.size v (encO o) ∧ Kept [] W w') := fun hf W k => R3lay_any o W (hg1.kept k) hf
  have HEL : Hid (faultO o = 0 → (encO o).length ≤ 140737488355328) := fun hf => encO_len hg1 hf
  have HO2 : Hid ((w1.alloc (.cells o.row.toArray 33)).heap[w1.heap.size]? = some (.cells o.row.toArray 33 (0, 0))) := heap_alloc_new w1 _
  have HFinZ : Hid (∀ W e, e = .returned (.tuple #[.agg zr, .int .i64 er]) → er ≠ 0 → Kept [] w W → ParA w xs e W) := fun W e he h0 hk => by
    rw [HER.out] at he h0
    rw [← HZR.out] at he
    exact ⟨zeroO, he, zeroO_good W, hk, fun h => absurd h h0, fun _ => rfl⟩
  have HFinO : Hid (∀ W e, e = .returned (.tuple #[.agg o.row.toArray, .int .i64 er]) → er = 0 → Kept [] w W → ObjL.Good W o → ParA w xs e W) := fun W e he h0 hk hg => by
    rw [HER.out] at he h0
    exact ⟨o, he, hg, hk, fun _ => ⟨bv, ev, pv, HOO.out⟩, fun h => absurd h0 h⟩
  clear hgu hg1 k1 hpo hoo HPO hlow hlow0
  generalize hor : o.row.toArray = orr at *
  have k2 : Kept [] w1 (w1.alloc (.cells orr 33)) := (Kept.refl _ _).alloc _
  have hwr := HWr.out _ k2
  have hlay := HLy
  obtain ⟨fv, hfv⟩ : ∃ fv, fv = faultO o := ⟨_, rfl⟩
  rw [← hfv] at hwr
  by_cases hf0 : fv = 0
  · have hly := HLy.out (hfv.symm.trans hf0)
    have hel := HEL.out (hfv.symm.trans hf0)
    have HEr2 : Hid (er = if encO o = xs then 0 else 37) := by
      show er = _
      rw [HEr.out]
      by_cases he : encO o = xs
      · rw [if_pos ⟨hfv.symm.trans hf0, he⟩, if_pos he]
      · rw [if_neg (fun h => he h.2), if_neg he]
    subst hf0
    clear HLy hlay HEL hfv HEr
    generalize encO o = E at *
    go_wp2_with (first
      | (refine wpList_store_new (by rfl) 33 (.tmp 4) (.tmp 26) (by rfl) w1 _ orr (by rfl) (by rfl) hos hozz ho1 ?_)
      | (refine wpList_load_row (by rfl) 33 (.tmp 4) (by rfl) w1.heap.size (by rfl) 33 orr (0, 0) _ HO2.out hun rfl hos ?_))
    go_at_call 24
    refine hwr.mono ?_
    rintro e w3 ⟨rfl, k3⟩
    have HK13 : Hid (Kept [] w1 w3) := ((Kept.refl [] w1).alloc _).then k3
    have HO3 : Hid (w3.heap[w1.heap.size]? = some (.cells orr 33 (0, 0))) := k3.heap HO2.out (by simp)
    clear hwr k3 HO2
    have hr3 := row_range (cs := orr.toList) (w := w3) (b := w1.heap.size) (t := 33) (fr := (0, 0)) (by rw [Array.toArray_toList]; exact HO3.out)
    have hosl : (Tryd.prog.info? 33).map (·.size) = some orr.toList.length := by rw [Array.length_toList]; exact hos
    have hly3 := hly w3 HK13.out
    rw [← Array.toArray_toList (xs := orr)] at hly3
    go_wp2_with (refine wpList_wantG (by rfl) (fun K hK => wp_load_mid 33 (.tmp 4) (by rfl) w1.heap.size 0 (by rfl) orr.toList _ hr3 hun rfl hosl (hK _ _ ?_)))
    go_at_call 25
    refine hly3.mono ?_
    rintro e w4 ⟨v4, rfl, o4, k4⟩
    obtain ⟨ao4, cap4, rfl⟩ := own_shape o4
    have HK14 : Hid (Kept [] w1 w4) := HK13.out.then k4
    have HO4 : Hid (w4.heap[w1.heap.size]? = some (.cells orr 33 (0, 0))) := k4.heap HO3.out (by simp)
    have heq := Eq_any (OwnB.bytes o4) (HV.out w4 (HK1.out.then HK14.out)) hel (by omega)
    clear hly hly3 o4 k4 hr3 HO3
    go_wp2_with fail
    go_at_call 12
    refine heq.mono ?_
    rintro e w5 ⟨rfl, n5, hw5⟩
    have kd : Kept [] w4 w5 := by rw [hw5]; exact (Kept.refl [] w4).drewN n5
    have HK15 : Hid (Kept [] w1 w5) := HK14.out.then kd
    have HO5 : Hid (w5.heap[w1.heap.size]? = some (.cells orr 33 (0, 0))) := kd.heap HO4.out (by simp)
    have HKE : Hid (Kept [] w w5) := HK1.out.then HK15.out
    have HZE : Hid (w5.heap[w.heap.size]? = some (.cells Tryd.zeroCells33 33 (0, 0))) := HK15.out.heap HZ1.out (by simp)
    clear heq kd hw5 HO4 HK14 HK13
    by_cases he : E = xs
    · have hE : Hid (er = 0) := by show er = 0; rw [HEr2.out, if_pos he]
      rw [decide_eq_true he]
      have HGF : Hid (ObjL.Good (w5.setRow w.heap.size orr) o) := by
        have hg5 := HG1.out w5 HK15.out
        have hZs := HZE.out
        have kF : Kept [w.heap.size] w5 (w5.setRow w.heap.size orr) := ⟨rfl, rfl, rfl, by simp [World.setRow], fun j _ hn => setRow_other _ _ j _ (fun e => hn (by simp [e]))⟩
        exact HGK.out w5 _ hg5 HK15.out kF
      clear he HEr2
      go_wp2_with (first
        | (refine wpList_load_row (by rfl) 33 (.tmp 4) (by rfl) w1.heap.size (by rfl) 33 orr (0, 0) _ HO5.out hun rfl hos ?_)
        | (refine wpList_store_row (by rfl) 33 (.tmp 2) (.tmp 38) (by rfl) w.heap.size orr (by rfl) (by rfl) 33 _ HZE.out hos hozz ho1 ?_))
      refine bodyPost_ret (v := .tuple #[.agg orr, .int .i64 0]) ?_ rfl (HFinO.out _ _ (by rw [hE.out]) hE.out (kept_setRow HKE.out (Nat.le_refl _) _) HGF.out)
      rw [results_cell_tmp rfl]
      have hld := run_loadVar_row (P := Tryd.prog) _ w.heap.size 33 33 orr (0, 0) _ (setRow_heap _ _ _ _ _ _ HZE.out) hun rfl hos
      simp [asAddr, Result.andThen, hld]
    · have hE : Hid (er = 37) := by show er = 37; rw [HEr2.out, if_neg he]
      rw [decide_eq_false he]
      clear he HEr2
      go_wp2_with (first
        | (refine wpList_build_some (by rfl) 33 _ (by rfl) zr (by simp; exact hbz) ?_)
        | (refine wpList_store_row (by rfl) 33 (.tmp 2) (.tmp 37) (by rfl) w.heap.size zr (by rfl) (by rfl) 33 _ HZE.out hzs hzz hz1 ?_))
      refine bodyPost_ret (v := .tuple #[.agg zr, .int .i64 37]) ?_ rfl (HFinZ.out _ _ (by rw [hE.out]) (by rw [hE.out]; decide) (kept_setRow HKE.out (Nat.le_refl _) _))
      rw [results_cell_tmp rfl]
      have hld := run_loadVar_row (P := Tryd.prog) _ w.heap.size 33 33 zr (0, 0) _ (setRow_heap _ _ _ _ _ _ HZE.out) hun rfl hzs
      simp [asAddr, Result.andThen, hld]
  · have hE : Hid (er = 37) := by show er = 37; rw [HEr.out, if_neg (fun h => hf0 (hfv.trans h.1))]
    have hne0 : (fv != 0) = true := bne_iff_ne.2 hf0
    clear HLy hlay HEL HFinO hfv HG1 HEr
    go_wp2_with (first
      | (refine wpList_store_new (by rfl) 33 (.tmp 4) (.tmp 26) (by rfl) w1 _ orr (by rfl) (by rfl) hos hozz ho1 ?_)
      | (refine wpList_load_row (by rfl) 33 (.tmp 4) (by rfl) w1.heap.size (by rfl) 33 orr (0, 0) _ HO2.out hun rfl hos ?_))
    go_at_call 24
    refine hwr.mono ?_
    rintro e w3 ⟨rfl, k3⟩
    have HK13 : Hid (Kept [] w1 w3) := ((Kept.refl [] w1).alloc _).then k3
    have HO3 : Hid (w3.heap[w1.heap.size]? = some (.cells orr 33 (0, 0))) := k3.heap HO2.out (by simp)
    clear hwr k3 HO2
    have HKE : Hid (Kept [] w w3) := HK1.out.then HK13.out
    have HZE : Hid (w3.heap[w.heap.size]? = some (.cells Tryd.zeroCells33 33 (0, 0))) := HK13.out.heap HZ1.out (by simp)
    go_wp2_with (first
      | (refine wpList_build_some (by rfl) 33 _ (by rfl) zr (by simp; exact hbz) ?_)
      | (refine wpList_store_row (by rfl) 33 (.tmp 2) (.tmp 37) (by rfl) w.heap.size zr (by rfl) (by rfl) 33 _ HZE.out hzs hzz hz1 ?_))
    refine bodyPost_ret (v := .tuple #[.agg zr, .int .i64 37]) ?_ rfl (HFinZ.out _ _ (by rw [hE.out]) (by rw [hE.out]; decide) (kept_setRow HKE.out (Nat.le_refl _) _))
    rw [results_cell_tmp rfl]
    have hld := run_loadVar_row (P := Tryd.prog) _ w.heap.size 33 33 zr (0, 0) _ (setRow_heap _ _ _ _ _ _ HZE.out) hun rfl hzs
    simp [asAddr, Result.andThen, hld]
end Go.Proofs.YtnfbiemmdaenpaaDoor
