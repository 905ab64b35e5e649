/-
  WALK: satchellaw2.shortPlaced.
-/
import Derived.Test.YtonnapjbplknlaaShort8
namespace Go.Proofs.Ytonnapjbplknlaa
open Go.RowKit

def at1 (l : List Int) (i : Nat) : Int := l[i]?.getD 0
/-- The id of place k: one byte of it turned. -/
def tuL (id : List Int) (k : Nat) : List Int := id.set ((k + 2) % 32) (bits .xor .u8 (at1 id ((k + 2) % 32)) 1)
def tuK (id : List Int) (k : Nat) : List (List Int) := (List.range k).map (tuL id)
def plK (id : List Int) (ids : List (List Int)) (k : Nat) : List (List Int) := tuK id k ++ ids.drop k
theorem tuL_good {id : List Int} (h : GoodID id) (k : Nat) : GoodID (tuL id k) := ⟨by unfold tuL; rw [List.length_set]; exact h.1, fun u hu => by
  unfold tuL at hu
  rcases List.mem_or_eq_of_mem_set hu with hm | rfl
  · exact h.2 u hm
  · exact ⟨bits_lo_u8 _ _ _, bits_hi_u8 _ _ _⟩⟩
theorem tuK_good {id : List Int} (h : GoodID id) (k : Nat) : ∀ o, o ∈ tuK id k → GoodID o := fun o ho => by
  obtain ⟨j, _, rfl⟩ := List.mem_map.1 ho
  exact tuL_good h j
theorem tuK_len (id : List Int) (k : Nat) : (tuK id k).length = k := by simp [tuK]
theorem tuK_succ (id : List Int) (k : Nat) : tuK id (k + 1) = tuK id k ++ [tuL id k] := by unfold tuK; rw [List.range_succ, List.map_append]; rfl
theorem plK_good {id : List Int} {ids : List (List Int)} (h : GoodID id) (hg : ∀ o, o ∈ ids → GoodID o) (k : Nat) : ∀ o, o ∈ plK id ids k → GoodID o := fun o ho => by
  rcases List.mem_append.1 ho with hm | hm
  · exact tuK_good h k o hm
  · exact hg o (List.mem_of_mem_drop hm)
theorem plK_len (id : List Int) (ids : List (List Int)) (k : Nat) (hk : k ≤ ids.length) : (plK id ids k).length = ids.length := by unfold plK; rw [List.length_append, tuK_len, List.length_drop]; omega
theorem plK_zero (id : List Int) (ids : List (List Int)) : plK id ids 0 = ids := by simp [plK, tuK]
theorem plK_all (id : List Int) (ids : List (List Int)) : plK id ids ids.length = tuK id ids.length := by simp [plK]
theorem plK_step (id : List Int) (ids : List (List Int)) (k : Nat) (hk : k < ids.length) (x : List Int) : (plK id ids k ++ [markA, markB]).set k x = tuK id k ++ x :: ids.drop (k + 1) ++ [markA, markB] := by
  unfold plK
  rw [List.append_assoc, List.set_append_right _ _ (by rw [tuK_len]; exact Nat.le_refl _), tuK_len, Nat.sub_self, List.drop_eq_getElem_cons hk, List.cons_append, List.set_cons_zero]
  simp
theorem plK_set (id : List Int) (ids : List (List Int)) (k : Nat) (y x : List Int) : (tuK id k ++ y :: ids.drop (k + 1) ++ [markA, markB]).set k x = tuK id k ++ x :: ids.drop (k + 1) ++ [markA, markB] := by
  rw [List.append_assoc, List.set_append_right _ _ (by rw [tuK_len]; exact Nat.le_refl _), tuK_len, Nat.sub_self, List.cons_append, List.set_cons_zero]
  simp
theorem OwnI.above {w : World} {B : Nat} {v : Value} {ids : List (List Int)} (h : OwnI w B v ids) (b : Nat) (hb : v.ownBlock = some b) : B ≤ b := by
  rcases h.2 with ⟨hv, _⟩ | ⟨g, cap', cur, hv, hg, _⟩
  · rw [hv] at hb; cases hb
  · rw [hv] at hb; cases hb; exact hg
theorem plK_succ (id : List Int) (ids : List (List Int)) (k : Nat) : tuK id k ++ tuL id k :: ids.drop (k + 1) = plK id ids (k + 1) := by unfold plK; rw [tuK_succ]; simp

theorem OwnI.cell {w : World} {B g n cap : Nat} {ids : List (List Int)} (h : OwnI w B (.slice (some ⟨g, 0, none⟩) n cap) ids) (hg : ∀ o, o ∈ ids → GoodID o) (i : Nat) (xs : List Int) (hi : ids[i]? = some xs) (j : Nat) (hj : j < 32) : w.cell? ⟨g, i * 32 + j, none⟩ = some (.int .u8 (at1 xs j)) := by
  obtain ⟨cur, hn, hb, hh, hnc, hcm, hcs, hk⟩ := h.cur hg
  have hil : i < ids.length := (List.getElem?_eq_some_iff.1 hi).1
  have h32 := (hg xs (List.mem_of_getElem? hi)).1
  rw [cell_of_row w g _ _ _ _ hh, hk _ (by omega), show (i * 32 + j) / 32 = i by omega, show (i * 32 + j) % 32 = j by omega, List.getElem?_map, hi, Option.map_some, Option.bind_some, idC_at, List.getElem?_map, List.getElem?_eq_getElem (by omega)]
  unfold at1
  rw [List.getElem?_eq_getElem (by omega)]
  rfl
theorem OwnI.frozen {w : World} {B g n cap : Nat} {ids : List (List Int)} (h : OwnI w B (.slice (some ⟨g, 0, none⟩) n cap) ids) (i : Nat) : w.frozen? ⟨g, i, none⟩ = false := by
  rcases h.2 with ⟨hv, _⟩ | ⟨g', cap', cur, hv, hg, hh, rest⟩
  · cases hv
  · cases hv
    exact frozen_of_row w g i _ _ hh

set_option maxRecDepth 100000 in
set_option maxHeartbeats 1000000 in
theorem shortPlaced_any {w : World} {B g cap : Nat} {ids : List (List Int)} {id : List Int} (h : LentI w B g cap ids) (hg : ∀ o, o ∈ ids → GoodID o) (hm : (ids.length + 2) * 32 ≤ 140737488355328) (hid : GoodID id) :
    Calls Try.prog 9 #[.slice (some ⟨g, 0, none⟩) ids.length cap, .agg (idC id)] w fun e w' => e = .returned (.bool true) ∧ Kept [g] w w' := by
  obtain ⟨r1, r2, r3, r4⟩ := h.room
  have hszi : (Try.prog.info? 24).map (·.size) = some (idC id).size := by rw [idC_size hid.1]; exact Try.infoID
  have hsl : (Try.prog.info? 24).map (·.size) = some (id.map (Value.int .u8)).length := by rw [List.length_map, hid.1]; exact Try.infoID
  have hun := Try.underlying24
  have HD : Hid (GoodID id) := hid
  have HG : Hid (∀ o, o ∈ ids → GoodID o) := hg
  obtain ⟨wb, hwb⟩ : ∃ x, x = w.alloc (.cells (idC id) 24) := ⟨_, rfl⟩
  have HKb : Hid (Kept [g] w wb) := by rw [hwb]; exact (Kept.refl _ _).alloc _
  have HB : Hid (wb.heap[w.heap.size]? = some (.cells (idC id) 24 (0, 0))) := by rw [hwb]; exact heap_alloc_new w _
  have hbs : wb.heap.size = w.heap.size + 1 := by rw [hwb, World.size_alloc]
  have HBX : Hid (∀ W, Kept [g] wb W → W.heap[w.heap.size]? = some (.cells (idC id) 24 (0, 0))) := fun W k => k.heap HB.out (by simp; omega)
  have HL0 : Hid (LentI wb B g cap ids) := LentI.kept h (by rw [hwb]; exact (Kept.refl [] w).alloc _) (by simp)
  have HS0 : Hid (∀ W, LentI W B g cap ids → Calls Try.prog 5 #[.slice (some ⟨g, 0, none⟩) ids.length cap, .agg (idC id)] W fun e w' => e = .returned (.string (strOfNums ((hexL id).take (sizeL ids id)))) ∧ Kept [] W w') := fun W hW => Short_any _ ids id W (hW.ids hg hm) hg hid
  clear h hg hid
  subst hwb
  go_enter Try.func9, Try.ntmps9
  go_wp2_with (first
    | (refine wpList_load_row (by rfl) 24 (.tmp 3) (by rfl) w.heap.size (by rfl) 24 (idC id) (0, 0) _ HB.out hun rfl hszi ?_)
    | (go_at_call 5; refine (HS0.out _ HL0.out).mono ?_; rintro e w2 ⟨rfl, hk2⟩
       have HL2 : Hid (LentI w2 B g cap ids) := LentI.kept HL0.out hk2 (by simp)
       have HK2 : Hid (Kept [g] (w.alloc (.cells (idC id) 24)) w2) := hk2.more (by simp)
       clear hk2))
  have H0N : Hid (OwnI w2 (w.heap.size + 1) (.slice none 0 0) (tuK id 0)) := World.ownsRow_nil w2 _ _ _
  go_loopw [5, 6] (fun s5 s6 wr => ∃ k : Nat, k ≤ ids.length ∧ s6 = .int .i64 k ∧ Hid (LentI wr B g cap (plK id ids k)) ∧ Hid (OwnI wr (w.heap.size + 1) s5 (tuK id k)) ∧ Hid (Kept [g] (w.alloc (.cells (idC id) 24)) wr)) (fun _ s6 _ => ids.length - (intOf s6).toNat)
  case atStart => exact ⟨0, Nat.zero_le _, rfl, by rw [plK_zero]; exact HL2, H0N, HK2⟩
  case round =>
    clear HL2 HK2 H0N HL0 HS0
    obtain ⟨k, hk, rfl, HL, HN, HK⟩ := hrel
    by_cases hlt : k < ids.length
    · have hbx := HBX.out wr HK.out
      have hplen := plK_len id ids k hk
      have HO : Hid (OwnI wr B (.slice (some ⟨g, 0, none⟩) (ids.length + 2) cap) (plK id ids k ++ [markA, markB])) := by
        have h := HL.out
        unfold LentI at h
        rw [hplen] at h
        exact h
      have HGP : Hid (∀ o, o ∈ plK id ids k ++ [markA, markB] → GoodID o) := goodM _ (plK_good HD.out HG.out k)
      have hkp : k < (plK id ids k ++ [markA, markB]).length := by rw [List.length_append, hplen]; omega
      have HST := plK_step id ids k hlt
      obtain ⟨j, hj⟩ : ∃ j, j = (k + 2) % 32 := ⟨_, rfl⟩
      have hjl : j < 32 := by omega
      have htm : ((k : Int) + 2).tmod 32 = (j : Int) := by
        rw [show (k : Int) + 2 = ((k + 2 : Nat) : Int) by omega, show (32 : Int) = ((32 : Nat) : Int) from rfl, ← Int.ofNat_tmod, hj]
      have HTU : Hid (tuL id k = id.set j (bits .xor .u8 (at1 id j) 1)) := by
        unfold tuL
        rw [← hj]
        exact rfl
      clear hj
      go_wp2_with (first
        | (refine wpList_load_row (by rfl) 24 (.tmp 3) (by rfl) w.heap.size (by rfl) 24 (idC id) (0, 0) _ hbx hun rfl hszi ?_)
        | (refine wpList_put_id (by rfl) (.tmp 19) (.tmp 18) (by rfl) k id (by rfl) (by rfl) HO.out HGP.out hkp HD.out ?_; intro w3 ho3 hk3
           rw [HST id] at ho3
           have hgd3 : ∀ o, o ∈ tuK id k ++ id :: ids.drop (k + 1) ++ [markA, markB] → GoodID o := by rw [← HST id]; exact good_set HGP.out k HD.out
           have hid3 : (tuK id k ++ id :: ids.drop (k + 1) ++ [markA, markB])[k]? = some id := by
             rw [List.append_assoc, List.getElem?_append_right (by rw [tuK_len]; exact Nat.le_refl _), tuK_len, Nat.sub_self]; rfl
           have c3 : w3.cell? ⟨g, k * 32 + j, none⟩ = some (.int .u8 (at1 id j)) := OwnI.cell ho3 hgd3 k id hid3 _ hjl
           have f3 : w3.frozen? ⟨g, k * 32 + j, none⟩ = false := OwnI.frozen ho3 _
           have HO3 : Hid (∀ x, 0 ≤ x ∧ x ≤ 255 → OwnI (w3.setCell ⟨g, k * 32 + j, none⟩ (.int .u8 x)) B (.slice (some ⟨g, 0, none⟩) (ids.length + 2) cap) ((tuK id k ++ id :: ids.drop (k + 1) ++ [markA, markB]).set k (id.set j x))) := fun x hx => ho3.put1 hgd3 k id hid3 _ hjl x hx
           clear hid3 hgd3
           have HK3 : Hid (Kept [g] (w.alloc (.cells (idC id) 24)) w3) := HK.out.then hk3
           have HK33 : Hid (Kept [g] wr w3) := hk3
           clear ho3 hk3))
      simp only [Act.put]
      have hji : (j : Int) < 32 := by omega
      have hw1 : IntKind.i64.wrap ((k : Int) + 2) = (k : Int) + 2 := by rw [IntKind.wrap_i64]; omega
      go_region_law (fail)
      have HX := HO3.out (bits .xor .u8 (at1 id j) 1) ⟨bits_lo_u8 _ _ _, bits_hi_u8 _ _ _⟩
      rw [← HTU.out, plK_set id ids k, plK_succ] at HX
      obtain ⟨w4, hw4⟩ : ∃ x, x = (w3.setCell ⟨g, k * 32 + j, none⟩ (.int .u8 (bits .xor .u8 (at1 id j) 1))).drew := ⟨_, rfl⟩
      rw [← hw4]
      have HL4 : Hid (LentI w4 B g cap (plK id ids (k + 1))) := by
        unfold LentI
        rw [plK_len id ids (k + 1) hlt, hw4]
        exact OwnI.kept HX (Kept.refl [] _).drew (by simp)
      have HK4 : Hid (Kept [g] (w.alloc (.cells (idC id) 24)) w4) := by rw [hw4]; exact (HK3.out.setCell (Or.inl (by simp)) _).drew
      have HK34 : Hid (Kept [g] wr w4) := by rw [hw4]; exact (HK33.out.setCell (Or.inl (by simp)) _).drew
      have HG4 : Hid (∀ o, o ∈ plK id ids (k + 1) → GoodID o) := plK_good HD.out HG.out (k + 1)
      have hr4 : w4.rangeAt g (k * 32) ((tuL id k).map (Value.int .u8)) := HL4.out.range HG4.out (by rw [plK_len id ids (k + 1) hlt]; exact hm) k (tuL id k) (by
        rw [← plK_succ, List.append_assoc, List.getElem?_append_right (by rw [tuK_len]; exact Nat.le_refl _), tuK_len, Nat.sub_self]; rfl)
      have hgt : GoodID (tuL id k) := tuL_good HD.out k
      have hst : (Try.prog.info? 24).map (·.size) = some ((tuL id k).map (Value.int .u8)).length := by rw [List.length_map, hgt.1]; exact Try.infoID
      have hct : ((tuL id k).map (Value.int .u8)).toArray = idC (tuL id k) := rfl
      have HN4 : Hid (OwnI w4 (w.heap.size + 1) u5 (tuK id k)) := OwnI.kept HN.out HK34.out (fun b hb => by
        have := OwnI.above HN.out b hb
        simp
        omega)
      have HGt : Hid (∀ o, o ∈ [tuL id k] → GoodID o) := fun o ho => by rw [List.mem_singleton.1 ho]; exact hgt
      have HSZ4 : Hid (w.heap.size + 1 ≤ w4.heap.size) := by
        have h := HK4.out.size
        rw [hbs] at h
        exact h
      have HTK : Hid (tuK id (k + 1) = tuK id k ++ [tuL id k]) := tuK_succ id k
      clear hw4 HX c3 f3 HO3 htm hji hw1 HTU hbx HO HGP hkp HST HL HN
      generalize tuL id k = tk at *
      go_wp2_with (first
        | (refine wpList_load_mid (by rfl) 24 (.tmp 39) (by rfl) g (k * 32) (by rfl) (tk.map (Value.int .u8)) _ hr4 hun rfl hst ?_; rw [hct])
        | (refine wpList_build_id1 (by rfl) (.tmp 40) (by rfl) tk hgt (by rfl) ?_)
        | (at_builtin; refine wpList_append_ids (B := w.heap.size + 1) (vs := tuK id k) (zs := [tk]) rfl (.tmp 36) (.tmp 41) rfl rfl (OwnI.kept HN4.out ((Kept.refl [] w4).alloc _) (fun _ _ => by simp)) rfl (IdsAt.built w4 [tk] HGt.out (by simp)) HGt.out (by rw [tuK_len]; simp; omega) (Nat.le_trans HSZ4.out (by simp)) ?_; intro v5 w5 ha5
           have HA5 : Hid (AppendedI (w4.alloc (.cells (flatI [tk]).toArray 24)) w5 (w.heap.size + 1) u5 v5 (tuK id k ++ [tk])) := ha5
           clear ha5))
      go_roundw
      case rel =>
        have hk5 : Kept u5.ownBlock.toList w4 w5 := HA5.out.keep w4 _ ((Kept.refl _ _).alloc _) (fun b hb => Or.inl (by rw [hb]; simp))
        refine ⟨k + 1, by omega, by go_num, ?_, ?_, ?_⟩
        · refine LentI.kept HL4.out hk5 fun hb => ?_
          have hb' : u5.ownBlock = some g := by simpa using hb
          have := OwnI.above HN4.out g hb'
          omega
        · have h := HA5.out.own
          rw [← HTK.out] at h
          exact h
        · refine HA5.out.keep _ _ (HK4.out.alloc _) fun b hb => Or.inr ?_
          rw [hbs]
          exact OwnI.above HN4.out b hb
      case measure => simp [intOf]; omega
    · obtain rfl : k = ids.length := by omega
      rw [plK_all] at HL
      have HGT : Hid (∀ o, o ∈ tuK id ids.length → GoodID o) := tuK_good HD.out _
      have htl := tuK_len id ids.length
      have HA : Hid (∀ W, Kept [] wr W → Calls Try.prog 5 #[.slice (some ⟨g, 0, none⟩) ids.length cap, .agg (id.map (Value.int .u8)).toArray] W fun e w' => e = .returned (.string (strOfNums ((hexL id).take (sizeL (tuK id ids.length) id)))) ∧ Kept [] W w') := fun W hW => by
        have h := Short_any _ (tuK id ids.length) id W ((LentI.kept HL.out hW (by simp)).ids HGT.out (by rw [htl]; exact hm)) HGT.out HD.out
        rw [htl] at h
        exact h
      have HBB : Hid (∀ W, Kept [] wr W → Calls Try.prog 12 #[u5, .agg (id.map (Value.int .u8)).toArray] W fun e w' => e = .returned (.string (strOfNums ((hexL id).take (sizeL (tuK id ids.length) id)))) ∧ Kept [] W w') := fun W hW =>
        RShort_any _ (tuK id ids.length) id W (OwnI.good (OwnI.kept HN.out hW (fun _ _ => by simp)) (by rw [htl]; omega) HGT.out) HGT.out HD.out
      have HRX : Hid (∀ W, Kept [] wr W → W.rangeAt w.heap.size 0 (id.map (Value.int .u8))) := fun W hW => fun q v hq => by
        rw [cell_of_row _ _ _ _ _ _ (hW.heap (HBX.out wr HK.out) (by simp)), Nat.zero_add]
        unfold idC
        rw [List.getElem?_toArray]
        exact hq
      have HKW : Hid (∀ W, Kept [] wr W → Kept [g] w W) := fun W hW => ((HKb.out.then HK.out).then (hW.more (by simp)))
      clear htl
      generalize strOfNums ((hexL id).take (sizeL (tuK id ids.length) id)) = ST at *
      go_wp2_with fail
      refine region_quiet (Kept [] wr) (by kernel_rfl) (by kernel_rfl) (Kept.refl [] wr).drew ?_
      refine quiet_move (by rfl) (.tmp 0) rfl (.slice (some ⟨g, 0, none⟩) ids.length cap) rfl ?_
      simp only [Act.put, List.setIfInBounds_toArray, List.set_cons_zero, List.set_cons_succ]
      refine quiet_row (by rfl) _ _ rfl w.heap.size 0 rfl (id.map (Value.int .u8)) _ HRX.out hun rfl hsl ?_
      simp only [Act.put, List.setIfInBounds_toArray, List.set_cons_zero, List.set_cons_succ]
      refine quiet_call (by rfl) 5 #[.slice (some ⟨g, 0, none⟩) ids.length cap, .agg (id.map (Value.int .u8)).toArray] (.string ST) (fun W => by go_simp) (fun W hW => (HA.out W hW).mono fun e w' h => ⟨h.1, hW.then h.2⟩) ?_
      simp only [Act.put, List.setIfInBounds_toArray, List.set_cons_zero, List.set_cons_succ]
      refine quiet_move (by rfl) (.tmp 5) rfl u5 rfl ?_
      simp only [Act.put, List.setIfInBounds_toArray, List.set_cons_zero, List.set_cons_succ]
      refine quiet_row (by rfl) _ _ rfl w.heap.size 0 rfl (id.map (Value.int .u8)) _ HRX.out hun rfl hsl ?_
      simp only [Act.put, List.setIfInBounds_toArray, List.set_cons_zero, List.set_cons_succ]
      refine quiet_call (by rfl) 12 #[u5, .agg (id.map (Value.int .u8)).toArray] (.string ST) (fun W => by go_simp) (fun W hW => (HBB.out W hW).mono fun e w' h => ⟨h.1, hW.then h.2⟩) ?_
      simp only [Act.put, List.setIfInBounds_toArray, List.set_cons_zero, List.set_cons_succ]
      refine quiet_val (by rfl) (.bool true) (fun W => by go_simp) ?_
      simp only [Act.put, List.setIfInBounds_toArray, List.set_cons_zero, List.set_cons_succ]
      refine quiet_assign (by rfl) (.tmp 49) rfl (.bool true) rfl ?_
      simp only [Act.put, List.setIfInBounds_toArray, List.set_cons_zero, List.set_cons_succ]
      refine wpQuiet_nil fun w3 hk3 => ?_
      have HF : Hid (Kept [g] w w3) := HKW.out w3 hk3
      clear hk3
      go_wp2
      go_ret
      exact ⟨rfl, HF.out⟩
end Go.Proofs.Ytonnapjbplknlaa
