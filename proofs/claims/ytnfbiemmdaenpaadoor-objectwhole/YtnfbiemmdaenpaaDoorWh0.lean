/-
  WALKS: object.objectOf of any content; object.Parse of any bytes.
  PLAIN: an encoding parses; no encoding but a blob's is a beginning of another.
-/
import Derived.Test.YtnfbiemmdaenpaaDoorGp4
namespace Go.Proofs.YtnfbiemmdaenpaaDoor
open Go.RowKit

theorem built_blobO (ao : Option Addr) (n c : Nat) (bl : List Int) : Tryd.prog.built 33 [(0, .int .i64 1), (1, .slice ao n c)] = some ({ kindO 1 with bv := .slice ao n c, blob := bl } : ObjL).row.toArray := by
  rw [Tryd.builtObj, fill_step (fun i => (#[(0, 1), (1, 1), (2, 1), (3, 36), (39, 37)] : Array (Nat × Nat))[i]?) zeroO.row.toArray 0 (.int .i64 1) _ 0 1 rfl rfl (by decide)]
  have e1 : (Value.int .i64 1).cells.toList = [.int .i64 1] := rfl
  rw [e1, setL_put _ _ _ (by decide)]
  have e2 : putL zeroO.row 0 [.int .i64 1] = [.int .i64 1, .slice none 0 0, .slice none 0 0] ++ (zeroC.row (.slice none 0 0) ++ zeroG.row) := put0 _ _ _ _ _
  rw [e2, fill_step (fun i => (#[(0, 1), (1, 1), (2, 1), (3, 36), (39, 37)] : Array (Nat × Nat))[i]?) _ 1 (.slice ao n c) _ 1 1 rfl rfl (by decide)]
  have e3 : (Value.slice ao n c).cells.toList = [.slice ao n c] := rfl
  rw [e3, setL_put _ _ _ (by show 1 + 1 ≤ 76; decide), fill_nil]
  rfl
theorem built_treeO (ao : Option Addr) (n c : Nat) (es : List EntL) : Tryd.prog.built 33 [(0, .int .i64 2), (2, .slice ao n c)] = some ({ kindO 2 with ev := .slice ao n c, es := es } : ObjL).row.toArray := by
  rw [Tryd.builtObj, fill_step (fun i => (#[(0, 1), (1, 1), (2, 1), (3, 36), (39, 37)] : Array (Nat × Nat))[i]?) zeroO.row.toArray 0 (.int .i64 2) _ 0 1 rfl rfl (by decide)]
  have e1 : (Value.int .i64 2).cells.toList = [.int .i64 2] := rfl
  rw [e1, setL_put _ _ _ (by decide)]
  have e2 : putL zeroO.row 0 [.int .i64 2] = [.int .i64 2, .slice none 0 0, .slice none 0 0] ++ (zeroC.row (.slice none 0 0) ++ zeroG.row) := put0 _ _ _ _ _
  rw [e2, fill_step (fun i => (#[(0, 1), (1, 1), (2, 1), (3, 36), (39, 37)] : Array (Nat × Nat))[i]?) _ 2 (.slice ao n c) _ 2 1 rfl rfl (by decide)]
  have e3 : (Value.slice ao n c).cells.toList = [.slice ao n c] := rfl
  rw [e3, setL_put _ _ _ (by show 2 + 1 ≤ 76; decide), fill_nil]
  rfl

set_option maxRecDepth 100000 in
set_option maxHeartbeats 2000000 in
theorem objectOfBlob (ao : Option Addr) (n c : Nat) (bl : List Int) (w : World) :
    Calls Tryd.prog 27 #[.iface 80 (.slice ao n c)] w fun e w' => e = .returned (.agg ({ kindO 1 with bv := .slice ao n c, blob := bl } : ObjL).row.toArray) ∧ Kept [] w w' := by
  have hbl := built_blobO ao n c bl
  have hoz : ({ kindO 1 with bv := .slice ao n c, blob := bl } : ObjL).row.toArray.size = 76 := rfl
  have hos : (Tryd.prog.info? 33).map (·.size) = some ({ kindO 1 with bv := .slice ao n c, blob := bl } : ObjL).row.toArray.size := by rw [hoz]; kernel_rfl
  have hzz : Tryd.zeroCells33.size = ({ kindO 1 with bv := .slice ao n c, blob := bl } : ObjL).row.toArray.size := by rw [hoz]; kernel_rfl
  have hpo : ({ kindO 1 with bv := .slice ao n c, blob := bl } : ObjL).row.toArray.all (·.oneCell') = true := objV_one rfl rfl rfl
  have HZ : Hid ((w.alloc (.cells Tryd.zeroCells33 33)).heap[w.heap.size]? = some (.cells Tryd.zeroCells33 33 (0, 0))) := heap_alloc_new w _
  have HKF : Hid (Kept [] w ((w.alloc (.cells Tryd.zeroCells33 33)).setRow w.heap.size ({ kindO 1 with bv := .slice ao n c, blob := bl } : ObjL).row.toArray)) := kept_setRow ((Kept.refl [] w).alloc _) (Nat.le_refl _) _
  generalize hob : ({ kindO 1 with bv := .slice ao n c, blob := bl } : ObjL).row.toArray = orr at *
  clear hob
  have ta1 : ∀ W, (Instr.typeAssert (.iface 80 (.slice ao n c)) 60 80 true).run Tryd.prog W = .ok (.tuple #[.slice ao n c, .bool true]) W := fun W => by kernel_rfl
  go_enter Tryd.func27, Tryd.ntmps27
  go_wp2_with (first
    | (refine wpList_build_some (by rfl) 33 _ (by rfl) orr (by simp; exact hbl) ?_)
    | (refine wpList_store_row (by rfl) 33 (.tmp 2) (.tmp 12) (by rfl) w.heap.size orr (by rfl) (by rfl) 33 _ HZ.out hos hzz hpo ?_))
  refine bodyPost_ret (v := .agg orr) ?_ rfl ⟨rfl, HKF.out⟩
  rw [results_cell1 rfl]
  exact run_loadVar_row (P := Tryd.prog) _ w.heap.size 33 33 orr (0, 0) _ (setRow_heap _ _ _ _ _ _ HZ.out) Tryd.underlying33 rfl hos
set_option maxRecDepth 100000 in
set_option maxHeartbeats 2000000 in
theorem objectOfTree (ao : Option Addr) (n c : Nat) (es : List EntL) (w : World) :
    Calls Tryd.prog 27 #[.iface 81 (.slice ao n c)] w fun e w' => e = .returned (.agg ({ kindO 2 with ev := .slice ao n c, es := es } : ObjL).row.toArray) ∧ Kept [] w w' := by
  have hbl := built_treeO ao n c es
  have hoz : ({ kindO 2 with ev := .slice ao n c, es := es } : ObjL).row.toArray.size = 76 := rfl
  have hos : (Tryd.prog.info? 33).map (·.size) = some ({ kindO 2 with ev := .slice ao n c, es := es } : ObjL).row.toArray.size := by rw [hoz]; kernel_rfl
  have hzz : Tryd.zeroCells33.size = ({ kindO 2 with ev := .slice ao n c, es := es } : ObjL).row.toArray.size := by rw [hoz]; kernel_rfl
  have hpo : ({ kindO 2 with ev := .slice ao n c, es := es } : ObjL).row.toArray.all (·.oneCell') = true := objV_one rfl rfl rfl
  have HZ : Hid ((w.alloc (.cells Tryd.zeroCells33 33)).heap[w.heap.size]? = some (.cells Tryd.zeroCells33 33 (0, 0))) := heap_alloc_new w _
  have HKF : Hid (Kept [] w ((w.alloc (.cells Tryd.zeroCells33 33)).setRow w.heap.size ({ kindO 2 with ev := .slice ao n c, es := es } : ObjL).row.toArray)) := kept_setRow ((Kept.refl [] w).alloc _) (Nat.le_refl _) _
  generalize hob : ({ kindO 2 with ev := .slice ao n c, es := es } : ObjL).row.toArray = orr at *
  clear hob
  have ta1 : ∀ W, (Instr.typeAssert (.iface 81 (.slice ao n c)) 60 80 true).run Tryd.prog W = .ok (.tuple #[.slice none 0 0, .bool false]) W := fun W => by kernel_rfl
  have ta2 : ∀ W, (Instr.typeAssert (.iface 81 (.slice ao n c)) 60 81 true).run Tryd.prog W = .ok (.tuple #[.slice ao n c, .bool true]) W := fun W => by kernel_rfl
  go_enter Tryd.func27, Tryd.ntmps27
  go_wp2_with (first
    | (refine wpList_build_some (by rfl) 33 _ (by rfl) orr (by simp; exact hbl) ?_)
    | (refine wpList_store_row (by rfl) 33 (.tmp 2) (.tmp 17) (by rfl) w.heap.size orr (by rfl) (by rfl) 33 _ HZ.out hos hzz hpo ?_))
  refine bodyPost_ret (v := .agg orr) ?_ rfl ⟨rfl, HKF.out⟩
  rw [results_cell1 rfl]
  exact run_loadVar_row (P := Tryd.prog) _ w.heap.size 33 33 orr (0, 0) _ (setRow_heap _ _ _ _ _ _ HZ.out) Tryd.underlying33 rfl hos
/-- objectOf, of what a read has answered. -/
theorem objectOf_any {xs : List Int} {bv ev pv : Value} {W0 : World} (hk : 1 ≤ xAt xs 0 ∧ xAt xs 0 ≤ 4) (hg : ObjL.Good W0 (guessO xs bv ev pv)) (w : World) :
    Calls Tryd.prog 27 #[conV (guessO xs bv ev pv)] w fun e w' => e = .returned (.agg (guessO xs bv ev pv).row.toArray) ∧ Kept [] w w' := by
  by_cases k1 : xAt xs 0 = 1
  · rw [guessO_blob k1] at hg ⊢
    obtain ⟨ao, c, hv, _⟩ := hg.bv
    have hv : bv = .slice ao (xs.drop 1).length c := hv
    rw [hv]
    exact objectOfBlob ao _ c (xs.drop 1) w
  · by_cases k2 : xAt xs 0 = 2
    · rw [guessO_tree k2] at hg ⊢
      obtain ⟨ao, c, hv, _⟩ := hg.ev.form
      have hv : ev = .slice ao (gTree xs).length c := hv
      rw [hv]
      exact objectOfTree ao _ c (gTree xs) w
    · by_cases k3 : xAt xs 0 = 3
      · rw [guessO_com k3] at hg ⊢
        obtain ⟨ao, c, hv, _⟩ := hg.pv
        have hv : pv = .slice ao (gCom xs).parents.length c := hv
        rw [hv]
        exact objectOfCom (gCom xs) _ w hg.com.tree.1 (comO_one (gCom xs) _ rfl) (com_one (gCom xs) _ rfl)
      · have k4 : xAt xs 0 = 4 := by omega
        rw [guessO_tag k4] at hg ⊢
        exact objectOfTag (gTag xs) w hg.tag.target.1 (tagO_one (gTag xs)) (tag_one (gTag xs))
theorem parErr_zero {xs : List Int} (h : parErr xs = 0) : xs.length ≤ 65536 ∧ 1 ≤ xAt xs 0 ∧ xAt xs 0 ≤ 4 := by
  unfold parErr at h
  split at h
  · exact absurd h (by decide)
  · split at h
    · exact absurd h (by decide)
    · rename_i h1 h2
      have := Classical.not_not.1 h2
      omega

/-- As ParA; and the lists are new memory. -/
def ParF (w : World) (xs : List Int) (e : Ending) (w' : World) : Prop :=
  ∃ o, e = .returned (.tuple #[.agg o.row.toArray, .int .i64 (parErr xs)]) ∧ ObjL.Good w' o ∧ Kept [] w w' ∧ (parErr xs = 0 → ∃ bv ev pv, o = guessO xs bv ev pv) ∧ (parErr xs ≠ 0 → o = zeroO) ∧
    ∀ b, (blkOf o.bv = some b ∨ blkOf o.ev = some b ∨ blkOf o.pv = some b) → w.heap.size ≤ b
set_option maxRecDepth 100000 in
set_option maxHeartbeats 4000000 in
/-- object.Parse, of any bytes. -/
theorem Parse_new (v : Value) (xs : List Int) (w : World) (hv : BytesAt w v xs) (ho : Octs xs) (hT : Tabs w) : Calls Tryd.prog 9 #[v] w (ParF w xs) := by
  have k0 : Kept [] w (w.alloc (.cells Tryd.zeroCells33 33)) := (Kept.refl _ _).alloc _
  have hrd := read_any v xs _ (hv.keep k0 (fun _ _ _ => by simp)) ho (hT.kept k0)
  have HK0 : Hid (Kept [] w (w.alloc (.cells Tryd.zeroCells33 33))) := k0
  have HZ : Hid ((w.alloc (.cells Tryd.zeroCells33 33)).heap[w.heap.size]? = some (.cells Tryd.zeroCells33 33 (0, 0))) := heap_alloc_new w _
  have hun := Tryd.underlying33
  obtain ⟨ao, cap, rfl, _⟩ := hv
  by_cases her : parErr xs = 0
  · obtain ⟨_, hk1, hk4⟩ := parErr_zero her
    clear ho hT k0
    go_enter Tryd.func9, Tryd.ntmps9
    go_wp2_with fail
    go_at_call 26
    refine hrd.mono ?_
    rintro e w1 ⟨k1, _, hok⟩
    obtain ⟨bv, ev, pv, rfl, hg1, hlow⟩ := hok her
    have hob := objectOf_any ⟨hk1, hk4⟩ hg1
    have hlow2 : ∀ b, (blkOf (guessO xs bv ev pv).bv = some b ∨ blkOf (guessO xs bv ev pv).ev = some b ∨ blkOf (guessO xs bv ev pv).pv = some b) → b ≠ w.heap.size := fun b hb => by
      have h := hlow b hb
      rw [World.size_alloc] at h
      omega
    have hoz : (guessO xs bv ev pv).row.toArray.size = 76 := by rw [List.size_toArray]; exact objL_len hg1.com.tree.1 hg1.tag.target.1
    have hos : (Tryd.prog.info? 33).map (·.size) = some (guessO xs bv ev pv).row.toArray.size := by rw [hoz]; kernel_rfl
    have hzz : Tryd.zeroCells33.size = (guessO xs bv ev pv).row.toArray.size := by rw [hoz]; kernel_rfl
    have hpo : (guessO xs bv ev pv).row.toArray.all (·.oneCell') = true := objL_one hg1
    have HK1 : Hid (Kept [] w w1) := HK0.out.then k1
    have HZ1 : Hid (w1.heap[w.heap.size]? = some (.cells Tryd.zeroCells33 33 (0, 0))) := k1.heap HZ.out (by simp)
    have HGW : Hid (∀ W, Kept [] w1 W → ObjL.Good (W.setRow w.heap.size (guessO xs bv ev pv).row.toArray) (guessO xs bv ev pv)) := fun W k => good_keep (hg1.kept k) ⟨rfl, rfl, rfl, by simp [World.setRow], fun j _ hn => setRow_other _ _ j _ (fun e => hn (by simp [e]))⟩ hlow2
    have HFin : Hid (∀ W e, e = .returned (.tuple #[.agg (guessO xs bv ev pv).row.toArray, .int .i64 0]) → Kept [] w W → ObjL.Good W (guessO xs bv ev pv) → ParF w xs e W) := fun W e he hk hg => ⟨guessO xs bv ev pv, by rw [her]; exact he, hg, hk, fun _ => ⟨bv, ev, pv, rfl⟩, fun h => absurd her h, fun b hb => by
      have h := hlow b hb
      rw [World.size_alloc] at h
      omega⟩
    clear hrd k1 hg1 hlow hlow2 hok
    generalize conV (guessO xs bv ev pv) = cv at *
    generalize hor : (guessO xs bv ev pv).row.toArray = orr at *
    clear hor
    go_wp2_with fail
    go_at_call 27
    refine (hob _).mono ?_
    rintro e w2 ⟨rfl, k2⟩
    have HK2 : Hid (Kept [] w w2) := HK1.out.then k2
    have HZ2 : Hid (w2.heap[w.heap.size]? = some (.cells Tryd.zeroCells33 33 (0, 0))) := k2.heap HZ1.out (by simp)
    have HG2 := HGW.out w2 k2
    clear hob k2
    go_wp2_with (refine wpList_store_row (by rfl) 33 (.tmp 2) (.tmp 16) (by rfl) w.heap.size orr (by rfl) (by rfl) 33 _ HZ2.out hos hzz hpo ?_)
    refine bodyPost_ret (v := .tuple #[.agg orr, .int .i64 0]) ?_ rfl (HFin.out _ _ rfl (kept_setRow HK2.out (Nat.le_refl _) _) HG2)
    rw [results_cell_tmp rfl]
    have hld := run_loadVar_row (P := Tryd.prog) _ w.heap.size 33 33 orr (0, 0) _ (setRow_heap _ _ _ _ _ _ HZ2.out) hun rfl hos
    simp [asAddr, Result.andThen, hld]
  · have hbz := built_zero
    have hzz : Tryd.zeroCells33.size = zeroO.row.toArray.size := by kernel_rfl
    have hzs : (Tryd.prog.info? 33).map (·.size) = some zeroO.row.toArray.size := by kernel_rfl
    have hz1 : zeroO.row.toArray.all (·.oneCell') = true := by kernel_rfl
    have HFin : Hid (∀ W e, e = .returned (.tuple #[.agg zeroO.row.toArray, .int .i64 (parErr xs)]) → Kept [] w W → ParF w xs e W) := fun W e he hk => ⟨zeroO, he, zeroO_good W, hk, fun h => absurd h her, fun _ => rfl, fun b hb => by
      rcases hb with h | h | h <;> cases h⟩
    have hne0 : (parErr xs != 0) = true := bne_iff_ne.2 her
    clear ho hT k0
    generalize hzr : zeroO.row.toArray = zr at *
    clear hzr
    go_enter Tryd.func9, Tryd.ntmps9
    go_wp2_with fail
    go_at_call 26
    refine hrd.mono ?_
    rintro e w1 ⟨k1, hbad, _⟩
    obtain rfl := hbad her
    have HK1 : Hid (Kept [] w w1) := HK0.out.then k1
    have HZ1 : Hid (w1.heap[w.heap.size]? = some (.cells Tryd.zeroCells33 33 (0, 0))) := k1.heap HZ.out (by simp)
    clear hrd k1 hbad
    generalize parErr xs = er at *
    go_wp2_with (first
      | (refine wpList_build_some (by rfl) 33 _ (by rfl) zr (by simp; exact hbz) ?_)
      | (refine wpList_store_row (by rfl) 33 (.tmp 2) (.tmp 13) (by rfl) w.heap.size zr (by rfl) (by rfl) 33 _ HZ1.out hzs hzz hz1 ?_))
    refine bodyPost_ret (v := .tuple #[.agg zr, .int .i64 er]) ?_ rfl (HFin.out _ _ rfl (kept_setRow HK1.out (Nat.le_refl _) _))
    rw [results_cell_tmp rfl]
    have hld := run_loadVar_row (P := Tryd.prog) _ w.heap.size 33 33 zr (0, 0) _ (setRow_heap _ _ _ _ _ _ HZ1.out) hun rfl hzs
    simp [asAddr, Result.andThen, hld]
theorem Parse_any (v : Value) (xs : List Int) (w : World) (hv : BytesAt w v xs) (ho : Octs xs) (hT : Tabs w) : Calls Tryd.prog 9 #[v] w (ParA w xs) :=
  (Parse_new v xs w hv ho hT).mono fun _ _ ⟨o, h1, h2, h3, h4, h5, _⟩ => ⟨o, h1, h2, h3, h4, h5⟩
end Go.Proofs.YtnfbiemmdaenpaaDoor

namespace Go.Proofs.YtnfbiemmdaenpaaDoor
open Go.RowKit

theorem xAt_app {xs tl : List Int} (h : xs ≠ []) : xAt (xs ++ tl) 0 = xAt xs 0 := by
  cases xs with
  | nil => exact absurd rfl h
  | cons x xs => rfl
theorem xAt_take {xs : List Int} {k : Nat} (h : 0 < k) : xAt (xs.take k) 0 = xAt xs 0 := by
  cases xs with
  | nil => simp
  | cons x xs =>
    cases k with
    | zero => omega
    | succ k => rfl
theorem par_ne {xs : List Int} (h : parErr xs = 0) : xs ≠ [] := fun e => by
  subst e
  have := (parErr_zero h).2.1
  exact absurd this (by decide)
theorem par_gok {xs : List Int} (h : parErr xs = 0) : gOk xs = true := by
  obtain ⟨h1, h2, h3⟩ := parErr_zero h
  rw [parErr_kind (by omega) ⟨h2, h3⟩] at h
  split at h
  · assumption
  · exact absurd h (by decide)
theorem par_nil : parErr [] = 30 := by
  unfold parErr
  rw [if_neg (by decide), if_pos (by decide)]
theorem par_blob {xs : List Int} (hl : xs.length ≤ 65536) (hk : xAt xs 0 = 1) (hne : xs ≠ []) : parErr xs = 0 := by
  rw [parErr_kind (by omega) ⟨by omega, by omega⟩, if_pos (gok_blob hk hne)]
theorem gTree_good {xs : List Int} (ho : Octs xs) (hl : xs.length ≤ 65536) : ∀ e, e ∈ gTree xs → e.Good := fun e he => gEnts_good ho hl _ _ e he
/-- Of two encodings the one that begins with the other is it, unless it is a blob's. -/
theorem par_free {xs tl : List Int} (ho : Octs xs) (h1 : parErr xs = 0) (h2 : parErr (xs ++ tl) = 0) (hk : xAt xs 0 ≠ 1) : tl = [] := by
  have hne := par_ne h1
  have g1 := par_gok h1
  have g2 := par_gok h2
  obtain ⟨hl, k1, k4⟩ := parErr_zero h1
  have ek : xAt (xs ++ tl) 0 = xAt xs 0 := xAt_app hne
  have key : xs ++ tl = xs → tl = [] := fun h => by
    have := congrArg List.length h
    rw [List.length_append] at this
    exact List.eq_nil_of_length_eq_zero (by omega)
  rcases (by omega : xAt xs 0 = 2 ∨ xAt xs 0 = 3 ∨ xAt xs 0 = 4) with h | h | h
  · obtain ⟨f1, e1⟩ := (gok_tree h).1 g1
    obtain ⟨f2, e2⟩ := (gok_tree (ek.trans h)).1 g2
    have hg := gTree_encT (gTree xs) (faultT_zero f1).1 (ents_fit (gTree_good ho hl) f1) tl
    rw [e1] at hg
    rw [hg, e1] at e2
    exact key e2.symm
  · obtain ⟨f1, e1⟩ := (gok_com h).1 g1
    obtain ⟨f2, e2⟩ := (gok_com (ek.trans h)).1 g2
    have hg := gCom_encT (gCom xs) (com_fit (gCom_good ho hl) f1) tl
    rw [e1] at hg
    rw [hg, e1] at e2
    exact key e2.symm
  · obtain ⟨f1, e1⟩ := (gok_tag h).1 g1
    obtain ⟨f2, e2⟩ := (gok_tag (ek.trans h)).1 g2
    have hg := gTag_encT (gTag xs) (tag_fit (gTag_good ho hl) f1) tl
    rw [e1] at hg
    rw [hg, e1] at e2
    exact key e2.symm
theorem par_take {xs : List Int} {k : Nat} (ho : Octs xs) (h : parErr xs = 0) (hk : xAt xs 0 ≠ 1) (hlt : k < xs.length) : parErr (xs.take k) ≠ 0 := fun h1 => by
  have hne := par_ne h1
  have h0 : 0 < k := by
    rcases Nat.eq_zero_or_pos k with e | e
    · subst e; exact absurd (List.take_zero) hne
    · exact e
  have := par_free (xs := xs.take k) (tl := xs.drop k) (fun u hu => ho u (List.mem_of_mem_take hu)) h1 (by rw [List.take_append_drop]; exact h) (by rw [xAt_take h0]; exact hk)
  have := congrArg List.length this
  rw [List.length_drop] at this
  exact absurd this (by show xs.length - k ≠ 0; omega)
theorem par_long {xs : List Int} {b : Int} (ho : Octs xs) (h : parErr xs = 0) (hk : xAt xs 0 ≠ 1) (hl : xs.length < 65536) : parErr (xs ++ [b]) = 37 := by
  have hne := par_ne h
  obtain ⟨_, k1, k4⟩ := parErr_zero h
  have ek : xAt (xs ++ [b]) 0 = xAt xs 0 := xAt_app hne
  rw [parErr_kind (by rw [List.length_append, List.length_singleton]; omega) (by rw [ek]; exact ⟨k1, k4⟩)]
  by_cases hg : gOk (xs ++ [b]) = true
  · have h2 : parErr (xs ++ [b]) = 0 := by rw [parErr_kind (by rw [List.length_append, List.length_singleton]; omega) (by rw [ek]; exact ⟨k1, k4⟩), if_pos hg]
    exact absurd (par_free ho h h2 hk) (by simp)
  · rw [if_neg hg]

theorem encB_at (b : List Int) : xAt (encB b) 0 = 1 ∧ encB b ≠ [] ∧ (encB b).drop 1 = b := by
  have e : fixedB 1 1 = [1] := fixedB_one 1 (by decide) (by decide)
  unfold encB
  rw [e]
  exact ⟨rfl, by simp, rfl⟩
theorem encT_at (es : List EntL) : xAt (encT es) 0 = 2 := by
  have e : fixedB 2 1 = [2] := fixedB_one 2 (by decide) (by decide)
  unfold encT
  rw [e]
  rfl
theorem encC_at (c : ComL) : xAt (encC c) 0 = 3 := by
  have e : fixedB 3 1 = [3] := fixedB_one 3 (by decide) (by decide)
  unfold encC
  rw [e]
  rfl
theorem encG_at (t : TagL) : xAt (encG t) 0 = 4 := by
  have e : fixedB 4 1 = [4] := fixedB_one 4 (by decide) (by decide)
  unfold encG
  rw [e]
  rfl
theorem errO_zero {o : ObjL} (h : errO o = 0) : faultO o = 0 ∧ (encO o).length ≤ 65536 := by
  unfold errO encErr at h
  split at h
  · contradiction
  · split at h
    · exact absurd h (by decide)
    · exact ⟨by omega, by omega⟩
/-- What belongs to its kind. -/
def onlyO (o : ObjL) (bv ev pv : Value) : ObjL :=
  if o.kind = 1 then { kindO 1 with bv := bv, blob := o.blob } else if o.kind = 2 then { kindO 2 with ev := ev, es := o.es }
  else if o.kind = 3 then { kindO 3 with com := o.com, pv := pv } else { kindO 4 with tag := o.tag }
theorem enc_kind {o : ObjL} (h : errO o = 0) : o.kind = 1 ∨ o.kind = 2 ∨ o.kind = 3 ∨ o.kind = 4 := by
  have hf := (errO_zero h).1
  unfold faultO at hf
  by_cases k1 : o.kind = 1
  · exact .inl k1
  · by_cases k2 : o.kind = 2
    · exact .inr (.inl k2)
    · by_cases k3 : o.kind = 3
      · exact .inr (.inr (.inl k3))
      · by_cases k4 : o.kind = 4
        · exact .inr (.inr (.inr k4))
        · rw [if_neg k1, if_neg k2, if_neg k3, if_neg k4] at hf
          exact absurd hf (by decide)
/-- An encoding, parsed. -/
theorem enc_par {w : World} {o : ObjL} (hg : ObjL.Good w o) (h : errO o = 0) : parErr (encO o) = 0 ∧ ∀ bv ev pv, guessO (encO o) bv ev pv = onlyO o bv ev pv := by
  obtain ⟨hf, hl⟩ := errO_zero h
  rcases enc_kind h with k | k | k | k
  · have ee : encO o = encB o.blob := by unfold encO; rw [if_pos k]
    rw [ee] at hl ⊢
    obtain ⟨a1, a2, a3⟩ := encB_at o.blob
    refine ⟨par_blob hl a1 a2, fun bv ev pv => ?_⟩
    rw [guessO_blob a1, a3]
    unfold onlyO
    rw [if_pos k]
  · have ee : encO o = encT o.es := by unfold encO; rw [if_neg (by omega), if_pos k]
    have ef : faultO o = faultT o.es := by unfold faultO; rw [if_neg (by omega), if_pos k]
    rw [ee] at hl ⊢
    rw [ef] at hf
    have a1 := encT_at o.es
    have hgt := gTree_enc o.es (faultT_zero hf).1 (ents_fit hg.es hf)
    refine ⟨?_, fun bv ev pv => ?_⟩
    · rw [parErr_kind (by omega) ⟨by omega, by omega⟩, if_pos ((gok_tree a1).2 (by rw [hgt]; exact ⟨hf, rfl⟩))]
    · rw [guessO_tree a1, hgt]
      unfold onlyO
      rw [if_neg (by omega), if_pos k]
  · have ee : encO o = encC o.com := by unfold encO; rw [if_neg (by omega), if_neg (by omega), if_pos k]
    have ef : faultO o = faultC o.com := by unfold faultO; rw [if_neg (by omega), if_neg (by omega), if_pos k]
    rw [ee] at hl ⊢
    rw [ef] at hf
    have a1 := encC_at o.com
    have hgt := gCom_enc o.com (com_fit hg.com hf)
    refine ⟨?_, fun bv ev pv => ?_⟩
    · rw [parErr_kind (by omega) ⟨by omega, by omega⟩, if_pos ((gok_com a1).2 (by rw [hgt]; exact ⟨hf, rfl⟩))]
    · rw [guessO_com a1, hgt]
      unfold onlyO
      rw [if_neg (by omega), if_neg (by omega), if_pos k]
  · have ee : encO o = encG o.tag := by unfold encO; rw [if_neg (by omega), if_neg (by omega), if_neg (by omega), if_pos k]
    have ef : faultO o = faultG o.tag := by unfold faultO; rw [if_neg (by omega), if_neg (by omega), if_neg (by omega), if_pos k]
    rw [ee] at hl ⊢
    rw [ef] at hf
    have a1 := encG_at o.tag
    have hgt := gTag_enc o.tag (tag_fit hg.tag hf)
    refine ⟨?_, fun bv ev pv => ?_⟩
    · rw [parErr_kind (by omega) ⟨by omega, by omega⟩, if_pos ((gok_tag a1).2 (by rw [hgt]; exact ⟨hf, rfl⟩))]
    · rw [guessO_tag a1, hgt]
      unfold onlyO
      rw [if_neg (by omega), if_neg (by omega), if_neg (by omega)]
theorem octs_varN (n : Nat) (h : n ≤ 140737488351232) : Octs (varB n) := varB_octs _ (by omega) (by omega)
theorem octs_encO {w : World} {o : ObjL} (hg : ObjL.Good w o) (h : errO o = 0) : Octs (encO o) := by
  rcases enc_kind h with k | k | k | k
  · rw [show encO o = encB o.blob by unfold encO; rw [if_pos k]]
    exact octs_app (fixedB_octs _ _) hg.blob.1
  · rw [show encO o = encT o.es by unfold encO; rw [if_neg (by omega), if_pos k]]
    have hl : o.es.length ≤ 140737488351232 := by obtain ⟨_, _, _, _, h, _⟩ := hg.ev.form; exact h
    refine octs_app (octs_app (fixedB_octs _ _) (octs_varN _ hl)) ?_
    intro u hu
    unfold entsB at hu
    obtain ⟨e, he, hu⟩ := List.mem_flatMap.1 hu
    have hge := hg.es e he
    exact (octs_app (octs_app (fixedB_octs _ _) (octs_app (octs_varN _ hge.name.2) hge.name.1)) hge.id.2 : Octs (entB e)) u hu
  · rw [show encO o = encC o.com by unfold encO; rw [if_neg (by omega), if_neg (by omega), if_pos k]]
    have hl : o.com.parents.length ≤ 140737488351232 := by obtain ⟨_, _, _, _, _, h, _⟩ := hg.pv; exact h
    have hpo : Octs o.com.parents.flatten := fun u hu => by
      obtain ⟨x, hx, hu⟩ := List.mem_flatten.1 hu
      exact (hg.com.parents x hx).2 u hu
    unfold encC
    exact octs_app (octs_app (octs_app (octs_app (octs_app (octs_app (octs_app (octs_app (fixedB_octs _ _) hg.com.tree.2) (octs_varN _ hl)) hpo) (octs_varN _ hg.com.who.2)) hg.com.who.1) (fixedB_octs _ _)) (octs_varN _ hg.com.text.2)) hg.com.text.1
  · rw [show encO o = encG o.tag by unfold encO; rw [if_neg (by omega), if_neg (by omega), if_neg (by omega), if_pos k]]
    unfold encG
    exact octs_app (octs_app (octs_app (octs_app (octs_app (octs_app (octs_app (octs_app (octs_app (fixedB_octs _ _) hg.tag.target.2) (fixedB_octs _ _)) (octs_varN _ hg.tag.name.2)) hg.tag.name.1) (octs_varN _ hg.tag.who.2)) hg.tag.who.1) (fixedB_octs _ _)) (octs_varN _ hg.tag.text.2)) hg.tag.text.1
end Go.Proofs.YtnfbiemmdaenpaaDoor
