/-
  WALKS: object.objectOf of any content; object.Parse of any bytes.
  A STORE OF ENCODINGS: each entry is what object.Parse takes, under its own digest.
-/
import Derived.Test.YtddhhjgegkkjbaaGreatDoorGp4
import Derived.Test.YtddhhjgegkkjbaaGreatDoorBack0
import Derived.Test.YtddhhjgegkkjbaaGreatDoorAll1
namespace Go.Proofs.YtddhhjgegkkjbaaGreatDoor
open Go.RowKit

theorem built_blobO (ao : Option Addr) (n c : Nat) (bl : List Int) : Tryz.prog.built 61 [(0, .int .i64 1), (1, .slice ao n c)] = some ({ kindO 1 with bv := .slice ao n c, blob := bl } : ObjL).row.toArray := by
  rw [Tryz.builtObj, fill_step (fun i => (#[(0, 1), (1, 1), (2, 1), (3, 36), (39, 37)] : Array (Nat × Nat))[i]?) zeroO.row.toArray 0 (.int .i64 1) _ 0 1 rfl rfl (by decide)]
  have e1 : (Value.int .i64 1).cells.toList = [.int .i64 1] := rfl
  rw [e1, setL_put _ _ _ (by decide)]
  have e2 : putL zeroO.row 0 [.int .i64 1] = [.int .i64 1, .slice none 0 0, .slice none 0 0] ++ (zeroC.row (.slice none 0 0) ++ zeroG.row) := put0 _ _ _ _ _
  rw [e2, fill_step (fun i => (#[(0, 1), (1, 1), (2, 1), (3, 36), (39, 37)] : Array (Nat × Nat))[i]?) _ 1 (.slice ao n c) _ 1 1 rfl rfl (by decide)]
  have e3 : (Value.slice ao n c).cells.toList = [.slice ao n c] := rfl
  rw [e3, setL_put _ _ _ (by show 1 + 1 ≤ 76; decide), fill_nil]
  rfl
theorem built_treeO (ao : Option Addr) (n c : Nat) (es : List EntL) : Tryz.prog.built 61 [(0, .int .i64 2), (2, .slice ao n c)] = some ({ kindO 2 with ev := .slice ao n c, es := es } : ObjL).row.toArray := by
  rw [Tryz.builtObj, fill_step (fun i => (#[(0, 1), (1, 1), (2, 1), (3, 36), (39, 37)] : Array (Nat × Nat))[i]?) zeroO.row.toArray 0 (.int .i64 2) _ 0 1 rfl rfl (by decide)]
  have e1 : (Value.int .i64 2).cells.toList = [.int .i64 2] := rfl
  rw [e1, setL_put _ _ _ (by decide)]
  have e2 : putL zeroO.row 0 [.int .i64 2] = [.int .i64 2, .slice none 0 0, .slice none 0 0] ++ (zeroC.row (.slice none 0 0) ++ zeroG.row) := put0 _ _ _ _ _
  rw [e2, fill_step (fun i => (#[(0, 1), (1, 1), (2, 1), (3, 36), (39, 37)] : Array (Nat × Nat))[i]?) _ 2 (.slice ao n c) _ 2 1 rfl rfl (by decide)]
  have e3 : (Value.slice ao n c).cells.toList = [.slice ao n c] := rfl
  rw [e3, setL_put _ _ _ (by show 2 + 1 ≤ 76; decide), fill_nil]
  rfl

set_option maxRecDepth 100000 in
set_option maxHeartbeats 2000000 in
theorem objectOfBlob (ao : Option Addr) (n c : Nat) (bl : List Int) (w : World) :
    Calls Tryz.prog 35 #[.iface 98 (.slice ao n c)] w fun e w' => e = .returned (.agg ({ kindO 1 with bv := .slice ao n c, blob := bl } : ObjL).row.toArray) ∧ Kept [] w w' := by
  have hbl := built_blobO ao n c bl
  have hoz : ({ kindO 1 with bv := .slice ao n c, blob := bl } : ObjL).row.toArray.size = 76 := rfl
  have hos : (Tryz.prog.info? 61).map (·.size) = some ({ kindO 1 with bv := .slice ao n c, blob := bl } : ObjL).row.toArray.size := by rw [hoz]; kernel_rfl
  have hzz : Tryz.zeroCells61.size = ({ kindO 1 with bv := .slice ao n c, blob := bl } : ObjL).row.toArray.size := by rw [hoz]; kernel_rfl
  have hpo : ({ kindO 1 with bv := .slice ao n c, blob := bl } : ObjL).row.toArray.all (·.oneCell') = true := objV_one rfl rfl rfl
  have HZ : Hid ((w.alloc (.cells Tryz.zeroCells61 61)).heap[w.heap.size]? = some (.cells Tryz.zeroCells61 61 (0, 0))) := heap_alloc_new w _
  have HKF : Hid (Kept [] w ((w.alloc (.cells Tryz.zeroCells61 61)).setRow w.heap.size ({ kindO 1 with bv := .slice ao n c, blob := bl } : ObjL).row.toArray)) := kept_setRow ((Kept.refl [] w).alloc _) (Nat.le_refl _) _
  generalize hob : ({ kindO 1 with bv := .slice ao n c, blob := bl } : ObjL).row.toArray = orr at *
  clear hob
  have ta1 : ∀ W, (Instr.typeAssert (.iface 98 (.slice ao n c)) 81 98 true).run Tryz.prog W = .ok (.tuple #[.slice ao n c, .bool true]) W := fun W => by kernel_rfl
  go_enter Tryz.func35, Tryz.ntmps35
  go_wp2_with (first
    | (refine wpList_build_some (by rfl) 61 _ (by rfl) orr (by simp; exact hbl) ?_)
    | (refine wpList_store_row (by rfl) 61 (.tmp 2) (.tmp 12) (by rfl) w.heap.size orr (by rfl) (by rfl) 61 _ HZ.out hos hzz hpo ?_))
  refine bodyPost_ret (v := .agg orr) ?_ rfl ⟨rfl, HKF.out⟩
  rw [results_cell1 rfl]
  exact run_loadVar_row (P := Tryz.prog) _ w.heap.size 61 61 orr (0, 0) _ (setRow_heap _ _ _ _ _ _ HZ.out) Tryz.underlying61 rfl hos
set_option maxRecDepth 100000 in
set_option maxHeartbeats 2000000 in
theorem objectOfTree (ao : Option Addr) (n c : Nat) (es : List EntL) (w : World) :
    Calls Tryz.prog 35 #[.iface 100 (.slice ao n c)] w fun e w' => e = .returned (.agg ({ kindO 2 with ev := .slice ao n c, es := es } : ObjL).row.toArray) ∧ Kept [] w w' := by
  have hbl := built_treeO ao n c es
  have hoz : ({ kindO 2 with ev := .slice ao n c, es := es } : ObjL).row.toArray.size = 76 := rfl
  have hos : (Tryz.prog.info? 61).map (·.size) = some ({ kindO 2 with ev := .slice ao n c, es := es } : ObjL).row.toArray.size := by rw [hoz]; kernel_rfl
  have hzz : Tryz.zeroCells61.size = ({ kindO 2 with ev := .slice ao n c, es := es } : ObjL).row.toArray.size := by rw [hoz]; kernel_rfl
  have hpo : ({ kindO 2 with ev := .slice ao n c, es := es } : ObjL).row.toArray.all (·.oneCell') = true := objV_one rfl rfl rfl
  have HZ : Hid ((w.alloc (.cells Tryz.zeroCells61 61)).heap[w.heap.size]? = some (.cells Tryz.zeroCells61 61 (0, 0))) := heap_alloc_new w _
  have HKF : Hid (Kept [] w ((w.alloc (.cells Tryz.zeroCells61 61)).setRow w.heap.size ({ kindO 2 with ev := .slice ao n c, es := es } : ObjL).row.toArray)) := kept_setRow ((Kept.refl [] w).alloc _) (Nat.le_refl _) _
  generalize hob : ({ kindO 2 with ev := .slice ao n c, es := es } : ObjL).row.toArray = orr at *
  clear hob
  have ta1 : ∀ W, (Instr.typeAssert (.iface 100 (.slice ao n c)) 81 98 true).run Tryz.prog W = .ok (.tuple #[.slice none 0 0, .bool false]) W := fun W => by kernel_rfl
  have ta2 : ∀ W, (Instr.typeAssert (.iface 100 (.slice ao n c)) 81 100 true).run Tryz.prog W = .ok (.tuple #[.slice ao n c, .bool true]) W := fun W => by kernel_rfl
  go_enter Tryz.func35, Tryz.ntmps35
  go_wp2_with (first
    | (refine wpList_build_some (by rfl) 61 _ (by rfl) orr (by simp; exact hbl) ?_)
    | (refine wpList_store_row (by rfl) 61 (.tmp 2) (.tmp 17) (by rfl) w.heap.size orr (by rfl) (by rfl) 61 _ HZ.out hos hzz hpo ?_))
  refine bodyPost_ret (v := .agg orr) ?_ rfl ⟨rfl, HKF.out⟩
  rw [results_cell1 rfl]
  exact run_loadVar_row (P := Tryz.prog) _ w.heap.size 61 61 orr (0, 0) _ (setRow_heap _ _ _ _ _ _ HZ.out) Tryz.underlying61 rfl hos
/-- objectOf, of what a read has answered. -/
theorem objectOf_any {xs : List Int} {bv ev pv : Value} {W0 : World} (hk : 1 ≤ xAt xs 0 ∧ xAt xs 0 ≤ 4) (hg : ObjL.Good W0 (guessO xs bv ev pv)) (w : World) :
    Calls Tryz.prog 35 #[conV (guessO xs bv ev pv)] w fun e w' => e = .returned (.agg (guessO xs bv ev pv).row.toArray) ∧ Kept [] w w' := by
  by_cases k1 : xAt xs 0 = 1
  · rw [guessO_blob k1] at hg ⊢
    obtain ⟨ao, c, hv, _⟩ := hg.bv
    have hv : bv = .slice ao (xs.drop 1).length c := hv
    rw [hv]
    exact objectOfBlob ao _ c (xs.drop 1) w
  · by_cases k2 : xAt xs 0 = 2
    · rw [guessO_tree k2] at hg ⊢
      obtain ⟨ao, c, hv, _⟩ := hg.ev.form
      have hv : ev = .slice ao (gTree xs).length c := hv
      rw [hv]
      exact objectOfTree ao _ c (gTree xs) w
    · by_cases k3 : xAt xs 0 = 3
      · rw [guessO_com k3] at hg ⊢
        obtain ⟨ao, c, hv, _⟩ := hg.pv
        have hv : pv = .slice ao (gCom xs).parents.length c := hv
        rw [hv]
        exact objectOfCom (gCom xs) _ w hg.com.tree.1 (comO_one (gCom xs) _ rfl) (com_one (gCom xs) _ rfl)
      · have k4 : xAt xs 0 = 4 := by omega
        rw [guessO_tag k4] at hg ⊢
        exact objectOfTag (gTag xs) w hg.tag.target.1 (tagO_one (gTag xs)) (tag_one (gTag xs))
theorem parErr_zero [TabC] {xs : List Int} (h : parErr xs = 0) : xs.length ≤ 65536 ∧ 1 ≤ xAt xs 0 ∧ xAt xs 0 ≤ 4 := by
  unfold parErr at h
  split at h
  · exact absurd h (by decide)
  · split at h
    · exact absurd h (by decide)
    · rename_i h1 h2
      have := Classical.not_not.1 h2
      omega

/-- As ParA; and the lists are new memory. -/
def ParF [TabC] (w : World) (xs : List Int) (e : Ending) (w' : World) : Prop :=
  ∃ o, e = .returned (.tuple #[.agg o.row.toArray, .int .i64 (parErr xs)]) ∧ ObjL.Good w' o ∧ Kept [] w w' ∧ (parErr xs = 0 → ∃ bv ev pv, o = guessO xs bv ev pv) ∧ (parErr xs ≠ 0 → o = zeroO) ∧
    ∀ b, (blkOf o.bv = some b ∨ blkOf o.ev = some b ∨ blkOf o.pv = some b) → w.heap.size ≤ b
set_option maxRecDepth 100000 in
set_option maxHeartbeats 4000000 in
/-- object.Parse, of any bytes. -/
theorem Parse_new [TabC] (v : Value) (xs : List Int) (w : World) (hv : BytesAt w v xs) (ho : Octs xs) (hT : Tabs w) : Calls Tryz.prog 23 #[v] w (ParF w xs) := by
  have k0 : Kept [] w (w.alloc (.cells Tryz.zeroCells61 61)) := (Kept.refl _ _).alloc _
  have hrd := read_any v xs _ (hv.keep k0 (fun _ _ _ => by simp)) ho (hT.kept k0)
  have HK0 : Hid (Kept [] w (w.alloc (.cells Tryz.zeroCells61 61))) := k0
  have HZ : Hid ((w.alloc (.cells Tryz.zeroCells61 61)).heap[w.heap.size]? = some (.cells Tryz.zeroCells61 61 (0, 0))) := heap_alloc_new w _
  have hun := Tryz.underlying61
  obtain ⟨ao, cap, rfl, _⟩ := hv
  by_cases her : parErr xs = 0
  · obtain ⟨_, hk1, hk4⟩ := parErr_zero her
    clear ho hT k0
    go_enter Tryz.func23, Tryz.ntmps23
    go_wp2_with fail
    go_at_call 34
    refine hrd.mono ?_
    rintro e w1 ⟨k1, _, hok⟩
    obtain ⟨bv, ev, pv, rfl, hg1, hlow⟩ := hok her
    have hob := objectOf_any ⟨hk1, hk4⟩ hg1
    have hlow2 : ∀ b, (blkOf (guessO xs bv ev pv).bv = some b ∨ blkOf (guessO xs bv ev pv).ev = some b ∨ blkOf (guessO xs bv ev pv).pv = some b) → b ≠ w.heap.size := fun b hb => by
      have h := hlow b hb
      rw [World.size_alloc] at h
      omega
    have hoz : (guessO xs bv ev pv).row.toArray.size = 76 := by rw [List.size_toArray]; exact objL_len hg1.com.tree.1 hg1.tag.target.1
    have hos : (Tryz.prog.info? 61).map (·.size) = some (guessO xs bv ev pv).row.toArray.size := by rw [hoz]; kernel_rfl
    have hzz : Tryz.zeroCells61.size = (guessO xs bv ev pv).row.toArray.size := by rw [hoz]; kernel_rfl
    have hpo : (guessO xs bv ev pv).row.toArray.all (·.oneCell') = true := objL_one hg1
    have HK1 : Hid (Kept [] w w1) := HK0.out.then k1
    have HZ1 : Hid (w1.heap[w.heap.size]? = some (.cells Tryz.zeroCells61 61 (0, 0))) := k1.heap HZ.out (by simp)
    have HGW : Hid (∀ W, Kept [] w1 W → ObjL.Good (W.setRow w.heap.size (guessO xs bv ev pv).row.toArray) (guessO xs bv ev pv)) := fun W k => good_keep (hg1.kept k) ⟨rfl, rfl, rfl, by simp [World.setRow], fun j _ hn => setRow_other _ _ j _ (fun e => hn (by simp [e]))⟩ hlow2
    have HFin : Hid (∀ W e, e = .returned (.tuple #[.agg (guessO xs bv ev pv).row.toArray, .int .i64 0]) → Kept [] w W → ObjL.Good W (guessO xs bv ev pv) → ParF w xs e W) := fun W e he hk hg => ⟨guessO xs bv ev pv, by rw [her]; exact he, hg, hk, fun _ => ⟨bv, ev, pv, rfl⟩, fun h => absurd her h, fun b hb => by
      have h := hlow b hb
      rw [World.size_alloc] at h
      omega⟩
    clear hrd k1 hg1 hlow hlow2 hok
    generalize conV (guessO xs bv ev pv) = cv at *
    generalize hor : (guessO xs bv ev pv).row.toArray = orr at *
    clear hor
    go_wp2_with fail
    go_at_call 35
    refine (hob _).mono ?_
    rintro e w2 ⟨rfl, k2⟩
    have HK2 : Hid (Kept [] w w2) := HK1.out.then k2
    have HZ2 : Hid (w2.heap[w.heap.size]? = some (.cells Tryz.zeroCells61 61 (0, 0))) := k2.heap HZ1.out (by simp)
    have HG2 := HGW.out w2 k2
    clear hob k2
    go_wp2_with (refine wpList_store_row (by rfl) 61 (.tmp 2) (.tmp 16) (by rfl) w.heap.size orr (by rfl) (by rfl) 61 _ HZ2.out hos hzz hpo ?_)
    refine bodyPost_ret (v := .tuple #[.agg orr, .int .i64 0]) ?_ rfl (HFin.out _ _ rfl (kept_setRow HK2.out (Nat.le_refl _) _) HG2)
    rw [results_cell_tmp rfl]
    have hld := run_loadVar_row (P := Tryz.prog) _ w.heap.size 61 61 orr (0, 0) _ (setRow_heap _ _ _ _ _ _ HZ2.out) hun rfl hos
    simp [asAddr, Result.andThen, hld]
  · have hbz := built_zero
    have hzz : Tryz.zeroCells61.size = zeroO.row.toArray.size := by kernel_rfl
    have hzs : (Tryz.prog.info? 61).map (·.size) = some zeroO.row.toArray.size := by kernel_rfl
    have hz1 : zeroO.row.toArray.all (·.oneCell') = true := by kernel_rfl
    have HFin : Hid (∀ W e, e = .returned (.tuple #[.agg zeroO.row.toArray, .int .i64 (parErr xs)]) → Kept [] w W → ParF w xs e W) := fun W e he hk => ⟨zeroO, he, zeroO_good W, hk, fun h => absurd h her, fun _ => rfl, fun b hb => by
      rcases hb with h | h | h <;> cases h⟩
    have hne0 : (parErr xs != 0) = true := bne_iff_ne.2 her
    clear ho hT k0
    generalize hzr : zeroO.row.toArray = zr at *
    clear hzr
    go_enter Tryz.func23, Tryz.ntmps23
    go_wp2_with fail
    go_at_call 34
    refine hrd.mono ?_
    rintro e w1 ⟨k1, hbad, _⟩
    obtain rfl := hbad her
    have HK1 : Hid (Kept [] w w1) := HK0.out.then k1
    have HZ1 : Hid (w1.heap[w.heap.size]? = some (.cells Tryz.zeroCells61 61 (0, 0))) := k1.heap HZ.out (by simp)
    clear hrd k1 hbad
    generalize parErr xs = er at *
    go_wp2_with (first
      | (refine wpList_build_some (by rfl) 61 _ (by rfl) zr (by simp; exact hbz) ?_)
      | (refine wpList_store_row (by rfl) 61 (.tmp 2) (.tmp 13) (by rfl) w.heap.size zr (by rfl) (by rfl) 61 _ HZ1.out hzs hzz hz1 ?_))
    refine bodyPost_ret (v := .tuple #[.agg zr, .int .i64 er]) ?_ rfl (HFin.out _ _ rfl (kept_setRow HK1.out (Nat.le_refl _) _))
    rw [results_cell_tmp rfl]
    have hld := run_loadVar_row (P := Tryz.prog) _ w.heap.size 61 61 zr (0, 0) _ (setRow_heap _ _ _ _ _ _ HZ1.out) hun rfl hzs
    simp [asAddr, Result.andThen, hld]
theorem Parse_any [TabC] (v : Value) (xs : List Int) (w : World) (hv : BytesAt w v xs) (ho : Octs xs) (hT : Tabs w) : Calls Tryz.prog 23 #[v] w (ParA w xs) :=
  (Parse_new v xs w hv ho hT).mono fun _ _ ⟨o, h1, h2, h3, h4, h5, _⟩ => ⟨o, h1, h2, h3, h4, h5⟩
end Go.Proofs.YtddhhjgegkkjbaaGreatDoor

namespace Go.Proofs.YtddhhjgegkkjbaaGreatDoor
open Go.RowKit Go.WideMaps

theorem par_ne [TabC] {xs : List Int} (h : parErr xs = 0) : xs ≠ [] := fun e => by
  subst e
  have := (parErr_zero h).2.1
  simp [xAt] at this
structure Fl [TabC] (w : World) (s b n : Nat) (D : DataW Unit) : Prop where
  st : St w s b n D
  good : ∀ kl, Maps.has D kl = true → ∃ g c xs, D.atKey kl .nil = slD g xs.length c ∧ kl = idKey (digL xs) ∧ parErr xs = 0 ∧ Octs xs ∧ BytesAt w (.slice (some ⟨g, 0, none⟩) xs.length c) xs
section
variable {w w' : World} {s b n : Nat} {D : DataW Unit}
theorem Fl.on [TabC] (h : Fl w s b n D) (k : Kept [] w w') : Fl w' s b n D :=
  ⟨h.st.on k, fun kl hk => by
    obtain ⟨g, c, xs, h1, h2, h3, h4, h5⟩ := h.good kl hk
    exact ⟨g, c, xs, h1, h2, h3, h4, h5.kept' k (fun _ _ _ => by simp)⟩⟩
theorem Fl.non [TabC] (h : Fl w s b n D) : NonE D := fun kl g m c hk he => by
  obtain ⟨g', c', xs, h1, _, h3, _⟩ := h.good kl hk
  obtain ⟨_, rfl, _⟩ := slD_inj (he.symm.trans h1)
  exact fun e => par_ne h3 (List.eq_nil_of_length_eq_zero e)
theorem Fl.start [TabC] (h : St w s b 0 (.map [])) : Fl w s b 0 (.map []) := ⟨h, fun kl hk => by cases hk⟩
/-- Entries that stay are as they were where the map alone is written to. -/
theorem Fl.off [TabC] (h : Fl w s b n D) (k : Kept [b] w w') {kl : Lit} (hk : Maps.has D kl = true) : ∃ g c xs, D.atKey kl .nil = slD g xs.length c ∧ kl = idKey (digL xs) ∧ parErr xs = 0 ∧ Octs xs ∧ BytesAt w' (.slice (some ⟨g, 0, none⟩) xs.length c) xs := by
  obtain ⟨g, c, xs, h1, h2, h3, h4, h5⟩ := h.good kl hk
  refine ⟨g, c, xs, h1, h2, h3, h4, h5.kept' k (fun _ x hx hm => ?_)⟩
  obtain ⟨g', c', xs', q1, q2, _⟩ := h.st.lists kl hk
  obtain ⟨rfl, _, _⟩ := slD_inj (h1.symm.trans q1)
  obtain rfl : g = x := by simpa [blkOf] using hx
  exact q2 (by simpa using hm)
theorem Fl.put [TabC] (h : Fl w s b n D) (k : Kept [b] w w') {g c : Nat} {xs : List Int} (hs : St w' s b (n + 1) (D.put (idKey (digL xs)) (slD g xs.length c))) (hp : parErr xs = 0) (ho : Octs xs) (hb : BytesAt w' (.slice (some ⟨g, 0, none⟩) xs.length c) xs) : Fl w' s b (n + 1) (D.put (idKey (digL xs)) (slD g xs.length c)) :=
  ⟨hs, fun kl hk => by
    by_cases e : kl = idKey (digL xs)
    · subst e
      exact ⟨g, c, xs, Maps.atKey_put_same h.st.own.isMap (idKey_lit _) _ _, rfl, hp, ho, hb⟩
    · rw [Maps.has_put_other e] at hk
      rw [Maps.atKey_put_other e]
      exact h.off k hk⟩
theorem Fl.del [TabC] (h : Fl w s b n D) (k : Kept [b] w w') {kl : Lit} (hs : St w' s b n (D.del kl)) : Fl w' s b n (D.del kl) :=
  ⟨hs, fun q hq => by
    by_cases e : q = kl
    · subst e
      rw [Maps.has_del_same] at hq
      cases hq
    · rw [Maps.has_del_other e] at hq
      rw [Maps.atKey_del_other e]
      exact h.off k hq⟩
end
/-- The same, and each entry's block is one of bytes. -/
structure FlT [TabC] (w : World) (s b n : Nat) (D : DataW Unit) : Prop extends Fl w s b n D where
  ty : ∀ kl g m c, Maps.has D kl = true → D.atKey kl .nil = slD g m c → ∃ q fr, w.heap[g]? = some (.cells q 5 fr)
section
variable {w w' : World} {s b n : Nat} {D : DataW Unit}
theorem FlT.on [TabC] (h : FlT w s b n D) (k : Kept [] w w') : FlT w' s b n D := ⟨h.toFl.on k, fun kl g m c hk he => by
  obtain ⟨q, fr, e⟩ := h.ty kl g m c hk he
  exact ⟨q, fr, k.heap e (by simp)⟩⟩
theorem FlT.start [TabC] (h : St w s b 0 (.map [])) : FlT w s b 0 (.map []) := ⟨Fl.start h, fun kl _ _ _ hk => by cases hk⟩
theorem FlT.tyOff [TabC] (h : FlT w s b n D) (k : Kept [b] w w') {kl : Lit} {g m c : Nat} (hk : Maps.has D kl = true) (he : D.atKey kl .nil = slD g m c) : ∃ q fr, w'.heap[g]? = some (.cells q 5 fr) := by
  obtain ⟨q, fr, e⟩ := h.ty kl g m c hk he
  refine ⟨q, fr, k.heap e (fun hm => ?_)⟩
  obtain ⟨es, clock, hb, _⟩ := h.st.own
  rw [List.mem_singleton.1 hm, hb] at e
  cases e
theorem FlT.put [TabC] (h : FlT w s b n D) (k : Kept [b] w w') {g c : Nat} {xs : List Int} (hs : St w' s b (n + 1) (D.put (idKey (digL xs)) (slD g xs.length c))) (hp : parErr xs = 0) (ho : Octs xs) (hb : BytesAt w' (.slice (some ⟨g, 0, none⟩) xs.length c) xs) (ht : ∃ q, w'.heap[g]? = some (.cells q 5 (0, 0))) : FlT w' s b (n + 1) (D.put (idKey (digL xs)) (slD g xs.length c)) :=
  ⟨h.toFl.put k hs hp ho hb, fun kl g' m' c' hk he => by
    by_cases e : kl = idKey (digL xs)
    · subst e
      rw [Maps.atKey_put_same h.st.own.isMap (idKey_lit _)] at he
      obtain ⟨rfl, _, _⟩ := slD_inj he
      obtain ⟨q, hq⟩ := ht
      exact ⟨q, _, hq⟩
    · rw [Maps.has_put_other e] at hk
      rw [Maps.atKey_put_other e] at he
      exact h.tyOff k hk he⟩
theorem FlT.del [TabC] (h : FlT w s b n D) (k : Kept [b] w w') {kl : Lit} (hs : St w' s b n (D.del kl)) : FlT w' s b n (D.del kl) :=
  ⟨h.toFl.del k hs, fun q g m c hq he => by
    by_cases e : q = kl
    · subst e
      rw [Maps.has_del_same] at hq
      cases hq
    · rw [Maps.has_del_other e] at hq
      rw [Maps.atKey_del_other e] at he
      exact h.tyOff k hq he⟩
end
theorem row_one {w : World} {o : ObjL} (h : ObjL.Good w o) : o.row.toArray.size = 76 ∧ o.row.toArray.all (·.oneCell') = true := ⟨by rw [List.size_toArray]; exact objL_len h.com.tree.1 h.tag.target.1, objL_one h⟩
/-- object.Parse, of any bytes, as Put sees it. -/
theorem Parse_put [TabC] (v : Value) (xs : List Int) (w : World) (hv : BytesAt w v xs) (ho : Octs xs) (hT : Tabs w) : Calls Tryz.prog 23 #[v] w fun e w' => ∃ br : Array Value, e = .returned (.tuple #[.agg br, .int .i64 (parErr xs)]) ∧ br.size = 76 ∧ br.all (·.oneCell') = true ∧ Kept [] w w' :=
  (Parse_any v xs w hv ho hT).mono fun _ _ ⟨_, h1, h2, h3, _⟩ => ⟨_, h1, (row_one h2).1, (row_one h2).2, h3⟩
end Go.Proofs.YtddhhjgegkkjbaaGreatDoor
