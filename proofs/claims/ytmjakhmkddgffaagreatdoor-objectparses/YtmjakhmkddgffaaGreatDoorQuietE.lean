/-
  WALKS: object.objectOf of any content; object.Parse of any bytes.
  A struct held against itself: entries, tags.
  Two entries compared within a region that is walked once.
-/
import Derived.Test.YtmjakhmkddgffaaGreatDoorGp4
import Derived.Test.YtmjakhmkddgffaaGreatDoorOpenB
import Derived.Test.YtmjakhmkddgffaaGreatDoorTag2
import Derived.Laws.StructEq
import Derived.Test.YtmjakhmkddgffaaGreatDoorEnt0
namespace Go.Proofs.YtmjakhmkddgffaaGreatDoor
open Go.RowKit

theorem built_blobO (ao : Option Addr) (n c : Nat) (bl : List Int) : Tryz.prog.built 37 [(0, .int .i64 1), (1, .slice ao n c)] = some ({ kindO 1 with bv := .slice ao n c, blob := bl } : ObjL).row.toArray := by
  rw [Tryz.builtObj, fill_step (fun i => (#[(0, 1), (1, 1), (2, 1), (3, 36), (39, 37)] : Array (Nat × Nat))[i]?) zeroO.row.toArray 0 (.int .i64 1) _ 0 1 rfl rfl (by decide)]
  have e1 : (Value.int .i64 1).cells.toList = [.int .i64 1] := rfl
  rw [e1, setL_put _ _ _ (by decide)]
  have e2 : putL zeroO.row 0 [.int .i64 1] = [.int .i64 1, .slice none 0 0, .slice none 0 0] ++ (zeroC.row (.slice none 0 0) ++ zeroG.row) := put0 _ _ _ _ _
  rw [e2, fill_step (fun i => (#[(0, 1), (1, 1), (2, 1), (3, 36), (39, 37)] : Array (Nat × Nat))[i]?) _ 1 (.slice ao n c) _ 1 1 rfl rfl (by decide)]
  have e3 : (Value.slice ao n c).cells.toList = [.slice ao n c] := rfl
  rw [e3, setL_put _ _ _ (by show 1 + 1 ≤ 76; decide), fill_nil]
  rfl
theorem built_treeO (ao : Option Addr) (n c : Nat) (es : List EntL) : Tryz.prog.built 37 [(0, .int .i64 2), (2, .slice ao n c)] = some ({ kindO 2 with ev := .slice ao n c, es := es } : ObjL).row.toArray := by
  rw [Tryz.builtObj, fill_step (fun i => (#[(0, 1), (1, 1), (2, 1), (3, 36), (39, 37)] : Array (Nat × Nat))[i]?) zeroO.row.toArray 0 (.int .i64 2) _ 0 1 rfl rfl (by decide)]
  have e1 : (Value.int .i64 2).cells.toList = [.int .i64 2] := rfl
  rw [e1, setL_put _ _ _ (by decide)]
  have e2 : putL zeroO.row 0 [.int .i64 2] = [.int .i64 2, .slice none 0 0, .slice none 0 0] ++ (zeroC.row (.slice none 0 0) ++ zeroG.row) := put0 _ _ _ _ _
  rw [e2, fill_step (fun i => (#[(0, 1), (1, 1), (2, 1), (3, 36), (39, 37)] : Array (Nat × Nat))[i]?) _ 2 (.slice ao n c) _ 2 1 rfl rfl (by decide)]
  have e3 : (Value.slice ao n c).cells.toList = [.slice ao n c] := rfl
  rw [e3, setL_put _ _ _ (by show 2 + 1 ≤ 76; decide), fill_nil]
  rfl

set_option maxRecDepth 100000 in
set_option maxHeartbeats 2000000 in
theorem objectOfBlob (ao : Option Addr) (n c : Nat) (bl : List Int) (w : World) :
    Calls Tryz.prog 32 #[.iface 88 (.slice ao n c)] w fun e w' => e = .returned (.agg ({ kindO 1 with bv := .slice ao n c, blob := bl } : ObjL).row.toArray) ∧ Kept [] w w' := by
  have hbl := built_blobO ao n c bl
  have hoz : ({ kindO 1 with bv := .slice ao n c, blob := bl } : ObjL).row.toArray.size = 76 := rfl
  have hos : (Tryz.prog.info? 37).map (·.size) = some ({ kindO 1 with bv := .slice ao n c, blob := bl } : ObjL).row.toArray.size := by rw [hoz]; kernel_rfl
  have hzz : Tryz.zeroCells37.size = ({ kindO 1 with bv := .slice ao n c, blob := bl } : ObjL).row.toArray.size := by rw [hoz]; kernel_rfl
  have hpo : ({ kindO 1 with bv := .slice ao n c, blob := bl } : ObjL).row.toArray.all (·.oneCell') = true := objV_one rfl rfl rfl
  have HZ : Hid ((w.alloc (.cells Tryz.zeroCells37 37)).heap[w.heap.size]? = some (.cells Tryz.zeroCells37 37 (0, 0))) := heap_alloc_new w _
  have HKF : Hid (Kept [] w ((w.alloc (.cells Tryz.zeroCells37 37)).setRow w.heap.size ({ kindO 1 with bv := .slice ao n c, blob := bl } : ObjL).row.toArray)) := kept_setRow ((Kept.refl [] w).alloc _) (Nat.le_refl _) _
  generalize hob : ({ kindO 1 with bv := .slice ao n c, blob := bl } : ObjL).row.toArray = orr at *
  clear hob
  have ta1 : ∀ W, (Instr.typeAssert (.iface 88 (.slice ao n c)) 67 88 true).run Tryz.prog W = .ok (.tuple #[.slice ao n c, .bool true]) W := fun W => by kernel_rfl
  go_enter Tryz.func32, Tryz.ntmps32
  go_wp2_with (first
    | (refine wpList_build_some (by rfl) 37 _ (by rfl) orr (by simp; exact hbl) ?_)
    | (refine wpList_store_row (by rfl) 37 (.tmp 2) (.tmp 12) (by rfl) w.heap.size orr (by rfl) (by rfl) 37 _ HZ.out hos hzz hpo ?_))
  refine bodyPost_ret (v := .agg orr) ?_ rfl ⟨rfl, HKF.out⟩
  rw [results_cell1 rfl]
  exact run_loadVar_row (P := Tryz.prog) _ w.heap.size 37 37 orr (0, 0) _ (setRow_heap _ _ _ _ _ _ HZ.out) Tryz.underlying37 rfl hos
set_option maxRecDepth 100000 in
set_option maxHeartbeats 2000000 in
theorem objectOfTree (ao : Option Addr) (n c : Nat) (es : List EntL) (w : World) :
    Calls Tryz.prog 32 #[.iface 89 (.slice ao n c)] w fun e w' => e = .returned (.agg ({ kindO 2 with ev := .slice ao n c, es := es } : ObjL).row.toArray) ∧ Kept [] w w' := by
  have hbl := built_treeO ao n c es
  have hoz : ({ kindO 2 with ev := .slice ao n c, es := es } : ObjL).row.toArray.size = 76 := rfl
  have hos : (Tryz.prog.info? 37).map (·.size) = some ({ kindO 2 with ev := .slice ao n c, es := es } : ObjL).row.toArray.size := by rw [hoz]; kernel_rfl
  have hzz : Tryz.zeroCells37.size = ({ kindO 2 with ev := .slice ao n c, es := es } : ObjL).row.toArray.size := by rw [hoz]; kernel_rfl
  have hpo : ({ kindO 2 with ev := .slice ao n c, es := es } : ObjL).row.toArray.all (·.oneCell') = true := objV_one rfl rfl rfl
  have HZ : Hid ((w.alloc (.cells Tryz.zeroCells37 37)).heap[w.heap.size]? = some (.cells Tryz.zeroCells37 37 (0, 0))) := heap_alloc_new w _
  have HKF : Hid (Kept [] w ((w.alloc (.cells Tryz.zeroCells37 37)).setRow w.heap.size ({ kindO 2 with ev := .slice ao n c, es := es } : ObjL).row.toArray)) := kept_setRow ((Kept.refl [] w).alloc _) (Nat.le_refl _) _
  generalize hob : ({ kindO 2 with ev := .slice ao n c, es := es } : ObjL).row.toArray = orr at *
  clear hob
  have ta1 : ∀ W, (Instr.typeAssert (.iface 89 (.slice ao n c)) 67 88 true).run Tryz.prog W = .ok (.tuple #[.slice none 0 0, .bool false]) W := fun W => by kernel_rfl
  have ta2 : ∀ W, (Instr.typeAssert (.iface 89 (.slice ao n c)) 67 89 true).run Tryz.prog W = .ok (.tuple #[.slice ao n c, .bool true]) W := fun W => by kernel_rfl
  go_enter Tryz.func32, Tryz.ntmps32
  go_wp2_with (first
    | (refine wpList_build_some (by rfl) 37 _ (by rfl) orr (by simp; exact hbl) ?_)
    | (refine wpList_store_row (by rfl) 37 (.tmp 2) (.tmp 17) (by rfl) w.heap.size orr (by rfl) (by rfl) 37 _ HZ.out hos hzz hpo ?_))
  refine bodyPost_ret (v := .agg orr) ?_ rfl ⟨rfl, HKF.out⟩
  rw [results_cell1 rfl]
  exact run_loadVar_row (P := Tryz.prog) _ w.heap.size 37 37 orr (0, 0) _ (setRow_heap _ _ _ _ _ _ HZ.out) Tryz.underlying37 rfl hos
/-- objectOf, of what a read has answered. -/
theorem objectOf_any {xs : List Int} {bv ev pv : Value} {W0 : World} (hk : 1 ≤ xAt xs 0 ∧ xAt xs 0 ≤ 4) (hg : ObjL.Good W0 (guessO xs bv ev pv)) (w : World) :
    Calls Tryz.prog 32 #[conV (guessO xs bv ev pv)] w fun e w' => e = .returned (.agg (guessO xs bv ev pv).row.toArray) ∧ Kept [] w w' := by
  by_cases k1 : xAt xs 0 = 1
  · rw [guessO_blob k1] at hg ⊢
    obtain ⟨ao, c, hv, _⟩ := hg.bv
    have hv : bv = .slice ao (xs.drop 1).length c := hv
    rw [hv]
    exact objectOfBlob ao _ c (xs.drop 1) w
  · by_cases k2 : xAt xs 0 = 2
    · rw [guessO_tree k2] at hg ⊢
      obtain ⟨ao, c, hv, _⟩ := hg.ev.form
      have hv : ev = .slice ao (gTree xs).length c := hv
      rw [hv]
      exact objectOfTree ao _ c (gTree xs) w
    · by_cases k3 : xAt xs 0 = 3
      · rw [guessO_com k3] at hg ⊢
        obtain ⟨ao, c, hv, _⟩ := hg.pv
        have hv : pv = .slice ao (gCom xs).parents.length c := hv
        rw [hv]
        exact objectOfCom (gCom xs) _ w hg.com.tree.1 (comO_one (gCom xs) _ rfl) (com_one (gCom xs) _ rfl)
      · have k4 : xAt xs 0 = 4 := by omega
        rw [guessO_tag k4] at hg ⊢
        exact objectOfTag (gTag xs) w hg.tag.target.1 (tagO_one (gTag xs)) (tag_one (gTag xs))
theorem parErr_zero {xs : List Int} (h : parErr xs = 0) : xs.length ≤ 65536 ∧ 1 ≤ xAt xs 0 ∧ xAt xs 0 ≤ 4 := by
  unfold parErr at h
  split at h
  · exact absurd h (by decide)
  · split at h
    · exact absurd h (by decide)
    · rename_i h1 h2
      have := Classical.not_not.1 h2
      omega

set_option maxRecDepth 100000 in
set_option maxHeartbeats 4000000 in
/-- object.Parse, of any bytes. -/
theorem Parse_any (v : Value) (xs : List Int) (w : World) (hv : BytesAt w v xs) (ho : Octs xs) (hT : Tabs w) : Calls Tryz.prog 11 #[v] w (ParA w xs) := by
  have k0 : Kept [] w (w.alloc (.cells Tryz.zeroCells37 37)) := (Kept.refl _ _).alloc _
  have hrd := read_any v xs _ (hv.keep k0 (fun _ _ _ => by simp)) ho (hT.kept k0)
  have HK0 : Hid (Kept [] w (w.alloc (.cells Tryz.zeroCells37 37))) := k0
  have HZ : Hid ((w.alloc (.cells Tryz.zeroCells37 37)).heap[w.heap.size]? = some (.cells Tryz.zeroCells37 37 (0, 0))) := heap_alloc_new w _
  have hun := Tryz.underlying37
  obtain ⟨ao, cap, rfl, _⟩ := hv
  by_cases her : parErr xs = 0
  · obtain ⟨_, hk1, hk4⟩ := parErr_zero her
    clear ho hT k0
    go_enter Tryz.func11, Tryz.ntmps11
    go_wp2_with fail
    go_at_call 31
    refine hrd.mono ?_
    rintro e w1 ⟨k1, _, hok⟩
    obtain ⟨bv, ev, pv, rfl, hg1, hlow⟩ := hok her
    have hob := objectOf_any ⟨hk1, hk4⟩ hg1
    have hlow2 : ∀ b, (blkOf (guessO xs bv ev pv).bv = some b ∨ blkOf (guessO xs bv ev pv).ev = some b ∨ blkOf (guessO xs bv ev pv).pv = some b) → b ≠ w.heap.size := fun b hb => by
      have h := hlow b hb
      rw [World.size_alloc] at h
      omega
    have hoz : (guessO xs bv ev pv).row.toArray.size = 76 := by rw [List.size_toArray]; exact objL_len hg1.com.tree.1 hg1.tag.target.1
    have hos : (Tryz.prog.info? 37).map (·.size) = some (guessO xs bv ev pv).row.toArray.size := by rw [hoz]; kernel_rfl
    have hzz : Tryz.zeroCells37.size = (guessO xs bv ev pv).row.toArray.size := by rw [hoz]; kernel_rfl
    have hpo : (guessO xs bv ev pv).row.toArray.all (·.oneCell') = true := objL_one hg1
    have HK1 : Hid (Kept [] w w1) := HK0.out.then k1
    have HZ1 : Hid (w1.heap[w.heap.size]? = some (.cells Tryz.zeroCells37 37 (0, 0))) := k1.heap HZ.out (by simp)
    have HGW : Hid (∀ W, Kept [] w1 W → ObjL.Good (W.setRow w.heap.size (guessO xs bv ev pv).row.toArray) (guessO xs bv ev pv)) := fun W k => good_keep (hg1.kept k) ⟨rfl, rfl, rfl, by simp [World.setRow], fun j _ hn => setRow_other _ _ j _ (fun e => hn (by simp [e]))⟩ hlow2
    have HFin : Hid (∀ W e, e = .returned (.tuple #[.agg (guessO xs bv ev pv).row.toArray, .int .i64 0]) → Kept [] w W → ObjL.Good W (guessO xs bv ev pv) → ParA w xs e W) := fun W e he hk hg => ⟨guessO xs bv ev pv, by rw [her]; exact he, hg, hk, fun _ => ⟨bv, ev, pv, rfl⟩, fun h => absurd her h⟩
    clear hrd k1 hg1 hlow hlow2 hok
    generalize conV (guessO xs bv ev pv) = cv at *
    generalize hor : (guessO xs bv ev pv).row.toArray = orr at *
    clear hor
    go_wp2_with fail
    go_at_call 32
    refine (hob _).mono ?_
    rintro e w2 ⟨rfl, k2⟩
    have HK2 : Hid (Kept [] w w2) := HK1.out.then k2
    have HZ2 : Hid (w2.heap[w.heap.size]? = some (.cells Tryz.zeroCells37 37 (0, 0))) := k2.heap HZ1.out (by simp)
    have HG2 := HGW.out w2 k2
    clear hob k2
    go_wp2_with (refine wpList_store_row (by rfl) 37 (.tmp 2) (.tmp 16) (by rfl) w.heap.size orr (by rfl) (by rfl) 37 _ HZ2.out hos hzz hpo ?_)
    refine bodyPost_ret (v := .tuple #[.agg orr, .int .i64 0]) ?_ rfl (HFin.out _ _ rfl (kept_setRow HK2.out (Nat.le_refl _) _) HG2)
    rw [results_cell_tmp rfl]
    have hld := run_loadVar_row (P := Tryz.prog) _ w.heap.size 37 37 orr (0, 0) _ (setRow_heap _ _ _ _ _ _ HZ2.out) hun rfl hos
    simp [asAddr, Result.andThen, hld]
  · have hbz := built_zero
    have hzz : Tryz.zeroCells37.size = zeroO.row.toArray.size := by kernel_rfl
    have hzs : (Tryz.prog.info? 37).map (·.size) = some zeroO.row.toArray.size := by kernel_rfl
    have hz1 : zeroO.row.toArray.all (·.oneCell') = true := by kernel_rfl
    have HFin : Hid (∀ W e, e = .returned (.tuple #[.agg zeroO.row.toArray, .int .i64 (parErr xs)]) → Kept [] w W → ParA w xs e W) := fun W e he hk => ⟨zeroO, he, zeroO_good W, hk, fun h => absurd h her, fun _ => rfl⟩
    have hne0 : (parErr xs != 0) = true := bne_iff_ne.2 her
    clear ho hT k0
    generalize hzr : zeroO.row.toArray = zr at *
    clear hzr
    go_enter Tryz.func11, Tryz.ntmps11
    go_wp2_with fail
    go_at_call 31
    refine hrd.mono ?_
    rintro e w1 ⟨k1, hbad, _⟩
    obtain rfl := hbad her
    have HK1 : Hid (Kept [] w w1) := HK0.out.then k1
    have HZ1 : Hid (w1.heap[w.heap.size]? = some (.cells Tryz.zeroCells37 37 (0, 0))) := k1.heap HZ.out (by simp)
    clear hrd k1 hbad
    generalize parErr xs = er at *
    go_wp2_with (first
      | (refine wpList_build_some (by rfl) 37 _ (by rfl) zr (by simp; exact hbz) ?_)
      | (refine wpList_store_row (by rfl) 37 (.tmp 2) (.tmp 13) (by rfl) w.heap.size zr (by rfl) (by rfl) 37 _ HZ1.out hzs hzz hz1 ?_))
    refine bodyPost_ret (v := .tuple #[.agg zr, .int .i64 er]) ?_ rfl (HFin.out _ _ rfl (kept_setRow HK1.out (Nat.le_refl _) _))
    rw [results_cell_tmp rfl]
    have hld := run_loadVar_row (P := Tryz.prog) _ w.heap.size 37 37 zr (0, 0) _ (setRow_heap _ _ _ _ _ _ HZ1.out) hun rfl hzs
    simp [asAddr, Result.andThen, hld]
end Go.Proofs.YtmjakhmkddgffaaGreatDoor

namespace Go.Proofs.YtmjakhmkddgffaaGreatDoor
open Go.RowKit

theorem part_id (xs : List Value) (ys : List Int) (off : Nat) (hx : (xs.drop off).take 32 = ys.map (Value.int .u8)) (W : World) : (part 29 xs.toArray off).run Tryz.prog W = .ok (.agg (idC ys)) W := by
  have hu := run_underlying (P := Tryz.prog) (w := W) Tryz.underlying29
  obtain ⟨i, hi, hs⟩ := Option.map_eq_some_iff.1 Tryz.infoID
  simp [part, isAgg, hu, sizeOf, typeInfo, hi, hs, hx, idC]
theorem idSelf (d : Nat) (xs : List Int) (W : World) (hx : xs.length = 32) : (Op.equalIn (d + 1 + 1) 29 (.agg (idC xs)) (.agg (idC xs))).run Tryz.prog W = .ok true W := by
  obtain ⟨i, hi⟩ := Option.isSome_iff_exists.1 Tryz.hasU8
  rw [run_equalIn_array W (d + 1) _ _ Tryz.underlying29 hi, Tryz.cellsU8, items_id xs xs W d (List.range 32) (fun j hj => by rw [hx]; have := List.mem_range.1 hj; omega)]
  simp
theorem eqF_step {P : Program} {d : Nat} {xs : Array Value} {f : Field} {fs : List Field} {W : World} {a : Value} (hn : f.name ≠ "_") (ha : (part f.type xs f.offset).run P W = .ok a W) (he : (Op.equalIn d f.type a a).run P W = .ok true W) :
    (Op.eqFields d xs xs (f :: fs)).run P W = (Op.eqFields d xs xs fs).run P W := by
  simp [Op.eqFields, hn, ha, he]
theorem plainInt : Tryz.prog.plainKey 3 = true := by kernel_rfl
theorem plainStr : Tryz.prog.plainKey 9 = true := by kernel_rfl
theorem plainU64 : Tryz.prog.plainKey 31 = true := by kernel_rfl
theorem selfInt (d : Nat) (n : Int) (W : World) : (Op.equalIn (d + 1) 3 (.int .i64 n) (.int .i64 n)).run Tryz.prog W = .ok true W := by rw [run_equalIn_int W d 3 .i64 .i64 n n Tryz.underlying3]; simp
theorem selfU64 (d : Nat) (n : Int) (W : World) : (Op.equalIn (d + 1) 31 (.int .u64 n) (.int .u64 n)).run Tryz.prog W = .ok true W := by rw [run_equalIn_int W d 31 .u64 .u64 n n Tryz.underlying31]; simp
theorem selfStr (d : Nat) (s : ByteArray) (W : World) : (Op.equalIn (d + 1) 9 (.string s) (.string s)).run Tryz.prog W = .ok true W := by rw [run_equalIn_string W d 9 s s Tryz.underlying9]; simp

set_option maxRecDepth 100000 in
theorem entEq (e : EntL) (h : e.id.length = 32) (W : World) : (Op.equalIn 10000 80 (.agg e.row.toArray) (.agg e.row.toArray)).run Tryz.prog W = .ok true W := by
  have hf : Tryz.prog.underlying 80 = some (.struct (Tryz.prog.fieldsOf 80)) := by kernel_rfl
  have hp : Tryz.prog.stoodInHeld 80 = false := by kernel_rfl
  have hfs := TypeDesc.struct.inj (Option.some.inj (hf.symm.trans Tryz.underlying80))
  rw [show (10000 : Nat) = 9997 + 1 + 1 + 1 from rfl, run_equalIn_struct W (9997 + 1 + 1) 80 _ _ hf hp, hfs]
  refine (eqF_step (by decide) (run_part_plain W plainInt (v := .int .i64 e.mode) rfl) (selfInt _ _ W)).trans ?_
  refine (eqF_step (by decide) (run_part_plain W plainStr (v := .string (strOfNums e.name)) rfl) (selfStr _ _ W)).trans ?_
  refine (eqF_step (by decide) (part_id e.row e.id 2 (by
    unfold EntL.row
    show ((e.id.map (Value.int .u8)).take 32) = _
    rw [List.take_of_length_le (by rw [List.length_map]; omega)]) W) (idSelf 9997 e.id W h)).trans ?_
  rfl
theorem tag_get (t : TagL) (h : t.target.length = 32) (i : Nat) (v : Value) (hv : [Value.int .i64 t.kind, .string (strOfNums t.name), .string (strOfNums t.who), .int .u64 t.time, .string (strOfNums t.text)][i]? = some v) : t.row.toArray[32 + i]? = some v := by
  rw [List.getElem?_toArray]
  unfold TagL.row
  rw [List.getElem?_append_right (by rw [List.length_map, h]; omega), List.length_map, h, Nat.add_sub_cancel_left]
  exact hv
set_option maxRecDepth 100000 in
theorem tagEq (t : TagL) (h : t.target.length = 32) (W : World) : (Op.equalIn 10000 35 (.agg t.row.toArray) (.agg t.row.toArray)).run Tryz.prog W = .ok true W := by
  have hf : Tryz.prog.underlying 35 = some (.struct (Tryz.prog.fieldsOf 35)) := by kernel_rfl
  have hp : Tryz.prog.stoodInHeld 35 = false := by kernel_rfl
  have hfs := TypeDesc.struct.inj (Option.some.inj (hf.symm.trans Tryz.underlying35))
  rw [show (10000 : Nat) = 9997 + 1 + 1 + 1 from rfl, run_equalIn_struct W (9997 + 1 + 1) 35 _ _ hf hp, hfs]
  refine (eqF_step (by decide) (part_id t.row t.target 0 (by
    unfold TagL.row
    rw [List.drop_zero, List.take_left' (by rw [List.length_map, h])]) W) (idSelf 9997 t.target W h)).trans ?_
  refine (eqF_step (by decide) (run_part_plain W plainInt (tag_get t h 0 _ rfl)) (selfInt _ _ W)).trans ?_
  refine (eqF_step (by decide) (run_part_plain W plainStr (tag_get t h 1 _ rfl)) (selfStr _ _ W)).trans ?_
  refine (eqF_step (by decide) (run_part_plain W plainStr (tag_get t h 2 _ rfl)) (selfStr _ _ W)).trans ?_
  refine (eqF_step (by decide) (run_part_plain W plainU64 (tag_get t h 3 _ rfl)) (selfU64 _ _ W)).trans ?_
  refine (eqF_step (by decide) (run_part_plain W plainStr (tag_get t h 4 _ rfl)) (selfStr _ _ W)).trans ?_
  rfl
end Go.Proofs.YtmjakhmkddgffaaGreatDoor

namespace Go.Proofs.YtmjakhmkddgffaaGreatDoor
open Go.RowKit

theorem run_ent_neq (x y : Operand) (A B : Array Value) (W : World) (r : Bool) (hr : (Op.equalIn 10000 80 (.agg A) (.agg B)).run Tryz.prog W = .ok r W) :
    Sem.run Tryz.prog (do eqGuard BinOp.neq 80 x y (Value.agg A) (Value.agg B); binOp BinOp.neq 80 (Value.agg A) (Value.agg B)) W = .ok (.bool !r) W := by
  have hm : Tryz.prog.eqGuardType Tryz.prog.depth 80 = false := by kernel_rfl
  rw [Sem.run_bind, run_eqGuard_agg W .neq 80 x y A B hm, Result.andThen_ok, run_neq_struct W 80 A B, hr]
  rfl
section
variable {ops : Array Oper} {C : World → Prop} {Q : Act → Prop} {rest : List Oper} {o : Oper} {a : Act}
theorem quiet_neqE (hw : Region.wanted o (yielded ops a.tmps) = true) (x y : Operand) (rt : TypeId) (ho : o.op = .binOp .neq 80 x y rt) (A B : Array Value) (hx : a.eval x = .agg A) (hy : a.eval y = .agg B) (r : Bool)
    (hr : ∀ W, (Op.equalIn 10000 80 (.agg A) (.agg B)).run Tryz.prog W = .ok r W) (h : wpQuiet Tryz.prog ops C Q rest (a.put o.dst (.bool !r))) : wpQuiet Tryz.prog ops C Q (o :: rest) a := by
  refine quiet_val hw (.bool !r) (fun W => ?_) h
  unfold execOp
  simp only [ho, hx, hy]
  rw [Sem.run_bind, run_ent_neq x y A B W r (hr W)]
  rfl
end
end Go.Proofs.YtmjakhmkddgffaaGreatDoor
