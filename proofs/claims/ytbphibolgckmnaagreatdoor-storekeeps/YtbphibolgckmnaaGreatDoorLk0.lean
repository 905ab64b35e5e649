/-
  WALKS: object.objectOf of any content; object.Parse of any bytes.
  Links: a list of them that one owns and appends to; WALK: (object.commit).children.
-/
import Derived.Test.YtbphibolgckmnaaGreatDoorGp4
import Derived.Test.YtbphibolgckmnaaGreatDoorRt1
import Derived.Test.YtbphibolgckmnaaGreatDoorCom3
namespace Go.Proofs.YtbphibolgckmnaaGreatDoor
open Go.RowKit

theorem built_blobO (ao : Option Addr) (n c : Nat) (bl : List Int) : Tryz.prog.built 78 [(0, .int .i64 1), (1, .slice ao n c)] = some ({ kindO 1 with bv := .slice ao n c, blob := bl } : ObjL).row.toArray := by
  rw [Tryz.builtObj, fill_step (fun i => (#[(0, 1), (1, 1), (2, 1), (3, 36), (39, 37)] : Array (Nat × Nat))[i]?) zeroO.row.toArray 0 (.int .i64 1) _ 0 1 rfl rfl (by decide)]
  have e1 : (Value.int .i64 1).cells.toList = [.int .i64 1] := rfl
  rw [e1, setL_put _ _ _ (by decide)]
  have e2 : putL zeroO.row 0 [.int .i64 1] = [.int .i64 1, .slice none 0 0, .slice none 0 0] ++ (zeroC.row (.slice none 0 0) ++ zeroG.row) := put0 _ _ _ _ _
  rw [e2, fill_step (fun i => (#[(0, 1), (1, 1), (2, 1), (3, 36), (39, 37)] : Array (Nat × Nat))[i]?) _ 1 (.slice ao n c) _ 1 1 rfl rfl (by decide)]
  have e3 : (Value.slice ao n c).cells.toList = [.slice ao n c] := rfl
  rw [e3, setL_put _ _ _ (by show 1 + 1 ≤ 76; decide), fill_nil]
  rfl
theorem built_treeO (ao : Option Addr) (n c : Nat) (es : List EntL) : Tryz.prog.built 78 [(0, .int .i64 2), (2, .slice ao n c)] = some ({ kindO 2 with ev := .slice ao n c, es := es } : ObjL).row.toArray := by
  rw [Tryz.builtObj, fill_step (fun i => (#[(0, 1), (1, 1), (2, 1), (3, 36), (39, 37)] : Array (Nat × Nat))[i]?) zeroO.row.toArray 0 (.int .i64 2) _ 0 1 rfl rfl (by decide)]
  have e1 : (Value.int .i64 2).cells.toList = [.int .i64 2] := rfl
  rw [e1, setL_put _ _ _ (by decide)]
  have e2 : putL zeroO.row 0 [.int .i64 2] = [.int .i64 2, .slice none 0 0, .slice none 0 0] ++ (zeroC.row (.slice none 0 0) ++ zeroG.row) := put0 _ _ _ _ _
  rw [e2, fill_step (fun i => (#[(0, 1), (1, 1), (2, 1), (3, 36), (39, 37)] : Array (Nat × Nat))[i]?) _ 2 (.slice ao n c) _ 2 1 rfl rfl (by decide)]
  have e3 : (Value.slice ao n c).cells.toList = [.slice ao n c] := rfl
  rw [e3, setL_put _ _ _ (by show 2 + 1 ≤ 76; decide), fill_nil]
  rfl

set_option maxRecDepth 100000 in
set_option maxHeartbeats 2000000 in
theorem objectOfBlob (ao : Option Addr) (n c : Nat) (bl : List Int) (w : World) :
    Calls Tryz.prog 50 #[.iface 110 (.slice ao n c)] w fun e w' => e = .returned (.agg ({ kindO 1 with bv := .slice ao n c, blob := bl } : ObjL).row.toArray) ∧ Kept [] w w' := by
  have hbl := built_blobO ao n c bl
  have hoz : ({ kindO 1 with bv := .slice ao n c, blob := bl } : ObjL).row.toArray.size = 76 := rfl
  have hos : (Tryz.prog.info? 78).map (·.size) = some ({ kindO 1 with bv := .slice ao n c, blob := bl } : ObjL).row.toArray.size := by rw [hoz]; kernel_rfl
  have hzz : Tryz.zeroCells78.size = ({ kindO 1 with bv := .slice ao n c, blob := bl } : ObjL).row.toArray.size := by rw [hoz]; kernel_rfl
  have hpo : ({ kindO 1 with bv := .slice ao n c, blob := bl } : ObjL).row.toArray.all (·.oneCell') = true := objV_one rfl rfl rfl
  have HZ : Hid ((w.alloc (.cells Tryz.zeroCells78 78)).heap[w.heap.size]? = some (.cells Tryz.zeroCells78 78 (0, 0))) := heap_alloc_new w _
  have HKF : Hid (Kept [] w ((w.alloc (.cells Tryz.zeroCells78 78)).setRow w.heap.size ({ kindO 1 with bv := .slice ao n c, blob := bl } : ObjL).row.toArray)) := kept_setRow ((Kept.refl [] w).alloc _) (Nat.le_refl _) _
  generalize hob : ({ kindO 1 with bv := .slice ao n c, blob := bl } : ObjL).row.toArray = orr at *
  clear hob
  have ta1 : ∀ W, (Instr.typeAssert (.iface 110 (.slice ao n c)) 91 110 true).run Tryz.prog W = .ok (.tuple #[.slice ao n c, .bool true]) W := fun W => by kernel_rfl
  go_enter Tryz.func50, Tryz.ntmps50
  go_wp2_with (first
    | (refine wpList_build_some (by rfl) 78 _ (by rfl) orr (by simp; exact hbl) ?_)
    | (refine wpList_store_row (by rfl) 78 (.tmp 2) (.tmp 12) (by rfl) w.heap.size orr (by rfl) (by rfl) 78 _ HZ.out hos hzz hpo ?_))
  refine bodyPost_ret (v := .agg orr) ?_ rfl ⟨rfl, HKF.out⟩
  rw [results_cell1 rfl]
  exact run_loadVar_row (P := Tryz.prog) _ w.heap.size 78 78 orr (0, 0) _ (setRow_heap _ _ _ _ _ _ HZ.out) Tryz.underlying78 rfl hos
set_option maxRecDepth 100000 in
set_option maxHeartbeats 2000000 in
theorem objectOfTree (ao : Option Addr) (n c : Nat) (es : List EntL) (w : World) :
    Calls Tryz.prog 50 #[.iface 112 (.slice ao n c)] w fun e w' => e = .returned (.agg ({ kindO 2 with ev := .slice ao n c, es := es } : ObjL).row.toArray) ∧ Kept [] w w' := by
  have hbl := built_treeO ao n c es
  have hoz : ({ kindO 2 with ev := .slice ao n c, es := es } : ObjL).row.toArray.size = 76 := rfl
  have hos : (Tryz.prog.info? 78).map (·.size) = some ({ kindO 2 with ev := .slice ao n c, es := es } : ObjL).row.toArray.size := by rw [hoz]; kernel_rfl
  have hzz : Tryz.zeroCells78.size = ({ kindO 2 with ev := .slice ao n c, es := es } : ObjL).row.toArray.size := by rw [hoz]; kernel_rfl
  have hpo : ({ kindO 2 with ev := .slice ao n c, es := es } : ObjL).row.toArray.all (·.oneCell') = true := objV_one rfl rfl rfl
  have HZ : Hid ((w.alloc (.cells Tryz.zeroCells78 78)).heap[w.heap.size]? = some (.cells Tryz.zeroCells78 78 (0, 0))) := heap_alloc_new w _
  have HKF : Hid (Kept [] w ((w.alloc (.cells Tryz.zeroCells78 78)).setRow w.heap.size ({ kindO 2 with ev := .slice ao n c, es := es } : ObjL).row.toArray)) := kept_setRow ((Kept.refl [] w).alloc _) (Nat.le_refl _) _
  generalize hob : ({ kindO 2 with ev := .slice ao n c, es := es } : ObjL).row.toArray = orr at *
  clear hob
  have ta1 : ∀ W, (Instr.typeAssert (.iface 112 (.slice ao n c)) 91 110 true).run Tryz.prog W = .ok (.tuple #[.slice none 0 0, .bool false]) W := fun W => by kernel_rfl
  have ta2 : ∀ W, (Instr.typeAssert (.iface 112 (.slice ao n c)) 91 112 true).run Tryz.prog W = .ok (.tuple #[.slice ao n c, .bool true]) W := fun W => by kernel_rfl
  go_enter Tryz.func50, Tryz.ntmps50
  go_wp2_with (first
    | (refine wpList_build_some (by rfl) 78 _ (by rfl) orr (by simp; exact hbl) ?_)
    | (refine wpList_store_row (by rfl) 78 (.tmp 2) (.tmp 17) (by rfl) w.heap.size orr (by rfl) (by rfl) 78 _ HZ.out hos hzz hpo ?_))
  refine bodyPost_ret (v := .agg orr) ?_ rfl ⟨rfl, HKF.out⟩
  rw [results_cell1 rfl]
  exact run_loadVar_row (P := Tryz.prog) _ w.heap.size 78 78 orr (0, 0) _ (setRow_heap _ _ _ _ _ _ HZ.out) Tryz.underlying78 rfl hos
/-- objectOf, of what a read has answered. -/
theorem objectOf_any {xs : List Int} {bv ev pv : Value} {W0 : World} (hk : 1 ≤ xAt xs 0 ∧ xAt xs 0 ≤ 4) (hg : ObjL.Good W0 (guessO xs bv ev pv)) (w : World) :
    Calls Tryz.prog 50 #[conV (guessO xs bv ev pv)] w fun e w' => e = .returned (.agg (guessO xs bv ev pv).row.toArray) ∧ Kept [] w w' := by
  by_cases k1 : xAt xs 0 = 1
  · rw [guessO_blob k1] at hg ⊢
    obtain ⟨ao, c, hv, _⟩ := hg.bv
    have hv : bv = .slice ao (xs.drop 1).length c := hv
    rw [hv]
    exact objectOfBlob ao _ c (xs.drop 1) w
  · by_cases k2 : xAt xs 0 = 2
    · rw [guessO_tree k2] at hg ⊢
      obtain ⟨ao, c, hv, _⟩ := hg.ev.form
      have hv : ev = .slice ao (gTree xs).length c := hv
      rw [hv]
      exact objectOfTree ao _ c (gTree xs) w
    · by_cases k3 : xAt xs 0 = 3
      · rw [guessO_com k3] at hg ⊢
        obtain ⟨ao, c, hv, _⟩ := hg.pv
        have hv : pv = .slice ao (gCom xs).parents.length c := hv
        rw [hv]
        exact objectOfCom (gCom xs) _ w hg.com.tree.1 (comO_one (gCom xs) _ rfl) (com_one (gCom xs) _ rfl)
      · have k4 : xAt xs 0 = 4 := by omega
        rw [guessO_tag k4] at hg ⊢
        exact objectOfTag (gTag xs) w hg.tag.target.1 (tagO_one (gTag xs)) (tag_one (gTag xs))
theorem parErr_zero [TabC] {xs : List Int} (h : parErr xs = 0) : xs.length ≤ 65536 ∧ 1 ≤ xAt xs 0 ∧ xAt xs 0 ≤ 4 := by
  unfold parErr at h
  split at h
  · exact absurd h (by decide)
  · split at h
    · exact absurd h (by decide)
    · rename_i h1 h2
      have := Classical.not_not.1 h2
      omega

/-- As ParA; and the lists are new memory. -/
def ParF [TabC] (w : World) (xs : List Int) (e : Ending) (w' : World) : Prop :=
  ∃ o, e = .returned (.tuple #[.agg o.row.toArray, .int .i64 (parErr xs)]) ∧ ObjL.Good w' o ∧ Kept [] w w' ∧ (parErr xs = 0 → ∃ bv ev pv, o = guessO xs bv ev pv) ∧ (parErr xs ≠ 0 → o = zeroO) ∧
    ∀ b, (blkOf o.bv = some b ∨ blkOf o.ev = some b ∨ blkOf o.pv = some b) → w.heap.size ≤ b
set_option maxRecDepth 100000 in
set_option maxHeartbeats 4000000 in
/-- object.Parse, of any bytes. -/
theorem Parse_new [TabC] (v : Value) (xs : List Int) (w : World) (hv : BytesAt w v xs) (ho : Octs xs) (hT : Tabs w) : Calls Tryz.prog 35 #[v] w (ParF w xs) := by
  have k0 : Kept [] w (w.alloc (.cells Tryz.zeroCells78 78)) := (Kept.refl _ _).alloc _
  have hrd := read_any v xs _ (hv.keep k0 (fun _ _ _ => by simp)) ho (hT.kept k0)
  have HK0 : Hid (Kept [] w (w.alloc (.cells Tryz.zeroCells78 78))) := k0
  have HZ : Hid ((w.alloc (.cells Tryz.zeroCells78 78)).heap[w.heap.size]? = some (.cells Tryz.zeroCells78 78 (0, 0))) := heap_alloc_new w _
  have hun := Tryz.underlying78
  obtain ⟨ao, cap, rfl, _⟩ := hv
  by_cases her : parErr xs = 0
  · obtain ⟨_, hk1, hk4⟩ := parErr_zero her
    clear ho hT k0
    go_enter Tryz.func35, Tryz.ntmps35
    go_wp2_with fail
    go_at_call 43
    refine hrd.mono ?_
    rintro e w1 ⟨k1, _, hok⟩
    obtain ⟨bv, ev, pv, rfl, hg1, hlow⟩ := hok her
    have hob := objectOf_any ⟨hk1, hk4⟩ hg1
    have hlow2 : ∀ b, (blkOf (guessO xs bv ev pv).bv = some b ∨ blkOf (guessO xs bv ev pv).ev = some b ∨ blkOf (guessO xs bv ev pv).pv = some b) → b ≠ w.heap.size := fun b hb => by
      have h := hlow b hb
      rw [World.size_alloc] at h
      omega
    have hoz : (guessO xs bv ev pv).row.toArray.size = 76 := by rw [List.size_toArray]; exact objL_len hg1.com.tree.1 hg1.tag.target.1
    have hos : (Tryz.prog.info? 78).map (·.size) = some (guessO xs bv ev pv).row.toArray.size := by rw [hoz]; kernel_rfl
    have hzz : Tryz.zeroCells78.size = (guessO xs bv ev pv).row.toArray.size := by rw [hoz]; kernel_rfl
    have hpo : (guessO xs bv ev pv).row.toArray.all (·.oneCell') = true := objL_one hg1
    have HK1 : Hid (Kept [] w w1) := HK0.out.then k1
    have HZ1 : Hid (w1.heap[w.heap.size]? = some (.cells Tryz.zeroCells78 78 (0, 0))) := k1.heap HZ.out (by simp)
    have HGW : Hid (∀ W, Kept [] w1 W → ObjL.Good (W.setRow w.heap.size (guessO xs bv ev pv).row.toArray) (guessO xs bv ev pv)) := fun W k => good_keep (hg1.kept k) ⟨rfl, rfl, rfl, by simp [World.setRow], fun j _ hn => setRow_other _ _ j _ (fun e => hn (by simp [e]))⟩ hlow2
    have HFin : Hid (∀ W e, e = .returned (.tuple #[.agg (guessO xs bv ev pv).row.toArray, .int .i64 0]) → Kept [] w W → ObjL.Good W (guessO xs bv ev pv) → ParF w xs e W) := fun W e he hk hg => ⟨guessO xs bv ev pv, by rw [her]; exact he, hg, hk, fun _ => ⟨bv, ev, pv, rfl⟩, fun h => absurd her h, fun b hb => by
      have h := hlow b hb
      rw [World.size_alloc] at h
      omega⟩
    clear hrd k1 hg1 hlow hlow2 hok
    generalize conV (guessO xs bv ev pv) = cv at *
    generalize hor : (guessO xs bv ev pv).row.toArray = orr at *
    clear hor
    go_wp2_with fail
    go_at_call 50
    refine (hob _).mono ?_
    rintro e w2 ⟨rfl, k2⟩
    have HK2 : Hid (Kept [] w w2) := HK1.out.then k2
    have HZ2 : Hid (w2.heap[w.heap.size]? = some (.cells Tryz.zeroCells78 78 (0, 0))) := k2.heap HZ1.out (by simp)
    have HG2 := HGW.out w2 k2
    clear hob k2
    go_wp2_with (refine wpList_store_row (by rfl) 78 (.tmp 2) (.tmp 16) (by rfl) w.heap.size orr (by rfl) (by rfl) 78 _ HZ2.out hos hzz hpo ?_)
    refine bodyPost_ret (v := .tuple #[.agg orr, .int .i64 0]) ?_ rfl (HFin.out _ _ rfl (kept_setRow HK2.out (Nat.le_refl _) _) HG2)
    rw [results_cell_tmp rfl]
    have hld := run_loadVar_row (P := Tryz.prog) _ w.heap.size 78 78 orr (0, 0) _ (setRow_heap _ _ _ _ _ _ HZ2.out) hun rfl hos
    simp [asAddr, Result.andThen, hld]
  · have hbz := built_zero
    have hzz : Tryz.zeroCells78.size = zeroO.row.toArray.size := by kernel_rfl
    have hzs : (Tryz.prog.info? 78).map (·.size) = some zeroO.row.toArray.size := by kernel_rfl
    have hz1 : zeroO.row.toArray.all (·.oneCell') = true := by kernel_rfl
    have HFin : Hid (∀ W e, e = .returned (.tuple #[.agg zeroO.row.toArray, .int .i64 (parErr xs)]) → Kept [] w W → ParF w xs e W) := fun W e he hk => ⟨zeroO, he, zeroO_good W, hk, fun h => absurd h her, fun _ => rfl, fun b hb => by
      rcases hb with h | h | h <;> cases h⟩
    have hne0 : (parErr xs != 0) = true := bne_iff_ne.2 her
    clear ho hT k0
    generalize hzr : zeroO.row.toArray = zr at *
    clear hzr
    go_enter Tryz.func35, Tryz.ntmps35
    go_wp2_with fail
    go_at_call 43
    refine hrd.mono ?_
    rintro e w1 ⟨k1, hbad, _⟩
    obtain rfl := hbad her
    have HK1 : Hid (Kept [] w w1) := HK0.out.then k1
    have HZ1 : Hid (w1.heap[w.heap.size]? = some (.cells Tryz.zeroCells78 78 (0, 0))) := k1.heap HZ.out (by simp)
    clear hrd k1 hbad
    generalize parErr xs = er at *
    go_wp2_with (first
      | (refine wpList_build_some (by rfl) 78 _ (by rfl) zr (by simp; exact hbz) ?_)
      | (refine wpList_store_row (by rfl) 78 (.tmp 2) (.tmp 13) (by rfl) w.heap.size zr (by rfl) (by rfl) 78 _ HZ1.out hzs hzz hz1 ?_))
    refine bodyPost_ret (v := .tuple #[.agg zr, .int .i64 er]) ?_ rfl (HFin.out _ _ rfl (kept_setRow HK1.out (Nat.le_refl _) _))
    rw [results_cell_tmp rfl]
    have hld := run_loadVar_row (P := Tryz.prog) _ w.heap.size 78 78 zr (0, 0) _ (setRow_heap _ _ _ _ _ _ HZ1.out) hun rfl hzs
    simp [asAddr, Result.andThen, hld]
theorem Parse_any [TabC] (v : Value) (xs : List Int) (w : World) (hv : BytesAt w v xs) (ho : Octs xs) (hT : Tabs w) : Calls Tryz.prog 35 #[v] w (ParA w xs) :=
  (Parse_new v xs w hv ho hT).mono fun _ _ ⟨o, h1, h2, h3, h4, h5, _⟩ => ⟨o, h1, h2, h3, h4, h5⟩
end Go.Proofs.YtbphibolgckmnaaGreatDoor

namespace Go.Proofs.YtbphibolgckmnaaGreatDoor
open Go.RowKit

theorem wpList_append_k {ops : Array Oper} {rest : List Oper} {o : Oper} {a : Act} {w : World} {Q : Exit → Act → World → Prop} (hgd : o.guard = none) (s x : Operand) (T e : TypeId) (z : Value) (k bytes : Nat)
    (hT : Tryz.prog.underlying T = some (.slice e)) (hinfo : (Tryz.prog.info? e).map (fun i => (i.zero, i.size, i.bytes)) = some (some z, k, bytes)) (hzk : z.cells.size = k) (hk : 0 < k)
    (ho : o.op = .call { callee := .builtin .append, args := #[s, x], argTypes := #[T, T] }) {B : Nat} {v : Value} {n : Nat} {xs : List Value} (hs : a.eval s = v) (hown : w.ownsRow B e k v n xs)
    {q : Nat} {us : List Value} (hx : a.eval x = .slice (some ⟨q, 0, none⟩) 1 1) (hul : us.length = k) (hc : w.rangeAt q 0 us) (hu : ∀ u, u ∈ us → u.oneCell' = true) (hl : n ≤ 1000000) (hb : bytes ≤ 1000) (hB : B ≤ w.heap.size)
    (h : ∀ v' w', w'.ownsRow B e k v' (n + 1) (xs ++ us) → Kept v.ownBlock.toList w w' → (v'.ownBlock = v.ownBlock ∨ v'.ownBlock = some w.heap.size) → wpList Tryz.prog ops Q rest (a.put o.dst v') w') : wpList Tryz.prog ops Q (o :: rest) a w := by
  refine wpList_plain hgd fun K hK => ?_
  have h0 := step_append_k (ops := ops) (K := K) (Q := Q) (E := True) hgd s x T e z k bytes hT hinfo hzk hk ho hs hown hx hul hc hu hl hb hB (fun v' w' a1 a2 a3 => hK _ _ (h v' w' a1 a2 a3))
  rw [if_pos (by simp [Region.wanted, hgd])] at h0
  exact h0
theorem owns_form {w : World} {B : Nat} {e : TypeId} {k : Nat} {v : Value} {n : Nat} {xs : List Value} (h : w.ownsRow B e k v n xs) : ∃ ao cap, v = .slice ao n cap := by
  obtain ⟨_, ⟨rfl, rfl⟩ | ⟨g, cap, _, rfl, _⟩⟩ := h
  · exact ⟨none, 0, rfl⟩
  · exact ⟨_, cap, rfl⟩

/-- A list of links in a block of one's own. -/
def LkOwn (w : World) (B : Nat) (v : Value) (ks : List LinkL) : Prop := w.ownsRow B 100 33 v ks.length (ks.map LinkL.row).flatten
theorem LinkL.row_len {l : LinkL} (h : l.id.length = 32) : l.row.length = 33 := by simp [LinkL.row, h]
theorem LinkL.one (l : LinkL) : ∀ v, v ∈ l.row → v.oneCell' = true := fun v hv => by
  unfold LinkL.row at hv
  rcases List.mem_append.1 hv with h | h
  · exact map_oneCell _ v h
  · rw [List.mem_singleton.1 h]; rfl
theorem LkOwn.nil (w : World) (B : Nat) : LkOwn w B (.slice none 0 0) [] := ⟨rfl, Or.inl ⟨rfl, rfl⟩⟩
theorem LkOwn.push {w : World} {B : Nat} {v : Value} {ks : List LinkL} {k : LinkL} (h : w.ownsRow B 100 33 v (ks.length + 1) ((ks.map LinkL.row).flatten ++ k.row)) : LkOwn w B v (ks ++ [k]) := by
  unfold LkOwn
  rw [List.length_append, List.map_append, List.flatten_append, List.map_singleton, List.flatten_singleton]
  exact h
theorem LkOwn.first {w : World} {B : Nat} (hB : B ≤ w.heap.size) (k : LinkL) (hk : k.id.length = 32) : LkOwn (w.alloc (.cells k.row.toArray 100)) B (.slice (some ⟨w.heap.size, 0, none⟩) 1 1) [k] := by
  refine ⟨by simp [LinkL.row, hk], Or.inr ⟨w.heap.size, 1, k.row.toArray, rfl, hB, heap_alloc_new w _, Nat.le_refl _, by decide, by rw [List.size_toArray, LinkL.row_len hk], ?_⟩⟩
  simp [LinkL.row]
  exact List.take_of_length_le (by simp [hk])
theorem LkOwn.rows {w : World} {B : Nat} {v : Value} {ks : List LinkL} (h : LkOwn w B v ks) (hg : ∀ k, k ∈ ks → k.id.length = 32) (hn : ks.length ≤ 1000000) : RowsAt w v 33 (ks.map LinkL.row) := by
  refine ownsK_rows (by decide) (fun r hr => ?_) (by rw [List.length_map]; exact h) (by rw [List.length_map]; omega)
  obtain ⟨k, hk, rfl⟩ := List.mem_map.1 hr
  exact LinkL.row_len (hg k hk)

/-- What a commit names. -/
def linksC (c : ComL) : List LinkL := LinkL.mk c.tree 2 :: c.parents.map fun p => LinkL.mk p 3

set_option maxRecDepth 100000 in
set_option maxHeartbeats 2000000 in
theorem comChildren_any (c : ComL) (pv : Value) (w : World) (hp : IdsAt w pv c.parents) (hg : c.Good) (hn : c.parents.length ≤ 1000) :
    Calls Tryz.prog 153 #[.agg (c.row pv).toArray] w fun e w' => ∃ v, e = .returned v ∧ LkOwn w' (w.heap.size + 1) v (linksC c) ∧ Kept [] w w' := by
  have HTC : Hid ((w.alloc (.cells (c.row pv).toArray 114)).rangeAt w.heap.size 0 (c.tree.map (Value.int .u8)) ∧ ∀ W, Kept [] (w.alloc (.cells (c.row pv).toArray 114)) W → W.cell? ⟨w.heap.size, 32, none⟩ = some pv) := by
    obtain ⟨a0, a1, _⟩ := com_cells hg.tree.1 (heap_alloc_new w (.cells (c.row pv).toArray 114))
    exact ⟨a0, fun W hW => hW.cell a1 (by simp)⟩
  obtain ⟨a0, a1⟩ := HTC.out
  have hbl := built_link c.tree hg.tree.1 2
  have hsi : (Tryz.prog.info? 29).map (·.size) = some (c.tree.map (Value.int .u8)).length := by rw [List.length_map, hg.tree.1]; exact Tryz.infoID
  have hmid : (c.tree.map (Value.int .u8)).toArray = idC c.tree := rfl
  have hl := hg.tree.1
  have kA : Kept [] w (w.alloc (.cells (c.row pv).toArray 114)) := (Kept.refl _ _).alloc _
  have kB : Kept [] (w.alloc (.cells (c.row pv).toArray 114)) ((w.alloc (.cells (c.row pv).toArray 114)).alloc (.cells (LinkL.mk c.tree 2).row.toArray 100)) := (Kept.refl _ _).alloc _
  have a2 := a1 _ kB
  have HV : Hid (∀ W, Kept [] w W → IdsAt W pv c.parents) := fun W k => hp.keep k (fun _ _ _ => by simp)
  have HG : Hid (∀ o, o ∈ c.parents → GoodID o) := hg.parents
  have HS : Hid (LkOwn ((w.alloc (.cells (c.row pv).toArray 114)).alloc (.cells (LinkL.mk c.tree 2).row.toArray 100)) (w.heap.size + 1) (.slice (some ⟨w.heap.size + 1, 0, none⟩) 1 1) [LinkL.mk c.tree 2]) := by
    have h := LkOwn.first (w := w.alloc (.cells (c.row pv).toArray 114)) (B := w.heap.size + 1) (by simp) (LinkL.mk c.tree 2) hl
    rw [World.size_alloc] at h
    exact h
  have HK0 : Hid (Kept [] w ((w.alloc (.cells (c.row pv).toArray 114)).alloc (.cells (LinkL.mk c.tree 2).row.toArray 100))) := kA.trans kB (by simp)
  have HLC : Hid (linksC c = LinkL.mk c.tree 2 :: c.parents.map fun p => LinkL.mk p 3) := rfl
  generalize linksC c = lks at *
  obtain ⟨ao, cap, rfl, hcap, _, hlen, _⟩ := hp
  have hui := Tryz.underlying29
  clear a1 HTC kA kB hg
  generalize (c.row (.slice ao c.parents.length cap)).toArray = tr at *
  generalize c.parents = ids at *
  go_enter Tryz.func153, Tryz.ntmps153
  go_wp2_with (first
    | (refine wpList_load_mid (by rfl) 29 (.tmp 6) (by rfl) w.heap.size 0 (by rfl) (c.tree.map (Value.int .u8)) _ a0 hui rfl hsi ?_; rw [hmid])
    | (refine wpList_build_some (by rfl) 100 _ (by rfl) (LinkL.mk c.tree 2).row.toArray (by simp; exact hbl) ?_)
    | (refine wpList_build_link1 (by rfl) (.tmp 8) (by rfl) (LinkL.mk c.tree 2) hl (by rfl) ?_))
  go_loopw [3, 5, 13] (fun s3 _ s13 wr => ∃ k : Nat, k ≤ ids.length ∧ s13 = .int .i64 k ∧ Hid (LkOwn wr (w.heap.size + 1) s3 (LinkL.mk c.tree 2 :: (ids.take k).map fun p => LinkL.mk p 3)) ∧ Hid (Kept [] w wr)) (fun _ _ s13 _ => ids.length - (intOf s13).toNat)
  case atStart => exact ⟨0, Nat.zero_le _, rfl, by simpa using HS, HK0⟩
  case round =>
    clear HS HK0 a0 a2 hbl hsi hmid
    obtain ⟨k, hk, rfl, HL, HK⟩ := hrel
    obtain ⟨ao3, cap3, hv3⟩ := owns_form HL.out
    have hln : (LinkL.mk c.tree 2 :: (ids.take k).map fun p => LinkL.mk p 3).length = k + 1 := by simp; omega
    rw [hln] at hv3
    subst hv3
    by_cases hlt : k < ids.length
    · obtain ⟨o, ho⟩ : ∃ o, ids[k]? = some o := ⟨_, List.getElem?_eq_getElem hlt⟩
      have hgo := HG.out o (List.mem_of_getElem? ho)
      obtain ⟨ao', cap', he, _, _, _, hc⟩ := HV.out wr HK.out
      injection he with e1 e2 e3
      subst e1 e3
      obtain ⟨b, off, rfl, hh⟩ := hc (by rintro rfl; simp at hlt)
      have hr := hh k o ho
      have hso : (Tryz.prog.info? 29).map (·.size) = some (o.map (Value.int .u8)).length := by rw [List.length_map, hgo.1]; exact Tryz.infoID
      have hsoc : (Tryz.prog.info? 29).map (·.size) = some (idC o).size := by rw [idC_size hgo.1]; exact Tryz.infoID
      have hao : (idC o).all (·.oneCell') = true := all_oneCell_toArray (map_oneCell _)
      have ho32 : (idC o).size = 32 := idC_size hgo.1
      have hoc : (o.map (Value.int .u8)).toArray = idC o := rfl
      have hbx := range_box wr o 29
      have hbo := built_link o hgo.1 3
      have hlo := hgo.1
      have k1 : Kept [] wr ((wr.alloc (.cells (idC o) 29)).alloc (.cells (LinkL.mk o 3).row.toArray 100)) := ((Kept.refl _ _).alloc _).alloc _
      have rng2 : ((wr.alloc (.cells (idC o) 29)).alloc (.cells (LinkL.mk o 3).row.toArray 100)).rangeAt (wr.heap.size + 1) 0 (LinkL.mk o 3).row := by
        have h := row_range (heap_alloc_new (wr.alloc (.cells (idC o) 29)) (.cells (LinkL.mk o 3).row.toArray 100))
        rw [World.size_alloc] at h
        exact h
      have own2 : ((wr.alloc (.cells (idC o) 29)).alloc (.cells (LinkL.mk o 3).row.toArray 100)).ownsRow (w.heap.size + 1) 100 33 (.slice ao3 (k + 1) cap3) (k + 1) ((LinkL.mk c.tree 2 :: (ids.take k).map fun p => LinkL.mk p 3).map LinkL.row).flatten := by
        have h := HL.out
        unfold LkOwn at h
        rw [hln] at h
        exact ownsK_on h k1 (fun _ _ => by simp)
      have hk6 : k + 1 ≤ 1000000 := by omega
      have hB2 : w.heap.size + 1 ≤ ((wr.alloc (.cells (idC o) 29)).alloc (.cells (LinkL.mk o 3).row.toArray 100)).heap.size := by
        have := HK.out.size
        rw [World.size_alloc, World.size_alloc]
        omega
      have hll : (LinkL.mk o 3).row.length = 33 := LinkL.row_len hlo
      have hone := LinkL.one (LinkL.mk o 3)
      have HN : Hid (∀ v' w', w'.ownsRow (w.heap.size + 1) 100 33 v' (k + 1 + 1) (((LinkL.mk c.tree 2 :: (ids.take k).map fun p => LinkL.mk p 3).map LinkL.row).flatten ++ (LinkL.mk o 3).row) → Kept (Value.slice ao3 (k + 1) cap3).ownBlock.toList ((wr.alloc (.cells (idC o) 29)).alloc (.cells (LinkL.mk o 3).row.toArray 100)) w' → LkOwn w' (w.heap.size + 1) v' (LinkL.mk c.tree 2 :: (ids.take (k + 1)).map fun p => LinkL.mk p 3) ∧ Kept [] w w') := fun v' w' q1 q2 => by
        rw [← hln] at q1
        have h := LkOwn.push q1
        have ho' : ids[k] = o := (List.getElem?_eq_some_iff.1 ho).2
        refine ⟨?_, ?_⟩
        · rw [List.take_succ_eq_append_getElem hlt, List.map_append, ho']
          exact h
        · have lo := fun g hg => (World.ownsRow.lt own2 g hg).1
          refine (HK.out.trans k1 (by simp)).trans q2 fun g hg => Or.inr ?_
          have := lo g (by simpa using hg)
          omega
      clear hh hc ho hgo k1 hln HL
      generalize ((LinkL.mk c.tree 2 :: (ids.take k).map fun p => LinkL.mk p 3).map LinkL.row).flatten = ls at *
      go_wp2_with (first
        | (refine wpList_load_mid (by rfl) 29 (.tmp 15) (by rfl) b (off + k * 32) (by rfl) (o.map (Value.int .u8)) _ hr hui rfl hso ?_; rw [hoc])
        | (refine wpList_store_new (by rfl) 29 (.tmp 5) (.tmp 16) (by rfl) wr _ (idC o) (by rfl) (by rfl) hsoc (by rw [ho32]; rfl) hao ?_)
        | (refine wpList_load_mid (by rfl) 29 (.tmp 5) (by rfl) wr.heap.size 0 (by rfl) (o.map (Value.int .u8)) _ hbx hui rfl hso ?_; rw [hoc])
        | (refine wpList_build_some (by rfl) 100 _ (by rfl) (LinkL.mk o 3).row.toArray (by simp; exact hbo) ?_)
        | (refine wpList_build_link1 (by rfl) (.tmp 19) (by rfl) (LinkL.mk o 3) hlo (by rfl) ?_)
        | (at_builtin; refine wpList_append_k (by rfl) (.tmp 17) (.tmp 20) 57 100 (.agg zeroK.row.toArray) 33 40 Tryz.underlying57 Tryz.zeroLink rfl (by decide) (by rfl) (v := .slice ao3 (k + 1) cap3) (by rfl) own2 (q := wr.heap.size + 1) (us := (LinkL.mk o 3).row) (by simp; rfl) hll rng2 hone hk6 (by decide) hB2 ?_; intro v5 w5 h5 k5 b5
           obtain ⟨ao5, cap5, rfl⟩ := owns_form h5
           obtain ⟨HL5, HK5⟩ := HN.out _ w5 h5 k5
           clear h5 k5 b5))
      go_roundw
      case rel => exact ⟨k + 1, by omega, by go_num, HL5, HK5⟩
      case measure => simp [intOf]; omega
    · obtain rfl : k = ids.length := by omega
      have HR : Hid (LkOwn wr (w.heap.size + 1) (.slice ao3 (ids.length + 1) cap3) lks) := by
        have h := HL.out
        rw [List.take_length] at h
        rw [HLC.out]
        exact h
      clear HL HLC
      go_wp2
      go_ret
      exact ⟨_, rfl, HR.out, HK.out⟩
end Go.Proofs.YtbphibolgckmnaaGreatDoor
