/-
  WALK: satchelref3.guess of a blob.
  APPEND of one struct of k cells to a list of one's own; a list of one struct made anew.
-/
import Derived.Test.YtnfbiemmdaenpaaDoorGs3
import Derived.Test.YtnfbiemmdaenpaaDoorTag0
import Derived.Test.YtnfbiemmdaenpaaDoorTag2
import Derived.Maps.AppendAt
import Derived.Great.BuildSlice
import Derived.Deep.RegionLaw
namespace Go.Proofs.YtnfbiemmdaenpaaDoor
open Go.RowKit

set_option maxRecDepth 100000 in
set_option maxHeartbeats 4000000 in
theorem guessBlob_any (v : Value) (xs : List Int) (w : World) (hv : BytesAt w v xs) (ho : Octs xs) (hl : xs.length ≤ 65536) (hk : xAt xs 0 = 1) (hne : xs ≠ []) :
    Calls Tryd.prog 29 #[v] w fun e w' => ∃ bv, e = .returned (.agg ({ kindO 1 with bv := bv, blob := xs.drop 1 } : ObjL).row.toArray) ∧ BytesAt w' bv (xs.drop 1) ∧ (∀ b, blkOf bv = some b → w.heap.size ≤ b) ∧ Kept [] w w' := by
  have hp1 : plus xs 0 1 = 1 := by unfold plus; have := List.length_pos_iff.2 hne; omega
  have hpos : 1 ≤ xs.length := List.length_pos_iff.2 hne
  obtain ⟨ao, cap, rfl, hcap, hnil⟩ : ∃ ao cap, v = .slice ao xs.length cap ∧ xs.length ≤ cap ∧ (ao = none → cap = 0) := by obtain ⟨ao, cap, h1, h2, h3, _⟩ := hv; exact ⟨ao, cap, h1, h2, h3⟩
  have hg0 := GAt.start hv ho hl
  have h1 := one_any hg0
  rw [hk, hp1] at h1
  have hun := Tryd.underlying33
  have hkz : (kindO 1).row.toArray.size = 76 := by rw [List.size_toArray]; rfl
  have hks : (Tryd.prog.info? 33).map (·.size) = some (kindO 1).row.toArray.size := by rw [hkz]; kernel_rfl
  have hkzz : Tryd.zeroCells33.size = (kindO 1).row.toArray.size := by rw [hkz]; kernel_rfl
  have hk1 : (kindO 1).row.toArray.all (·.oneCell') = true := by kernel_rfl
  have hbl := built_kind 1
  have HST : Hid (∀ w1, Kept [w.heap.size + 1] ((w.alloc (.cells Tryd.zeroCells33 33)).alloc (.cells #[.slice ao xs.length cap, .int .i64 0] 101)) w1 → GAt w1 (w.heap.size + 1) (.slice ao xs.length cap) xs 1 → Gu w (w1.alloc (.cells (kindO 1).row.toArray 33)) w1.heap.size (.slice ao xs.length cap) xs 1 (kindO 1)) := fun w1 k0 g => Gu.start hv k0 g
  have HK : Hid (∃ X, X = (kindO 1).row.toArray) := ⟨_, rfl⟩
  generalize hkr : (kindO 1).row.toArray = kr at *
  have HKR : Hid ((kindO 1).row.toArray = kr) := hkr
  have c0 : kr[0]? = some (.int .i64 1) := by rw [← hkr]; rfl
  clear hkr HK hg0 hk
  go_enter Tryd.func29, Tryd.ntmps29
  go_wp2_with fail
  go_at_call 49
  refine h1.mono ?_
  rintro e w1 ⟨rfl, g1, k1⟩
  have HG1 := HST.out w1 k1 g1
  have d0 : (w1.alloc (.cells kr 33)).cell? ⟨w1.heap.size, 0, none⟩ = some (.int .i64 1) := by rw [cell_of_row _ _ _ _ _ _ (heap_alloc_new w1 _)]; exact c0
  clear h1 HST g1 k1
  have hsz1 : w1.heap.size = w1.heap.size := rfl
  clear hsz1
  go_upto_region 5 with (first
    | (refine wpList_build_some (by rfl) 33 _ (by rfl) kr (by simp; exact hbl) ?_)
    | (refine wpList_store_new (by rfl) 33 (.tmp 4) (.tmp 16) (by rfl) w1 _ kr (by rfl) (by rfl) hks hkzz hk1 ?_))
  generalize w1.alloc (.cells kr 33) = W0 at *
  generalize w1.heap.size = ob at *
  obtain ⟨p0, hp0⟩ : ∃ p : Nat, p = 1 := ⟨_, rfl⟩
  obtain ⟨o0, ho0⟩ : ∃ o : ObjL, o = kindO 1 := ⟨_, rfl⟩
  have HG0 : Gu w W0 ob (.slice ao xs.length cap) xs p0 o0 := by rw [hp0, ho0]; exact HG1
  have hcl0 : o0.com.tree.length = 32 := by rw [ho0]; rfl
  have htl0 : o0.tag.target.length = 32 := by rw [ho0]; rfl
  have HP0 : Hid (p0 = 1) := hp0
  have HO0 : Hid (o0 = kindO 1) := ho0
  clear HG1 hp0 ho0 d0 HKR c0 hbl hk1 hkzz hks hkz
  have hcut : ∀ (ao : Option Addr) (cap lo : Nat), (if cap = lo then ao else Option.map (fun x => x.add lo) ao) = cutA ao cap lo := fun _ _ _ => rfl
  have hcopy := Copy_any _ _ W0 (bytes_tail HG0.gat.bytes 1 hpos) (by rw [List.length_drop]; omega)
  have hdl : (xs.drop 1).length = xs.length - 1 := List.length_drop
  rw [hdl] at hcopy
  have hobl : ob < W0.heap.size := (Array.getElem?_eq_some_iff.1 HG0.blk).1
  have HU0 : Hid (Gu w W0 ob (.slice ao xs.length cap) xs p0 o0) := HG0
  have hlo := HG0.lo
  clear HG0
  have hcap1 : 1 ≤ cap := by omega
  go_wp2_with fail
  go_at_call 23
  refine hcopy.mono ?_
  rintro e w2 ⟨rfl, row2, k2⟩
  have HN0 := HU0.out.on k2
  obtain ⟨⟨cc, dc⟩, fc⟩ := HN0.cell (i := 1) (by rw [objL_len hcl0 htl0]; decide)
  obtain ⟨o1, ho1⟩ : ∃ o : ObjL, o = { o0 with bv := (Value.slice (some ⟨W0.heap.size, 0, none⟩) (xs.length - 1) (xs.length - 1)), blob := xs.drop 1 } := ⟨_, rfl⟩
  have HZ : Gu w (w2.setCell ⟨ob, 1, none⟩ (Value.slice (some ⟨W0.heap.size, 0, none⟩) (xs.length - 1) (xs.length - 1))) ob (.slice ao xs.length cap) xs p0 o1 := HN0.put (by rw [ho1]; rfl)
  have kS : Kept [ob] w2 (w2.setCell ⟨ob, 1, none⟩ (Value.slice (some ⟨W0.heap.size, 0, none⟩) (xs.length - 1) (xs.length - 1))) := (Kept.refl _ _).setCell (Or.inl (by simp)) _
  have B2 : BytesAt (w2.setCell ⟨ob, 1, none⟩ (Value.slice (some ⟨W0.heap.size, 0, none⟩) (xs.length - 1) (xs.length - 1))) (Value.slice (some ⟨W0.heap.size, 0, none⟩) (xs.length - 1) (xs.length - 1)) (xs.drop 1) := by
    have hb0 := row_bytes' row2
    rw [hdl] at hb0
    refine hb0.keep kS (fun _ b hb e => ?_)
    have e1 : W0.heap.size = b := by simpa [blkOf] using hb
    simp at e
    omega
  have hbb : ∀ b, blkOf (Value.slice (some ⟨W0.heap.size, 0, none⟩) (xs.length - 1) (xs.length - 1)) = some b → w.heap.size + 1 ≤ b := fun b hb => by
    have e1 : W0.heap.size = b := by simpa [blkOf] using hb
    omega
  have hcl1 : o1.com.tree.length = 32 := by rw [ho1]; exact hcl0
  have htl1 : o1.tag.target.length = 32 := by rw [ho1]; exact htl0
  have hone : o1.row.toArray.all (·.oneCell') = true := by rw [ho1, HO0.out]; exact objV_one rfl rfl rfl
  have HZ2 : Hid (Gu w (w2.setCell ⟨ob, 1, none⟩ (Value.slice (some ⟨W0.heap.size, 0, none⟩) (xs.length - 1) (xs.length - 1))) ob (.slice ao xs.length cap) xs p0 o1) := HZ
  have HB2 : Hid (BytesAt (w2.setCell ⟨ob, 1, none⟩ (Value.slice (some ⟨W0.heap.size, 0, none⟩) (xs.length - 1) (xs.length - 1))) (Value.slice (some ⟨W0.heap.size, 0, none⟩) (xs.length - 1) (xs.length - 1)) (xs.drop 1)) := B2
  have HBB : Hid (∀ b, blkOf (Value.slice (some ⟨W0.heap.size, 0, none⟩) (xs.length - 1) (xs.length - 1)) = some b → w.heap.size + 1 ≤ b) := hbb
  have HE : Hid (o1 = { kindO 1 with bv := (Value.slice (some ⟨W0.heap.size, 0, none⟩) (xs.length - 1) (xs.length - 1)), blob := xs.drop 1 }) := by show _ = _; rw [ho1, HO0.out]
  clear hcopy row2 k2 HN0 HZ kS B2 hbb ho1 HU0
  go_upto_region 31 with fail
  have HG1 := HZ2.out
  have HB3 := HB2.out
  clear HZ2 HB2 dc fc
  generalize w2.setCell ⟨ob, 1, none⟩ (Value.slice (some ⟨W0.heap.size, 0, none⟩) (xs.length - 1) (xs.length - 1)) = W1 at *
  have HB4 : Hid (BytesAt (W1.setRow w.heap.size o1.row.toArray) (Value.slice (some ⟨W0.heap.size, 0, none⟩) (xs.length - 1) (xs.length - 1)) (xs.drop 1)) := HB3.keep (S := [w.heap.size]) ⟨rfl, rfl, rfl, by simp [World.setRow], fun j _ hn => setRow_other W1 _ j _ (fun e => hn (by simp [e]))⟩ (fun _ b hb e => by have := HBB.out b hb; simp at e; omega)
  clear HB3
  have hoz : o1.row.toArray.size = 76 := by rw [List.size_toArray]; exact objL_len hcl1 htl1
  have hos : (Tryd.prog.info? 33).map (·.size) = some o1.row.toArray.size := by rw [hoz]; kernel_rfl
  have hozz : Tryd.zeroCells33.size = o1.row.toArray.size := by rw [hoz]; kernel_rfl
  have HOB : Hid (W1.heap[ob]? = some (.cells o1.row.toArray 33 (0, 0))) := HG1.blk
  have HRS : Hid (W1.heap[w.heap.size]? = some (.cells Tryd.zeroCells33 33 (0, 0))) := HG1.res
  have HFin : Hid (Kept [] w (W1.setRow w.heap.size o1.row.toArray)) := kept_setRow HG1.kp (Nat.le_refl _) _
  clear HG1
  generalize hpr : o1.row.toArray = pr at *
  have HPr : Hid (o1.row.toArray = pr) := hpr
  clear hpr
  go_wp2_with (first
    | (refine wpList_load_row (by rfl) 33 (.tmp 4) (by rfl) ob (by rfl) 33 pr (0, 0) _ HOB.out hun rfl hos ?_)
    | (refine wpList_store_row (by rfl) 33 (.tmp 2) (.tmp 126) (by rfl) w.heap.size pr (by rfl) (by rfl) 33 _ HRS.out hos hozz hone ?_))
  refine bodyPost_ret (v := .agg pr) ?_ rfl ?_
  · rw [results_cell1 rfl]
    exact run_loadVar_row (P := Tryd.prog) _ w.heap.size 33 33 pr (0, 0) _ (setRow_heap _ _ _ _ _ _ HRS.out) hun rfl hos
  · exact ⟨_, by rw [← HE.out, HPr.out], HB4.out, fun b hb => by have := HBB.out b hb; omega, HFin.out⟩
end Go.Proofs.YtnfbiemmdaenpaaDoor

namespace Go.Proofs.YtnfbiemmdaenpaaDoor
open Go.RowKit

theorem step_append_k {ops : Array Oper} {o : Oper} {a : Act} {w : World} {K : Act → World → Prop} {Q : Exit → Act → World → Prop} {E : Prop} (hgd : o.guard = none) (s x : Operand) (T e : TypeId) (z : Value) (k bytes : Nat)
    (hT : Tryd.prog.underlying T = some (.slice e)) (hinfo : (Tryd.prog.info? e).map (fun i => (i.zero, i.size, i.bytes)) = some (some z, k, bytes)) (hzk : z.cells.size = k) (hk : 0 < k)
    (ho : o.op = .call { callee := .builtin .append, args := #[s, x], argTypes := #[T, T] }) {B : Nat} {v : Value} {n : Nat} {xs : List Value} (hs : a.eval s = v) (hown : w.ownsRow B e k v n xs)
    {q : Nat} {us : List Value} (hx : a.eval x = .slice (some ⟨q, 0, none⟩) 1 1) (hul : us.length = k) (hc : w.rangeAt q 0 us) (hu : ∀ u, u ∈ us → u.oneCell' = true) (hl : n ≤ 1000000) (hb : bytes ≤ 1000) (hB : B ≤ w.heap.size)
    (h : ∀ v' w', w'.ownsRow B e k v' (n + 1) (xs ++ us) → Kept v.ownBlock.toList w w' → (v'.ownBlock = v.ownBlock ∨ v'.ownBlock = some w.heap.size) → K (a.put o.dst v') w') : if Region.wanted o (yielded ops a.tmps) = true then Oper.wp Tryd.prog o a w K Q else E := by
  have hw : Region.wanted o (yielded ops a.tmps) = true := by simp [Region.wanted, hgd]
  rw [if_pos hw]
  obtain ⟨i0, hi, hez⟩ := Option.map_eq_some_iff.1 hinfo
  simp only [Prod.mk.injEq] at hez
  obtain ⟨q0, q1, q2⟩ := hez
  have hnews : ∀ j t, us[j]? = some t → w.cell? ((⟨q, 0, none⟩ : Addr).add j) = some t := fun j t ht => by
    rw [Addr.add_mid]
    exact hc j t ht
  have hmul : (n + 1) * bytes ≤ (1000000 + 1) * 1000 := Nat.mul_le_mul (by omega) hb
  obtain ⟨v', w', hr, h2, h3, _, h5⟩ := run_append_own_at (P := Tryd.prog) w B T o.type e i0 z k bytes hT hi q0 q1 q2 hzk hk v n xs hown ⟨q, 0, none⟩ 1 1 us (by rw [hul, Nat.one_mul]) hnews hu (by unfold maxLen; omega) (by omega) hB
  unfold Oper.wp execOp
  simp only [ho, resolve, invoke, builtin, Sem.run_bind, Sem.run_pure, Result.andThen_ok, List.map_toArray, List.map_cons, List.map_nil, hs, hx, hr]
  exact h v' w' h2 ((Kept.refl _ _).grown h3 fun k hk => Or.inl (by simp [hk])) h5
theorem run_build_k {t e : TypeId} {z : List Value} {k bytes : Nat} (hT : Tryd.prog.underlying t = some (.slice e)) (hinfo : (Tryd.prog.info? e).map (fun i => (i.zero, i.size, i.bytes)) = some (some (.agg z.toArray), k, bytes)) (hk : 0 < k) (hk2 : k ≤ 1000) (us : List Value) (hul : us.length = k) (W : World) :
    (Instr.buildSlice t 1 #[(0, .agg us.toArray)]).run Tryd.prog W = .ok (.slice (some ⟨W.heap.size, 0, none⟩) 1 1) (W.alloc (.cells us.toArray e)) := by
  obtain ⟨i0, hi, hez⟩ := Option.map_eq_some_iff.1 hinfo
  simp only [Prod.mk.injEq] at hez
  obtain ⟨q0, q1, q2⟩ := hez
  refine run_buildSlice W t e 1 _ us.toArray i0 (.agg z.toArray) hT hi q0 (by rw [q1]; omega) (by rw [q1]; omega) ?_
  have hsz : ((Array.range (1 * i0.size)).map ((Value.agg z.toArray).cells[· % (Value.agg z.toArray).cells.size]!)).size = k := by simp [q1]
  generalize (Array.range (1 * i0.size)).map ((Value.agg z.toArray).cells[· % (Value.agg z.toArray).cells.size]!) = C at *
  obtain ⟨C⟩ := C
  show Instr.fill (fun i => some (i * i0.size, i0.size)) C.toArray [(0, .agg us.toArray)] = some us.toArray
  have hC : C.length = k := by simpa using hsz
  rw [fill_step (fun i => some (i * i0.size, i0.size)) C.toArray 0 (.agg us.toArray) [] 0 k (by simp [q1]) (by show us.toArray.size = k; simpa using hul) (by simp [hC])]
  have e1 : (Value.agg us.toArray).cells.toList = us := rfl
  rw [e1, setL_put _ _ _ (by omega), fill_nil]
  unfold putL
  rw [List.take_zero, List.nil_append, Nat.zero_add, hul, List.drop_eq_nil_of_le (by omega), List.append_nil]
theorem ownsK_on {w w' : World} {B : Nat} {e : TypeId} {k : Nat} {v : Value} {n : Nat} {xs : List Value} {T : List Nat} (h : w.ownsRow B e k v n xs) (q : Kept T w w') (hn : ∀ g, v.ownBlock = some g → g ∉ T) : w'.ownsRow B e k v n xs := by
  obtain ⟨hl, h | ⟨g, cap, cur, hv, hB, hg, h1, h2, h3, h4⟩⟩ := h
  · exact ⟨hl, Or.inl h⟩
  · refine ⟨hl, Or.inr ⟨g, cap, cur, hv, hB, q.heap hg (hn g (by rw [hv]; rfl)), h1, h2, h3, h4⟩⟩
theorem fold_setL : ∀ (l : List Value) (o : Nat) (C : Array Value), List.foldl (fun (cs : Array Value) (x : Value × Nat) => cs.setIfInBounds x.snd x.fst) C (l.zipIdx o) = setL C o l
  | [], _, _ => rfl
  | v :: l, o, C => by
    simp only [List.zipIdx_cons, List.foldl_cons]
    exact fold_setL l (o + 1) (C.setIfInBounds o v)
theorem fold_setL' (a : Nat) : ∀ (l : List Value) (o : Nat) (C : Array Value), List.foldl (fun (cs : Array Value) (x : Value × Nat) => cs.setIfInBounds (a + x.snd) x.fst) C (l.zipIdx o) = setL C (a + o) l
  | [], _, _ => rfl
  | v :: l, o, C => by
    simp only [List.zipIdx_cons, List.foldl_cons]
    exact fold_setL' a l (o + 1) (C.setIfInBounds (a + o) v)
theorem fold_two (l : List Value) (b c : Value) (C : List Value) (h : C.length = l.length) : List.foldl (fun (cs : Array Value) (x : Value × Nat) => cs.setIfInBounds (2 + x.snd) x.fst) (b :: c :: C).toArray l.zipIdx = (b :: c :: l).toArray := by
  rw [fold_setL' 2 l 0, setL_put _ _ _ (by simp; omega)]
  unfold putL
  show (([b, c] ++ l) ++ List.drop (2 + 0 + l.length) (b :: c :: C)).toArray = _
  rw [List.drop_eq_nil_of_le (by simp; omega), List.append_nil]
  rfl
theorem fold_all (l : List Value) (C : List Value) (h : C.length = l.length) : List.foldl (fun (cs : Array Value) (x : Value × Nat) => cs.setIfInBounds x.snd x.fst) C.toArray l.zipIdx = l.toArray := by
  rw [fold_setL l 0, setL_put _ _ _ (by omega)]
  unfold putL
  rw [List.take_zero, List.nil_append, Nat.zero_add, List.drop_eq_nil_of_le (by omega), List.append_nil]
/-- Such a list, row by row. -/
theorem ownsK_rows {w : World} {B : Nat} {e : TypeId} {k : Nat} (hk : 0 < k) {v : Value} {rows : List (List Value)} (hr : ∀ r, r ∈ rows → r.length = k) (h : w.ownsRow B e k v rows.length rows.flatten) (hn : rows.length ≤ 140737488351232) : RowsAt w v k rows := by
  obtain ⟨hl, ⟨rfl, h0⟩ | ⟨g, cap, cur, rfl, hB, hg, h1, h2, h3, h4⟩⟩ := h
  · have e0 : rows = [] := by
      cases rows with
      | nil => rfl
      | cons r rs => simp at h0
    subst e0
    exact ⟨none, 0, rfl, Nat.le_refl _, fun _ => rfl, by simp, fun e => absurd rfl e⟩
  · refine ⟨_, cap, rfl, h1, fun e => by simp at e, hn, fun _ => ⟨g, 0, rfl, fun i cs hi j u hj => ?_⟩⟩
    rw [cell_of_row _ _ _ _ _ _ hg, Nat.zero_add]
    have hjk : j < k := by
      have := (List.getElem?_eq_some_iff.1 hj).1
      have := hr cs (List.mem_of_getElem? hi)
      omega
    have hi2 : i < rows.length := (List.getElem?_eq_some_iff.1 hi).1
    have e1 : rows.flatten[i * k + j]? = some u := by
      rw [flat_bind k hk rows hr, Nat.mul_comm i k, Nat.mul_add_div hk, Nat.div_eq_of_lt hjk, Nat.add_zero, hi, Nat.mul_add_mod, Nat.mod_eq_of_lt hjk]
      exact hj
    rw [← h4, List.getElem?_take_of_lt ?_] at e1
    · rw [← e1, Array.getElem?_toList]
    · have : i * k + k ≤ rows.length * k := by rw [← Nat.succ_mul]; exact Nat.mul_le_mul_right k hi2
      omega
end Go.Proofs.YtnfbiemmdaenpaaDoor
