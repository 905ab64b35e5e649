/-
  WALK: satchellaw14.RefsBack.
-/
import Derived.Test.YtmjbaficdoehfaaDoorRb1
import Derived.Test.YtmjbaficdoehfaaDoorRm8
import Derived.Test.YtmjbaficdoehfaaDoorRm12
import Derived.Test.YtmjbaficdoehfaaDoorRm14
import Derived.Test.YtmjbaficdoehfaaDoorRm5
import Derived.Test.YtmjbaficdoehfaaDoorRn7
import Derived.Test.YtmjbaficdoehfaaDoorQuiet
import Derived.Deep.RegionWith
import Derived.Deep.RegionHeld
import Derived.Deep.RegionLaw
import Derived.Deep.CutRange
import Derived.Deep.RegionHeldLaw
namespace Go.Proofs.YtmjbaficdoehfaaDoor
open Go.RowKit Go.Sort

theorem valR_at {o : Oper} {a : Act} {C : World → Prop} {K : Act → Prop} (v : Value) (hv : ∀ W, C W → (execOp a.eval o).run Tryd.prog W = .ok (.value v) W) (hK : K (a.put o.dst v)) : o.quiet Tryd.prog a C K :=
  ⟨v, fun W hW => by unfold Oper.quietAt; rw [hv W hW]; exact ⟨rfl, rfl⟩, hK⟩
theorem owns_low {w : World} {B B' : Nat} {e : TypeId} {k : Nat} {v : Value} {n : Nat} {xs : List Value} (h : w.ownsRow B e k v n xs) (hb : B' ≤ B) : w.ownsRow B' e k v n xs := by
  obtain ⟨hl, h | ⟨g, cap, cur, hv, hB, hg, h1, h2, h3, h4⟩⟩ := h
  · exact ⟨hl, Or.inl h⟩
  · exact ⟨hl, Or.inr ⟨g, cap, cur, hv, by omega, hg, h1, h2, h3, h4⟩⟩
theorem range_new (w : World) (us : List Value) (e : TypeId) : (w.alloc (.cells us.toArray e)).rangeAt w.heap.size 0 us := fun j v hj => by
  rw [cell_of_row _ _ _ _ _ _ (heap_alloc_new w _), Nat.zero_add, ← Array.getElem?_toList]
  simpa using hj
theorem built_not (S : ByteArray) : Tryd.prog.built 37 [(0, .string S), (3, .bool true)] = some #[.string S, .string ⟨#[]⟩, .bool false, .bool true] := by kernel_rfl
theorem step_build_k {ops : Array Oper} {o : Oper} {a : Act} {w : World} {K : Act → World → Prop} {Q : Exit → Act → World → Prop} {E : Prop} (hgd : o.guard = none) {t e : TypeId} {z : List Value} {k bytes : Nat} (hT : Tryd.prog.underlying t = some (.slice e)) (hinfo : (Tryd.prog.info? e).map (fun i => (i.zero, i.size, i.bytes)) = some (some (.agg z.toArray), k, bytes)) (hk : 0 < k) (hk2 : k ≤ 1000)
    (x : Operand) (ho : o.op = .buildSlice t 1 #[(0, x)]) (us : List Value) (hx : a.eval x = .agg us.toArray) (hul : us.length = k)
    (h : K (a.put o.dst (.slice (some ⟨w.heap.size, 0, none⟩) 1 1)) (w.alloc (.cells us.toArray e))) : if Region.wanted o (yielded ops a.tmps) = true then Oper.wp Tryd.prog o a w K Q else E := by
  have hw : Region.wanted o (yielded ops a.tmps) = true := by simp [Region.wanted, hgd]
  rw [if_pos hw]
  have hr := run_build_k hT hinfo hk hk2 us hul w
  unfold Oper.wp execOp
  simp only [ho, Sem.run_bind, Sem.run_pure, Result.andThen_ok, List.map_toArray, List.map_cons, List.map_nil, hx, hr]
  exact h
theorem step_build_some {ops : Array Oper} {o : Oper} {a : Act} {w : World} {K : Act → World → Prop} {Q : Exit → Act → World → Prop} {E : Prop} (hgd : o.guard = none) (t : TypeId) (parts : Array (Nat × Operand)) (ho : o.op = .build t parts) (cells : Array Value)
    (hb : Tryd.prog.built t (parts.map fun (i, x) => (i, a.eval x)).toList = some cells) (hK : K (a.put o.dst (.agg cells)) w) : if Region.wanted o (yielded ops a.tmps) = true then Oper.wp Tryd.prog o a w K Q else E := by
  have hw : Region.wanted o (yielded ops a.tmps) = true := by simp [Region.wanted, hgd]
  rw [if_pos hw]
  refine wp_build t parts ho (by rw [hb]; rfl) ?_
  rw [hb]
  exact hK
theorem star_take {p : List Int} {k : Nat} (h : k < p.length) : starB (p.take (k + 1)) = (starB (p.take k) || (p.getD k 0 == 42)) := by
  have e : p.take (k + 1) = p.take k ++ [p.getD k 0] := by rw [List.take_add_one, List.getElem?_eq_getElem h, List.getD_eq_getElem?_getD, List.getElem?_eq_getElem h]; rfl
  unfold starB
  rw [e, Bool.eq_iff_iff]
  simp only [List.mem_append, List.mem_singleton, decide_eq_true_eq, Bool.or_eq_true, beq_iff_eq]
  exact ⟨fun h => h.imp id Eq.symm, fun h => h.imp id Eq.symm⟩
theorem one_maps : mapL [RuleL.mk [97, 42] [98, 42] true false] [97, 122] = some ([98, 122], true) := by kernel_rfl
theorem one_row : [(RuleL.mk [97, 42] [98, 42] true false).row] = [[Value.string ⟨#[97, 42]⟩, .string ⟨#[98, 42]⟩, .bool true, .bool false]] := by kernel_rfl
theorem Tryd.built_one : Tryd.prog.built 37 [(0, .string ⟨#[97, 42]⟩), (1, .string ⟨#[98, 42]⟩), (2, .bool true)] = some #[.string ⟨#[97, 42]⟩, .string ⟨#[98, 42]⟩, .bool true, .bool false] := by kernel_rfl
theorem strV_is (q : Option (List UInt8)) : strV q = .tuple #[.string ⟨(q.getD []).toArray⟩, .bool q.isSome] := rfl
theorem not_of_false {b : Bool} (h : b = false) : ¬ b = true := by rw [h]; decide
theorem mapU_bytesB {rs : List RuleL} {p : List Int} (h : Octs p) : mapU rs (bytesU p) = (mapL rs p).map fun x => bytesU x.1 := by unfold mapU; rw [nums_bytes h]
set_option maxRecDepth 100000 in
set_option maxHeartbeats 8000000 in
theorem back14_any (rv nv : Value) (rs : List RuleL) (L : List (List Int)) (w : World) (hr : RulesAt w rv rs) (hn : StrsAt w nv L) (hg : ∀ r, r ∈ rs → r.Good) (ho : ∀ p, p ∈ L → Octs p ∧ p.length ≤ 140737488351232) (hT : Tabs w) (hM : MaxW w) :
    Calls Tryd.prog 3 #[.agg #[rv, nv]] w fun e w' => e = .returned (.bool true) ∧ Kept [] w w' := by
  obtain ⟨W0, hW0⟩ : ∃ W0, W0 = w.alloc (.cells #[rv, nv] 25) := ⟨_, rfl⟩
  have k0 : Kept [] w W0 := by rw [hW0]; exact (Kept.refl _ _).alloc _
  have hfew := few_any rv nv rs L W0 (hr.kept k0) (hn.kept k0)
  have HB0 : Hid (W0.heap[w.heap.size]? = some (.cells #[rv, nv] 25 (0, 0))) := by
    have h : W0.heap[w.heap.size]? = some (.cells #[rv, nv] 25 (0, 0)) := by rw [hW0]; exact heap_alloc_new w _
    exact h
  have HW0 : Hid (W0 = w.alloc (.cells #[rv, nv] 25)) := hW0
  have HK0 : Hid (Kept [] w W0) := k0
  have HR : Hid (∀ W, Kept [] w W → RulesAt W rv rs) := fun W k => hr.kept k
  have HN : Hid (∀ W, Kept [] w W → StrsAt W nv L) := fun W k => hn.kept k
  have HG : Hid (∀ r, r ∈ rs.take 64 → r.Good) := fun r h => hg r (List.mem_of_mem_take h)
  have HO : Hid (∀ p, p ∈ L.take 200 → Octs p ∧ p.length ≤ 140737488351232) := fun p h => ho p (List.mem_of_mem_take h)
  have HT : Hid (Tabs w) := hT
  have HM : Hid (MaxW w) := hM
  have hun := Tryd.underlying25
  have hzs : (Tryd.prog.info? 25).map (·.size) = some 2 := by kernel_rfl
  have HLR : Hid ((rs.take 64).length ≤ 64) := by
    have h : (rs.take 64).length ≤ 64 := by rw [List.length_take]; omega
    exact h
  have HLL : Hid ((L.take 200).length ≤ 200) := by
    have h : (L.take 200).length ≤ 200 := by rw [List.length_take]; omega
    exact h
  obtain ⟨RS, hRS⟩ : ∃ RS, RS = rs.take 64 := ⟨_, rfl⟩
  obtain ⟨NS, hNS⟩ : ∃ NS, NS = L.take 200 := ⟨_, rfl⟩
  rw [← hRS] at HG HLR hfew
  rw [← hNS] at HO HLL hfew
  clear hr hn hg ho hT hM k0 hW0 hRS hNS
  go_enter Tryd.func3, Tryd.ntmps3
  go_wp2_with fail
  simp only [← HW0.out]
  go_wp2_with (first
    | (refine wpList_load_row (by rfl) 25 (.tmp 1) (by rfl) w.heap.size (by rfl) 25 _ (0, 0) _ HB0.out hun rfl hzs ?_))
  go_at_call 6
  refine hfew.mono ?_
  rintro e w1 ⟨rv', nv', rfl, hfr, hfn, k1⟩
  obtain ⟨ra, rc, rfl, _, _⟩ := (hfr w (HR.out w (Kept.refl _ _))).form
  obtain ⟨na, nc, rfl, _, _⟩ := hfn w (HN.out w (Kept.refl _ _))
  have hb1 : w1.heap[w.heap.size]? = some (.cells #[rv, nv] 25 (0, 0)) := k1.heap HB0.out (by simp)
  obtain ⟨w2, hw2⟩ : ∃ w2, w2 = w1.setRow w.heap.size #[(.slice ra RS.length rc), (.slice na NS.length nc)] := ⟨_, rfl⟩
  have hk2 : Kept [] w w2 := by rw [hw2]; exact kept_setRow (HK0.out.then k1) (Nat.le_refl _) _
  have hb2 : w2.heap[w.heap.size]? = some (.cells #[(.slice ra RS.length rc), (.slice na NS.length nc)] 25 (0, 0)) := by rw [hw2]; exact setRow_heap _ _ _ _ _ _ hb1
  have HB1 : Hid (w1.heap[w.heap.size]? = some (.cells #[rv, nv] 25 (0, 0))) := hb1
  have HW2 : Hid (w2 = w1.setRow w.heap.size #[(.slice ra RS.length rc), (.slice na NS.length nc)]) := hw2
  have HBX : Hid (∀ W, Kept [] w2 W → BxM W w.heap.size (.slice ra RS.length rc) (.slice na NS.length nc)) := fun W k => k.heap hb2 (by simp)
  have HRR : Hid (∀ W, Kept [] w2 W → RulesAt W (.slice ra RS.length rc) RS) := fun W k => (hfr w2 (HR.out w2 hk2)).kept k
  have HNN : Hid (∀ W, Kept [] w2 W → StrsAt W (.slice na NS.length nc) NS) := fun W k => (hfn w2 (HN.out w2 hk2)).kept k
  have HTT : Hid (∀ W, Kept [] w2 W → Tabs W) := fun W k => HT.out.kept (hk2.then k)
  have HMM : Hid (∀ W, Kept [] w2 W → MaxW W) := fun W k => HM.out.kept (hk2.then k)
  have HK2 : Hid (Kept [] w w2) := hk2
  have hright := right14_any w2 (HTT.out w2 (Kept.refl _ _))
  clear hfew hfr hfn hb1 hb2 hw2 hk2 k1 HR HN HT HM HB0 HW0 HK0
  go_wp2_with (first
    | (refine wpList_store_row (by rfl) 25 (.tmp 1) (.tmp 36) (by rfl) w.heap.size #[.slice ra RS.length rc, .slice na NS.length nc] (by rfl) (by rfl) 25 _ HB1.out hzs (by rfl) (by kernel_rfl) ?_; rw [← HW2.out]))
  go_at_call 7
  refine hright.mono ?_
  rintro e w3 ⟨rfl, k3⟩
  have HK3 : Hid (Kept [] w2 w3) := k3
  clear hright k3 HB1 HW2
  obtain ⟨U, hU⟩ : ∃ U, U = NS.map bytesU := ⟨_, rfl⟩
  have HU : Hid (∀ (j : Nat) p, NS[j]? = some p → U[j]? = some (bytesU p)) := fun j p hp => by rw [hU, List.getElem?_map, hp]; rfl
  have HUL : Hid (U.length = NS.length) := by
    have h : U.length = NS.length := by rw [hU, List.length_map]
    exact h
  have HUM : Hid (U = NS.map bytesU) := hU
  have HEQ : Hid (∀ (x y : List UInt8) , ((⟨x.toArray⟩ : ByteArray).toList == (⟨y.toArray⟩ : ByteArray).toList) = decide (x = y)) := fun x y => by
    rw [Lib.toList_data, Lib.toList_data, Bool.eq_iff_iff, beq_iff_eq, decide_eq_true_eq]
  have HLT : Hid (∀ (x y : List UInt8), Op.bytesLess (⟨x.toArray⟩ : ByteArray).toList (⟨y.toArray⟩ : ByteArray).toList = decide (x < y)) := fun x y => by
    rw [Lib.toList_data, Lib.toList_data, bytesLess_eq]
  clear hU
  go_wp2
  go_loopw [3, 4, 5] (fun s3 s4 s5 wr => ∃ (i : Nat) (q : Option (List UInt8)), i ≤ NS.length ∧ s5 = .int .i64 i ∧ s3 = .string ⟨(q.getD []).toArray⟩ ∧ s4 = .bool q.isSome ∧ Hid (Kept [] w3 wr) ∧ Hid (BestTo (PairK (mapU RS) U i 0) q)) (fun _ _ s5 _ => NS.length - (intOf s5).toNat)
  case atStart => exact ⟨0, none, Nat.zero_le _, rfl, rfl, rfl, Kept.refl _ _, ⟨(fun t h => by cases h), fun _ t => pair_start _ _ t⟩⟩
  case round =>
    obtain ⟨i, q, hi, rfl, rfl, rfl, HK, HBE⟩ := hrel
    have hNl : NS.length ≤ 200 := HLL.out
    have hRl : RS.length ≤ 64 := HLR.out
    have kk : Kept [] w2 wr := HK3.out.then HK.out
    have HC0 : Hid (∀ W, Kept [] wr W → W.cell? ⟨w.heap.size, 0, none⟩ = some (.slice ra RS.length rc)) := fun W k => (HBX.out W (kk.then k)).c0
    have HC1 : Hid (∀ W, Kept [] wr W → W.cell? ⟨w.heap.size, 1, none⟩ = some (.slice na NS.length nc)) := fun W k => (HBX.out W (kk.then k)).c1
    have a0 := HC0.out wr (Kept.refl _ _)
    have a1 := HC1.out wr (Kept.refl _ _)
    by_cases hlt : i < NS.length
    · have t0 : decide ((i : Int) < (NS.length : Int)) = true := by simp; omega
      obtain ⟨p, hp⟩ : ∃ p, NS[i]? = some p := ⟨_, List.getElem?_eq_getElem hlt⟩
      obtain ⟨ao', cap', he, _, _, hcc⟩ := HNN.out wr kk
      injection he with e1 e2 e3
      subst e1 e3
      obtain ⟨b, off, rfl, hh⟩ := hcc (by rintro rfl; simp at hlt)
      clear e2
      have HCN : Hid (∀ W, Kept [] wr W → ∀ j q, NS[j]? = some q → W.cell? ⟨b, off + j, none⟩ = some (.string ⟨(bytesU q).toArray⟩)) := fun W kW j q hq => by rw [← str_of_bytes]; exact kW.cell (hh j q hq) (by simp)
      have hop := HO.out p (List.mem_of_getElem? hp)
      have HOP : Hid (Octs p ∧ p.length ≤ 140737488351232) := hop
      have HLp : Hid (NS[i]? = some p) := hp
      have HUi : Hid (U[i]? = some (bytesU p)) := HU.out i p hp
      have HMP : Hid (∀ (n : List Int) , Octs n → n.length ≤ 140737488351232 → ∀ W, Kept [] wr W → Calls Tryd.prog 8 #[.slice ra RS.length rc, .string ⟨(bytesU n).toArray⟩] W fun e w' => e = .returned (mapV (mapL RS n)) ∧ Kept [] W w') := fun n hn hnl W k => by
        rw [← str_of_bytes]
        exact Map_any _ RS n W (HRR.out W (kk.then k)) (fun r h => HG.out r h) hn (by omega) (HTT.out W (kk.then k)) (HMM.out W (kk.then k))
      have HUN : Hid (∀ (n : List Int) , Octs n → n.length ≤ 140737488351232 → ∀ W, Kept [] wr W → Calls Tryd.prog 9 #[.slice ra RS.length rc, .string ⟨(bytesU n).toArray⟩] W fun e w' => e = .returned (optV (unmapL RS n)) ∧ Kept [] W w') := fun n hn hnl W k => by
        rw [← str_of_bytes]
        exact Unmap_any _ RS n W (HRR.out W (kk.then k)) (fun r h => HG.out r h) hn (by omega) (HTT.out W (kk.then k)) (HMM.out W (kk.then k))
      have HTW : Hid (∀ W, Kept [] wr W → Tabs W ∧ MaxW W ∧ RulesAt W (.slice ra RS.length rc) RS) := fun W k => ⟨HTT.out W (kk.then k), HMM.out W (kk.then k), HRR.out W (kk.then k)⟩
      have an := HCN.out wr (Kept.refl _ _) i p hp
      have i0 : (0 : Int) ≤ (i : Int) := by omega
      have i1 : (i : Int) < (NS.length : Int) := by omega
      have hpw := HMP.out p hop.1 hop.2 wr.drew (Kept.refl _ _).drew
      clear hh hp hop kk
      obtain ⟨A, F, OK, hmv⟩ : ∃ A F OK, mapV (mapL RS p) = .tuple #[.string A, .bool F, .bool OK] := ⟨_, _, _, rfl⟩
      have HMV : Hid (mapV (mapL RS p) = .tuple #[.string A, .bool F, .bool OK]) := hmv
      have HPW : Hid (∀ W, Kept [] wr W → Calls Tryd.prog 8 #[.slice ra RS.length rc, .string ⟨(bytesU p).toArray⟩] W fun e w' => e = .returned (.tuple #[.string A, .bool F, .bool OK]) ∧ Kept [] wr w') := fun W k => by
        have h := HMP.out p HOP.out.1 HOP.out.2 W k
        rw [hmv] at h
        exact h.mono fun e w' ⟨h1, h2⟩ => ⟨h1, k.then h2⟩
      clear hmv
      go_wp2
      refine region_quiet (Kept [] wr) (by kernel_rfl) (by kernel_rfl) (Kept.refl [] wr).drew ?_
      with_reducible refine wpQuiet_step ?_
      intro K hK
      rw [if_pos (by go_simp)]
      refine val_at (.pointer (some ⟨w.heap.size, 0, none⟩)) (fun W => by go_simp) (hK _ ?_)
      clear hK K
      simp only [Act.put, List.setIfInBounds_toArray, List.set_cons_zero, List.set_cons_succ]
      with_reducible refine wpQuiet_step ?_
      intro K hK
      rw [if_pos (by go_simp)]
      refine valR_at (.slice ra RS.length rc) (fun W hW => by have hcc := HC0.out W hW; go_simp) (hK _ ?_)
      clear hK K
      simp only [Act.put, List.setIfInBounds_toArray, List.set_cons_zero, List.set_cons_succ]
      with_reducible refine wpQuiet_step ?_
      intro K hK
      rw [if_pos (by go_simp)]
      refine val_at (.pointer (some ⟨w.heap.size, 1, none⟩)) (fun W => by go_simp) (hK _ ?_)
      clear hK K
      simp only [Act.put, List.setIfInBounds_toArray, List.set_cons_zero, List.set_cons_succ]
      with_reducible refine wpQuiet_step ?_
      intro K hK
      rw [if_pos (by go_simp)]
      refine valR_at (.slice (some ⟨b, off, none⟩) NS.length nc) (fun W hW => by have hcc := HC1.out W hW; go_simp) (hK _ ?_)
      clear hK K
      simp only [Act.put, List.setIfInBounds_toArray, List.set_cons_zero, List.set_cons_succ]
      with_reducible refine wpQuiet_step ?_
      intro K hK
      rw [if_pos (by go_simp)]
      refine move_at (.tmp 5) rfl (.int .i64 i) rfl (hK _ ?_)
      clear hK K
      simp only [Act.put, List.setIfInBounds_toArray, List.set_cons_zero, List.set_cons_succ]
      with_reducible refine wpQuiet_step ?_
      intro K hK
      rw [if_pos (by go_simp)]
      refine val_at (.pointer (some ⟨b, off + i, none⟩)) (fun W => by go_simp) (hK _ ?_)
      clear hK K
      simp only [Act.put, List.setIfInBounds_toArray, List.set_cons_zero, List.set_cons_succ]
      with_reducible refine wpQuiet_step ?_
      intro K hK
      rw [if_pos (by go_simp)]
      refine valR_at (.string ⟨(bytesU p).toArray⟩) (fun W hW => by have hcc := HCN.out W hW i p HLp.out; go_simp) (hK _ ?_)
      clear hK K
      simp only [Act.put, List.setIfInBounds_toArray, List.set_cons_zero, List.set_cons_succ]
      with_reducible refine wpQuiet_step ?_
      intro K hK
      rw [if_pos (by go_simp)]
      refine call_at 8 #[.slice ra RS.length rc, .string ⟨(bytesU p).toArray⟩] (.tuple #[.string A, .bool F, .bool OK]) (fun W => by go_simp) HPW.out (hK _ ?_)
      clear hK K
      simp only [Act.put, List.setIfInBounds_toArray, List.set_cons_zero, List.set_cons_succ]
      with_reducible refine wpQuiet_step ?_
      intro K hK
      rw [if_pos (by go_simp)]
      refine move_at (.tmp 54) rfl (.tuple #[.string A, .bool F, .bool OK]) rfl (hK _ ?_)
      clear hK K
      simp only [Act.put, List.setIfInBounds_toArray, List.set_cons_zero, List.set_cons_succ]
      with_reducible refine wpQuiet_step ?_
      intro K hK
      rw [if_pos (by go_simp)]
      refine val_at (.string A) (fun W => by go_simp) (hK _ ?_)
      clear hK K
      simp only [Act.put, List.setIfInBounds_toArray, List.set_cons_zero, List.set_cons_succ]
      with_reducible refine wpQuiet_step ?_
      intro K hK
      rw [if_pos (by go_simp)]
      refine val_at (.bool F) (fun W => by go_simp) (hK _ ?_)
      clear hK K
      simp only [Act.put, List.setIfInBounds_toArray, List.set_cons_zero, List.set_cons_succ]
      with_reducible refine wpQuiet_step ?_
      intro K hK
      rw [if_pos (by go_simp)]
      refine val_at (.bool OK) (fun W => by go_simp) (hK _ ?_)
      clear hK K
      simp only [Act.put, List.setIfInBounds_toArray, List.set_cons_zero, List.set_cons_succ]
      with_reducible refine wpQuiet_step ?_
      intro K hK
      rw [if_pos (by go_simp)]
      refine val_at (.string A) (fun W => by go_simp) (hK _ ?_)
      clear hK K
      simp only [Act.put, List.setIfInBounds_toArray, List.set_cons_zero, List.set_cons_succ]
      with_reducible refine wpQuiet_step ?_
      intro K hK
      rw [if_pos (by go_simp)]
      refine val_at (.bool F) (fun W => by go_simp) (hK _ ?_)
      clear hK K
      simp only [Act.put, List.setIfInBounds_toArray, List.set_cons_zero, List.set_cons_succ]
      with_reducible refine wpQuiet_step ?_
      intro K hK
      rw [if_pos (by go_simp)]
      refine val_at (.bool OK) (fun W => by go_simp) (hK _ ?_)
      clear hK K
      simp only [Act.put, List.setIfInBounds_toArray, List.set_cons_zero, List.set_cons_succ]
      refine wpQuiet_nil fun w4 k4 => ?_
      have HK4 : Hid (Kept [] wr w4) := k4
      have b0w4 := HC0.out w4 HK4.out
      have b1w4 := HC1.out w4 HK4.out
      have bnw4 := HCN.out w4 HK4.out i p HLp.out
      clear k4
      clear hpw
      go_upto_if 58 with (fail)
      go_cut [] from 58 to 100 (fun wx => Hid (Kept [] wr wx))
      case first =>
        as_aux_lemma =>
          cases hm : mapL RS p with
          | none =>
            have h := HMV.out
            rw [hm, mapV_none] at h
            injection h with h
            injection h with h
            simp only [List.cons.injEq, Value.bool.injEq, Value.string.injEq, and_true] at h
            obtain ⟨rfl, rfl, rfl⟩ := h
            clear hm
            go_wp2
            go_meet
            exact HK4
          | some tf =>
            obtain ⟨ta, f⟩ := tf
            have h := HMV.out
            rw [hm, mapV_some] at h
            injection h with h
            injection h with h
            simp only [List.cons.injEq, Value.bool.injEq, Value.string.injEq, and_true] at h
            obtain ⟨rfl, rfl, rfl⟩ := h
            obtain ⟨hota, hlta⟩ := map_octs (fun r h => HG.out r h) HOP.out.1 hm
            obtain ⟨n, hn⟩ := unmap_of_map hm
            obtain ⟨hon, hln⟩ := unmap_octs (fun r h => HG.out r h) hota hn
            obtain ⟨f2, hm2⟩ := map_of_unmap hn
            obtain ⟨hg1, hg2⟩ := map_good hm
            have hua := HUN.out ta hota (by omega) w4 HK4.out
            rw [hn, optV_some, str_of_bytes] at hua
            have HMN : Hid (∀ W, Kept [] wr W → Calls Tryd.prog 8 #[.slice ra RS.length rc, .string ⟨(bytesU n).toArray⟩] W fun e w' => e = .returned (.tuple #[.string (strOfNums ta), .bool f2, .bool true]) ∧ Kept [] W w') := fun W k => by
              have h := HMP.out n hon (by omega) W k
              rw [hm2, mapV_some] at h
              exact h
            have HCA : Hid (∀ W, Kept [] wr W → Calls Tryd.prog 11 #[.string (strOfNums ta)] W fun e w' => e = .returned (.int .i64 0) ∧ Kept [] W w') := fun W k => by
              have h := Check_any ta hota (by omega) W (HTW.out W k).1
              rw [hg2, if_pos rfl] at h
              exact h
            have HCP : Hid (∀ W, Kept [] wr W → Calls Tryd.prog 11 #[.string ⟨(bytesU p).toArray⟩] W fun e w' => e = .returned (.int .i64 0) ∧ Kept [] W w') := fun W k => by
              have h := Check_any p HOP.out.1 (by have := HOP.out.2; omega) W (HTW.out W k).1
              rw [hg1, if_pos rfl, str_of_bytes] at h
              exact h
            clear hm hn hm2 hg1 hg2 hota hon
            rw [← str_of_bytes ta] at hua
            generalize (⟨(bytesU n).toArray⟩ : ByteArray) = NB at *
            go_wp2_with (first
              | (go_at_call 9; refine hua.mono ?_; rintro e w5 ⟨rfl, k5⟩
                 have HK5 : Hid (Kept [] wr w5) := HK4.out.then k5
                 have hmn := HMN.out w5 HK5.out
                 have c0 := HC0.out w5 HK5.out
                 clear hua k5)
              | (go_at_call 8; refine hmn.mono ?_; rintro e w6 ⟨rfl, k6⟩
                 have HK6 : Hid (Kept [] wr w6) := HK5.out.then k6
                 have hca := HCA.out w6 HK6.out
                 clear hmn k6)
              | (go_at_call 10; refine (num14_any _ _).mono ?_; rintro e w9 ⟨rfl, hw9⟩; subst w9)
              | (go_at_call 11; refine hca.mono ?_; rintro e w7 ⟨rfl, k7⟩
                 have HK7 : Hid (Kept [] wr w7) := HK6.out.then k7
                 have c1 := HC1.out w7 HK7.out
                 have cn := HCN.out w7 HK7.out i p HLp.out
                 have hcp := HCP.out w7 HK7.out
                 clear hca k7)
              | (go_at_call 11; refine hcp.mono ?_; rintro e w8 ⟨rfl, k8⟩
                 have HK8 : Hid (Kept [] wr w8) := HK7.out.then k8
                 clear hcp k8))
            go_meet
            exact HK8
      case rest =>
      have HK4c : Hid (Kept [] wr wc) := hcut
      clear hcut
      obtain ⟨o, ho⟩ : ∃ o, o = unmapL RS p := ⟨_, rfl⟩
      obtain ⟨n, hn⟩ : ∃ n, n = o.getD [] := ⟨_, rfl⟩
      have hno : Octs n ∧ n.length ≤ 255 := by
        cases o with
        | none => rw [hn]; exact ⟨fun u hu => by simp at hu, by simp⟩
        | some m => rw [hn]; exact unmap_octs (fun r h => HG.out r h) HOP.out.1 ho.symm
      obtain ⟨A2, F2, O2, hm2⟩ : ∃ A F O, mapV (mapL RS n) = .tuple #[.string A, .bool F, .bool O] := ⟨_, _, _, rfl⟩
      have HHM : Hid (∀ m, o = some m → A2 = ⟨(bytesU p).toArray⟩ ∧ O2 = true) := fun m hm => by
        have h1 : n = m := by rw [hn, hm]; rfl
        obtain ⟨f, hf⟩ := map_of_unmap (ho.symm.trans hm)
        rw [h1, hf, mapV_some, str_of_bytes] at hm2
        injection hm2 with h
        injection h with h
        simp only [List.cons.injEq, Value.bool.injEq, Value.string.injEq, and_true] at h
        exact ⟨h.1.symm, h.2.2.symm⟩
      have HUW : Hid (∀ W, Kept [] wc W → Calls Tryd.prog 9 #[.slice ra RS.length rc, .string ⟨(bytesU p).toArray⟩] W fun e w' => e = .returned (.tuple #[.string ⟨(bytesU n).toArray⟩, .bool o.isSome]) ∧ Kept [] wc w') := fun W k => by
        have h := HUN.out p HOP.out.1 HOP.out.2 W (HK4c.out.then k)
        rw [← ho] at h
        have e : optV o = .tuple #[.string ⟨(bytesU n).toArray⟩, .bool o.isSome] := by rw [hn, ← str_of_bytes]; rfl
        rw [e] at h
        exact h.mono fun e w' ⟨h1, h2⟩ => ⟨h1, k.then h2⟩
      have HMN : Hid (∀ W, Kept [] wr W → Calls Tryd.prog 8 #[.slice ra RS.length rc, .string ⟨(bytesU n).toArray⟩] W fun e w' => e = .returned (.tuple #[.string A2, .bool F2, .bool O2]) ∧ Kept [] W w') := fun W k => by
        have h := HMP.out n hno.1 (by omega) W k
        rw [hm2] at h
        exact h
      clear hm2 hno hn ho HPW
      go_wp2
      refine region_quiet (Kept [] wc) (by kernel_rfl) (by kernel_rfl) (Kept.refl [] wc).drew ?_
      with_reducible refine wpQuiet_step ?_
      intro K hK
      rw [if_pos (by go_simp)]
      refine val_at (.pointer (some ⟨w.heap.size, 0, none⟩)) (fun W => by go_simp) (hK _ ?_)
      clear hK K
      simp only [Act.put, List.setIfInBounds_toArray, List.set_cons_zero, List.set_cons_succ]
      with_reducible refine wpQuiet_step ?_
      intro K hK
      rw [if_pos (by go_simp)]
      refine valR_at (.slice ra RS.length rc) (fun W hW => by have hcc := HC0.out W (HK4c.out.then hW); go_simp) (hK _ ?_)
      clear hK K
      simp only [Act.put, List.setIfInBounds_toArray, List.set_cons_zero, List.set_cons_succ]
      with_reducible refine wpQuiet_step ?_
      intro K hK
      rw [if_pos (by go_simp)]
      refine val_at (.pointer (some ⟨w.heap.size, 1, none⟩)) (fun W => by go_simp) (hK _ ?_)
      clear hK K
      simp only [Act.put, List.setIfInBounds_toArray, List.set_cons_zero, List.set_cons_succ]
      with_reducible refine wpQuiet_step ?_
      intro K hK
      rw [if_pos (by go_simp)]
      refine valR_at (.slice (some ⟨b, off, none⟩) NS.length nc) (fun W hW => by have hcc := HC1.out W (HK4c.out.then hW); go_simp) (hK _ ?_)
      clear hK K
      simp only [Act.put, List.setIfInBounds_toArray, List.set_cons_zero, List.set_cons_succ]
      with_reducible refine wpQuiet_step ?_
      intro K hK
      rw [if_pos (by go_simp)]
      refine move_at (.tmp 5) rfl (.int .i64 i) rfl (hK _ ?_)
      clear hK K
      simp only [Act.put, List.setIfInBounds_toArray, List.set_cons_zero, List.set_cons_succ]
      with_reducible refine wpQuiet_step ?_
      intro K hK
      rw [if_pos (by go_simp)]
      refine val_at (.pointer (some ⟨b, off + i, none⟩)) (fun W => by go_simp) (hK _ ?_)
      clear hK K
      simp only [Act.put, List.setIfInBounds_toArray, List.set_cons_zero, List.set_cons_succ]
      with_reducible refine wpQuiet_step ?_
      intro K hK
      rw [if_pos (by go_simp)]
      refine valR_at (.string ⟨(bytesU p).toArray⟩) (fun W hW => by have hcc := HCN.out W (HK4c.out.then hW) i p HLp.out; go_simp) (hK _ ?_)
      clear hK K
      simp only [Act.put, List.setIfInBounds_toArray, List.set_cons_zero, List.set_cons_succ]
      with_reducible refine wpQuiet_step ?_
      intro K hK
      rw [if_pos (by go_simp)]
      refine call_at 9 #[.slice ra RS.length rc, .string ⟨(bytesU p).toArray⟩] (.tuple #[.string ⟨(bytesU n).toArray⟩, .bool o.isSome]) (fun W => by go_simp) HUW.out (hK _ ?_)
      clear hK K
      simp only [Act.put, List.setIfInBounds_toArray, List.set_cons_zero, List.set_cons_succ]
      with_reducible refine wpQuiet_step ?_
      intro K hK
      rw [if_pos (by go_simp)]
      refine move_at (.tmp 109) rfl (.tuple #[.string ⟨(bytesU n).toArray⟩, .bool o.isSome]) rfl (hK _ ?_)
      clear hK K
      simp only [Act.put, List.setIfInBounds_toArray, List.set_cons_zero, List.set_cons_succ]
      with_reducible refine wpQuiet_step ?_
      intro K hK
      rw [if_pos (by go_simp)]
      refine val_at (.string ⟨(bytesU n).toArray⟩) (fun W => by go_simp) (hK _ ?_)
      clear hK K
      simp only [Act.put, List.setIfInBounds_toArray, List.set_cons_zero, List.set_cons_succ]
      with_reducible refine wpQuiet_step ?_
      intro K hK
      rw [if_pos (by go_simp)]
      refine val_at (.bool o.isSome) (fun W => by go_simp) (hK _ ?_)
      clear hK K
      simp only [Act.put, List.setIfInBounds_toArray, List.set_cons_zero, List.set_cons_succ]
      with_reducible refine wpQuiet_step ?_
      intro K hK
      rw [if_pos (by go_simp)]
      refine val_at (.string ⟨(bytesU n).toArray⟩) (fun W => by go_simp) (hK _ ?_)
      clear hK K
      simp only [Act.put, List.setIfInBounds_toArray, List.set_cons_zero, List.set_cons_succ]
      with_reducible refine wpQuiet_step ?_
      intro K hK
      rw [if_pos (by go_simp)]
      refine val_at (.bool o.isSome) (fun W => by go_simp) (hK _ ?_)
      clear hK K
      simp only [Act.put, List.setIfInBounds_toArray, List.set_cons_zero, List.set_cons_succ]
      refine wpQuiet_nil fun w5 k5 => ?_
      have HK5 : Hid (Kept [] wr w5) := HK4c.out.then k5
      have b0w5 := HC0.out w5 HK5.out
      have b1w5 := HC1.out w5 HK5.out
      have bnw5 := HCN.out w5 HK5.out i p HLp.out
      clear k5
      clear HUW
      go_step
      go_step
      go_step
      go_cut [16, 17, 18] from 112 to 119 (fun s16 s17 s18 wx => s16 = .string A2 ∧ s17 = .bool F2 ∧ s18 = .bool O2 ∧ Hid (Kept [] wr wx))
      case first =>
        go_wp2_with (first
          | (go_at_call 8; refine (HMN.out w5 HK5.out).mono ?_; rintro e w6 ⟨rfl, k6⟩
             have HK6 : Hid (Kept [] wr w6) := HK5.out.then k6
             clear k6))
        go_meet
        exact ⟨rfl, rfl, rfl, HK6⟩
      case rest =>
      obtain ⟨rfl, rfl, rfl, HK6⟩ := hcut
      have b1w6 := HC1.out wc HK6.out
      have bnw6 := HCN.out wc HK6.out i p HLp.out
      clear HMN
      go_step
      go_step
      go_cut [133] from 120 to 132 (fun s133 wx => s133 = .bool false ∧ Hid (Kept [] wr wx))
      case first =>
        cases o with
        | none =>
          clear HHM
          go_wp2
          go_meet
          exact ⟨rfl, HK6⟩
        | some m =>
          obtain ⟨rfl, rfl⟩ := HHM.out m rfl
          clear HHM
          go_wp2
          go_meet
          exact ⟨rfl, HK6⟩
      case rest =>
      obtain ⟨rfl, HK6⟩ := hcut
      clear HHM b1w6 bnw6
      go_step
      go_step
      go_cut [3, 4] from 134 to 182 (fun s3 s4 wx => ∃ q', s3 = .string ⟨(q'.getD []).toArray⟩ ∧ s4 = .bool q'.isSome ∧ Hid (BestTo (PairK (mapU RS) U (i + 1) 0) q') ∧ Hid (Kept [] wr wx))
      case first =>
        as_aux_lemma =>
          go_wp2
          cases hm : mapL RS p with
          | none =>
            have HB9 : Hid (BestTo (PairK (mapU RS) U (i + 1) 0) q) := HBE.out.iff (fun t => pair_idle HUi.out (by rw [mapU_bytesB HOP.out.1, hm]; rfl) t)
            have h := HMV.out
            rw [hm, mapV_none] at h
            injection h with h
            injection h with h
            simp only [List.cons.injEq, Value.bool.injEq, Value.string.injEq, and_true] at h
            obtain ⟨rfl, rfl, rfl⟩ := h
            clear hm HMV
            go_loopw [3, 4, 19] (fun s3 s4 s19 wq => ∃ k : Nat, Hid (k = 0) ∧ s19 = .int .i64 k ∧ s3 = .string ⟨(q.getD []).toArray⟩ ∧ s4 = .bool q.isSome ∧ Hid (Kept [] wr wq)) (fun _ _ _ _ => 0)
            case atStart => exact ⟨0, rfl, rfl, rfl, rfl, HK6⟩
            case round =>
              obtain ⟨k, _, rfl, rfl, rfl, HKq⟩ := hrel
              by_cases hi0 : k < i
              · have t1 : decide ((k : Int) < (i : Int)) = true := decide_eq_true (by omega)
                go_wp2
                go_meet
                exact ⟨q, rfl, rfl, HB9, HKq⟩
              · have t1 : decide ((k : Int) < (i : Int)) = false := decide_eq_false (by omega)
                go_wp2
                go_meet
                exact ⟨q, rfl, rfl, HB9, HKq⟩
          | some tf =>
            obtain ⟨ta, f⟩ := tf
            obtain ⟨tb, htb⟩ : ∃ tb, tb = bytesU ta := ⟨_, rfl⟩
            have HFN : Hid (mapU RS (bytesU p) = some tb) := by
              have h : mapU RS (bytesU p) = some tb := by rw [mapU_bytesB HOP.out.1, hm, htb]; rfl
              exact h
            have h := HMV.out
            rw [hm, mapV_some] at h
            injection h with h
            injection h with h
            simp only [List.cons.injEq, Value.bool.injEq, Value.string.injEq, and_true] at h
            obtain ⟨hA, rfl, rfl⟩ := h
            have HST2 : Hid (A = ⟨tb.toArray⟩) := by
              have h : A = ⟨tb.toArray⟩ := by rw [← hA, htb, str_of_bytes]
              exact h
            clear hm HMV hA htb
            go_loopw [3, 4, 19] (fun s3 s4 s19 wq => ∃ (k : Nat) (q' : Option (List UInt8)), k ≤ i ∧ s19 = .int .i64 k ∧ s3 = .string ⟨(q'.getD []).toArray⟩ ∧ s4 = .bool q'.isSome ∧ Hid (Kept [] wr wq) ∧ Hid (BestTo (PairK (mapU RS) U i k) q')) (fun _ _ s19 _ => i - (intOf s19).toNat)
            case atStart => exact ⟨0, q, Nat.zero_le _, rfl, rfl, rfl, HK6, HBE⟩
            case round =>
              obtain ⟨k, q', hk, rfl, rfl, rfl, HKq, HBq⟩ := hrel
              by_cases hki : k < i
              · have t1 : decide ((k : Int) < (i : Int)) = true := by simp; omega
                obtain ⟨pk, hpk⟩ : ∃ pk, NS[k]? = some pk := ⟨_, List.getElem?_eq_getElem (by omega)⟩
                have HLk : Hid (NS[k]? = some pk) := hpk
                have hopk := HO.out pk (List.mem_of_getElem? hpk)
                have HOK : Hid (Octs pk ∧ pk.length ≤ 140737488351232) := hopk
                have HUk : Hid (U[k]? = some (bytesU pk)) := HU.out k pk hpk
                have j0 : (0 : Int) ≤ (k : Int) := by omega
                have j2 : (k : Int) < (NS.length : Int) := by omega
                have heN := HEQ.out (bytesU pk) (bytesU p)
                obtain ⟨C, F3, O3, hmk⟩ : ∃ A F O, mapV (mapL RS pk) = .tuple #[.string A, .bool F, .bool O] := ⟨_, _, _, rfl⟩
                have HMK : Hid (mapV (mapL RS pk) = .tuple #[.string C, .bool F3, .bool O3]) := hmk
                have HPK : Hid (∀ W, Kept [] wr W → Calls Tryd.prog 8 #[.slice ra RS.length rc, .string ⟨(bytesU pk).toArray⟩] W fun e w' => e = .returned (.tuple #[.string C, .bool F3, .bool O3]) ∧ Kept [] wr w') := fun W k => by
                  have h := HMP.out pk HOK.out.1 HOK.out.2 W (HKq.out.then k)
                  rw [hmk] at h
                  exact h.mono fun e w' ⟨h1, h2⟩ => ⟨h1, k.then h2⟩
                clear hpk hopk hmk
                go_wp2
                refine region_quiet (Kept [] wr) (by kernel_rfl) (by kernel_rfl) (Kept.refl [] wr).drew ?_
                with_reducible refine wpQuiet_step ?_
                intro K hK
                rw [if_pos (by go_simp)]
                refine val_at (.pointer (some ⟨w.heap.size, 0, none⟩)) (fun W => by go_simp) (hK _ ?_)
                clear hK K
                simp only [Act.put, List.setIfInBounds_toArray, List.set_cons_zero, List.set_cons_succ]
                with_reducible refine wpQuiet_step ?_
                intro K hK
                rw [if_pos (by go_simp)]
                refine valR_at (.slice ra RS.length rc) (fun W hW => by have hcc := HC0.out W (HKq.out.then hW); go_simp) (hK _ ?_)
                clear hK K
                simp only [Act.put, List.setIfInBounds_toArray, List.set_cons_zero, List.set_cons_succ]
                with_reducible refine wpQuiet_step ?_
                intro K hK
                rw [if_pos (by go_simp)]
                refine val_at (.pointer (some ⟨w.heap.size, 1, none⟩)) (fun W => by go_simp) (hK _ ?_)
                clear hK K
                simp only [Act.put, List.setIfInBounds_toArray, List.set_cons_zero, List.set_cons_succ]
                with_reducible refine wpQuiet_step ?_
                intro K hK
                rw [if_pos (by go_simp)]
                refine valR_at (.slice (some ⟨b, off, none⟩) NS.length nc) (fun W hW => by have hcc := HC1.out W (HKq.out.then hW); go_simp) (hK _ ?_)
                clear hK K
                simp only [Act.put, List.setIfInBounds_toArray, List.set_cons_zero, List.set_cons_succ]
                with_reducible refine wpQuiet_step ?_
                intro K hK
                rw [if_pos (by go_simp)]
                refine move_at (.tmp 19) rfl (.int .i64 k) rfl (hK _ ?_)
                clear hK K
                simp only [Act.put, List.setIfInBounds_toArray, List.set_cons_zero, List.set_cons_succ]
                with_reducible refine wpQuiet_step ?_
                intro K hK
                rw [if_pos (by go_simp)]
                refine val_at (.pointer (some ⟨b, off + k, none⟩)) (fun W => by go_simp) (hK _ ?_)
                clear hK K
                simp only [Act.put, List.setIfInBounds_toArray, List.set_cons_zero, List.set_cons_succ]
                with_reducible refine wpQuiet_step ?_
                intro K hK
                rw [if_pos (by go_simp)]
                refine valR_at (.string ⟨(bytesU pk).toArray⟩) (fun W hW => by have hcc := HCN.out W (HKq.out.then hW) k pk HLk.out; go_simp) (hK _ ?_)
                clear hK K
                simp only [Act.put, List.setIfInBounds_toArray, List.set_cons_zero, List.set_cons_succ]
                with_reducible refine wpQuiet_step ?_
                intro K hK
                rw [if_pos (by go_simp)]
                refine call_at 8 #[.slice ra RS.length rc, .string ⟨(bytesU pk).toArray⟩] (.tuple #[.string C, .bool F3, .bool O3]) (fun W => by go_simp) HPK.out (hK _ ?_)
                clear hK K
                simp only [Act.put, List.setIfInBounds_toArray, List.set_cons_zero, List.set_cons_succ]
                with_reducible refine wpQuiet_step ?_
                intro K hK
                rw [if_pos (by go_simp)]
                refine move_at (.tmp 150) rfl (.tuple #[.string C, .bool F3, .bool O3]) rfl (hK _ ?_)
                clear hK K
                simp only [Act.put, List.setIfInBounds_toArray, List.set_cons_zero, List.set_cons_succ]
                with_reducible refine wpQuiet_step ?_
                intro K hK
                rw [if_pos (by go_simp)]
                refine val_at (.string C) (fun W => by go_simp) (hK _ ?_)
                clear hK K
                simp only [Act.put, List.setIfInBounds_toArray, List.set_cons_zero, List.set_cons_succ]
                with_reducible refine wpQuiet_step ?_
                intro K hK
                rw [if_pos (by go_simp)]
                refine val_at (.bool F3) (fun W => by go_simp) (hK _ ?_)
                clear hK K
                simp only [Act.put, List.setIfInBounds_toArray, List.set_cons_zero, List.set_cons_succ]
                with_reducible refine wpQuiet_step ?_
                intro K hK
                rw [if_pos (by go_simp)]
                refine val_at (.bool O3) (fun W => by go_simp) (hK _ ?_)
                clear hK K
                simp only [Act.put, List.setIfInBounds_toArray, List.set_cons_zero, List.set_cons_succ]
                with_reducible refine wpQuiet_step ?_
                intro K hK
                rw [if_pos (by go_simp)]
                refine val_at (.string C) (fun W => by go_simp) (hK _ ?_)
                clear hK K
                simp only [Act.put, List.setIfInBounds_toArray, List.set_cons_zero, List.set_cons_succ]
                with_reducible refine wpQuiet_step ?_
                intro K hK
                rw [if_pos (by go_simp)]
                refine val_at (.bool F3) (fun W => by go_simp) (hK _ ?_)
                clear hK K
                simp only [Act.put, List.setIfInBounds_toArray, List.set_cons_zero, List.set_cons_succ]
                with_reducible refine wpQuiet_step ?_
                intro K hK
                rw [if_pos (by go_simp)]
                refine val_at (.bool O3) (fun W => by go_simp) (hK _ ?_)
                clear hK K
                simp only [Act.put, List.setIfInBounds_toArray, List.set_cons_zero, List.set_cons_succ]
                refine wpQuiet_nil fun w7 k7 => ?_
                have HK7 : Hid _ := HKq.out.then k7
                clear k7
                clear HPK
                cases hfk : mapL RS pk with
                | none =>
                  have hfu : mapU RS (bytesU pk) = none := by rw [mapU_bytesB HOK.out.1, hfk]; rfl
                  have HN : Hid (BestTo (PairK (mapU RS) U i (k + 1)) q') := HBq.out.iff (pair_skip HUk.out HUi.out HFN.out (Or.inl (by rw [hfu]; simp)))
                  have h := HMK.out
                  rw [hfk, mapV_none] at h
                  injection h with h
                  injection h with h
                  simp only [List.cons.injEq, Value.bool.injEq, Value.string.injEq, and_true] at h
                  obtain ⟨rfl, rfl, rfl⟩ := h
                  clear hfk hfu heN HMK
                  obtain ⟨NK, hNK⟩ : ∃ NK : ByteArray, NK = ⟨(bytesU pk).toArray⟩ := ⟨_, rfl⟩
                  obtain ⟨NI, hNI⟩ : ∃ NI : ByteArray, NI = ⟨(bytesU p).toArray⟩ := ⟨_, rfl⟩
                  have HNK : Hid (∀ W, Kept [] w7 W → W.cell? ⟨b, off + k, none⟩ = some (.string NK)) := fun W hW => by rw [hNK]; exact HCN.out W (HK7.out.then hW) k pk HLk.out
                  have HNI : Hid (∀ W, Kept [] w7 W → W.cell? ⟨b, off + i, none⟩ = some (.string NI)) := fun W hW => by rw [hNI]; exact HCN.out W (HK7.out.then hW) i p HLp.out
                  clear hNK hNI
                  as_aux_lemma =>
                    go_wp2
                    refine region_quiet (Kept [] w7) (by kernel_rfl) (by kernel_rfl) (Kept.refl [] w7).drew ?_
                    with_reducible refine wpQuiet_step ?_
                    intro K hK
                    rw [if_pos (by kernel_rfl)]
                    refine move_at (.tmp 22) rfl (.bool false) rfl (hK _ ?_)
                    clear hK K
                    simp only [Act.put, List.setIfInBounds_toArray, List.set_cons_zero, List.set_cons_succ]
                    with_reducible refine wpQuiet_step ?_
                    intro K hK
                    rw [if_pos (by kernel_rfl)]
                    refine move_at (.tmp 154) rfl (.bool false) rfl (hK _ ?_)
                    clear hK K
                    simp only [Act.put, List.setIfInBounds_toArray, List.set_cons_zero, List.set_cons_succ]
                    with_reducible refine wpQuiet_step ?_
                    intro K hK
                    rw [if_neg (not_of_false (by kernel_rfl))]
                    refine hK _ ?_
                    clear hK K
                    simp only [Act.put, List.setIfInBounds_toArray, List.set_cons_zero, List.set_cons_succ]
                    with_reducible refine wpQuiet_step ?_
                    intro K hK
                    rw [if_neg (not_of_false (by kernel_rfl))]
                    refine hK _ ?_
                    clear hK K
                    simp only [Act.put, List.setIfInBounds_toArray, List.set_cons_zero, List.set_cons_succ]
                    with_reducible refine wpQuiet_step ?_
                    intro K hK
                    rw [if_neg (not_of_false (by kernel_rfl))]
                    refine hK _ ?_
                    clear hK K
                    simp only [Act.put, List.setIfInBounds_toArray, List.set_cons_zero, List.set_cons_succ]
                    with_reducible refine wpQuiet_step ?_
                    intro K hK
                    rw [if_pos (by kernel_rfl)]
                    refine val_at (.bool false) (fun W => by go_simp) (hK _ ?_)
                    clear hK K
                    simp only [Act.put, List.setIfInBounds_toArray, List.set_cons_zero, List.set_cons_succ]
                    with_reducible refine wpQuiet_step ?_
                    intro K hK
                    rw [if_pos (by kernel_rfl)]
                    refine move_at (.tmp 159) rfl (.bool false) rfl (hK _ ?_)
                    clear hK K
                    simp only [Act.put, List.setIfInBounds_toArray, List.set_cons_zero, List.set_cons_succ]
                    with_reducible refine wpQuiet_step ?_
                    intro K hK
                    rw [if_neg (not_of_false (by kernel_rfl))]
                    refine hK _ ?_
                    clear hK K
                    simp only [Act.put, List.setIfInBounds_toArray, List.set_cons_zero, List.set_cons_succ]
                    with_reducible refine wpQuiet_step ?_
                    intro K hK
                    rw [if_neg (not_of_false (by kernel_rfl))]
                    refine hK _ ?_
                    clear hK K
                    simp only [Act.put, List.setIfInBounds_toArray, List.set_cons_zero, List.set_cons_succ]
                    with_reducible refine wpQuiet_step ?_
                    intro K hK
                    rw [if_neg (not_of_false (by kernel_rfl))]
                    refine hK _ ?_
                    clear hK K
                    simp only [Act.put, List.setIfInBounds_toArray, List.set_cons_zero, List.set_cons_succ]
                    with_reducible refine wpQuiet_step ?_
                    intro K hK
                    rw [if_neg (not_of_false (by kernel_rfl))]
                    refine hK _ ?_
                    clear hK K
                    simp only [Act.put, List.setIfInBounds_toArray, List.set_cons_zero, List.set_cons_succ]
                    with_reducible refine wpQuiet_step ?_
                    intro K hK
                    rw [if_neg (not_of_false (by kernel_rfl))]
                    refine hK _ ?_
                    clear hK K
                    simp only [Act.put, List.setIfInBounds_toArray, List.set_cons_zero, List.set_cons_succ]
                    with_reducible refine wpQuiet_step ?_
                    intro K hK
                    rw [if_neg (not_of_false (by kernel_rfl))]
                    refine hK _ ?_
                    clear hK K
                    simp only [Act.put, List.setIfInBounds_toArray, List.set_cons_zero, List.set_cons_succ]
                    with_reducible refine wpQuiet_step ?_
                    intro K hK
                    rw [if_neg (not_of_false (by kernel_rfl))]
                    refine hK _ ?_
                    clear hK K
                    simp only [Act.put, List.setIfInBounds_toArray, List.set_cons_zero, List.set_cons_succ]
                    with_reducible refine wpQuiet_step ?_
                    intro K hK
                    rw [if_neg (not_of_false (by kernel_rfl))]
                    refine hK _ ?_
                    clear hK K
                    simp only [Act.put, List.setIfInBounds_toArray, List.set_cons_zero, List.set_cons_succ]
                    with_reducible refine wpQuiet_step ?_
                    intro K hK
                    rw [if_neg (not_of_false (by kernel_rfl))]
                    refine hK _ ?_
                    clear hK K
                    simp only [Act.put, List.setIfInBounds_toArray, List.set_cons_zero, List.set_cons_succ]
                    with_reducible refine wpQuiet_step ?_
                    intro K hK
                    rw [if_neg (not_of_false (by kernel_rfl))]
                    refine hK _ ?_
                    clear hK K
                    simp only [Act.put, List.setIfInBounds_toArray, List.set_cons_zero, List.set_cons_succ]
                    with_reducible refine wpQuiet_step ?_
                    intro K hK
                    rw [if_neg (not_of_false (by kernel_rfl))]
                    refine hK _ ?_
                    clear hK K
                    simp only [Act.put, List.setIfInBounds_toArray, List.set_cons_zero, List.set_cons_succ]
                    with_reducible refine wpQuiet_step ?_
                    intro K hK
                    rw [if_pos (by kernel_rfl)]
                    refine val_at (.bool false) (fun W => by go_simp) (hK _ ?_)
                    clear hK K
                    simp only [Act.put, List.setIfInBounds_toArray, List.set_cons_zero, List.set_cons_succ]
                    with_reducible refine wpQuiet_step ?_
                    intro K hK
                    rw [if_pos (by kernel_rfl)]
                    refine move_at (.tmp 172) rfl (.bool false) rfl (hK _ ?_)
                    clear hK K
                    simp only [Act.put, List.setIfInBounds_toArray, List.set_cons_zero, List.set_cons_succ]
                    with_reducible refine wpQuiet_step ?_
                    intro K hK
                    rw [if_neg (not_of_false (by kernel_rfl))]
                    refine hK _ ?_
                    clear hK K
                    simp only [Act.put, List.setIfInBounds_toArray, List.set_cons_zero, List.set_cons_succ]
                    with_reducible refine wpQuiet_step ?_
                    intro K hK
                    rw [if_neg (not_of_false (by kernel_rfl))]
                    refine hK _ ?_
                    clear hK K
                    simp only [Act.put, List.setIfInBounds_toArray, List.set_cons_zero, List.set_cons_succ]
                    with_reducible refine wpQuiet_step ?_
                    intro K hK
                    rw [if_neg (not_of_false (by kernel_rfl))]
                    refine hK _ ?_
                    clear hK K
                    simp only [Act.put, List.setIfInBounds_toArray, List.set_cons_zero, List.set_cons_succ]
                    with_reducible refine wpQuiet_step ?_
                    intro K hK
                    rw [if_neg (not_of_false (by kernel_rfl))]
                    refine hK _ ?_
                    clear hK K
                    simp only [Act.put, List.setIfInBounds_toArray, List.set_cons_zero, List.set_cons_succ]
                    with_reducible refine wpQuiet_step ?_
                    intro K hK
                    rw [if_neg (not_of_false (by kernel_rfl))]
                    refine hK _ ?_
                    clear hK K
                    simp only [Act.put, List.setIfInBounds_toArray, List.set_cons_zero, List.set_cons_succ]
                    with_reducible refine wpQuiet_step ?_
                    intro K hK
                    rw [if_neg (not_of_false (by kernel_rfl))]
                    refine hK _ ?_
                    clear hK K
                    simp only [Act.put, List.setIfInBounds_toArray, List.set_cons_zero, List.set_cons_succ]
                    with_reducible refine wpQuiet_step ?_
                    intro K hK
                    rw [if_neg (not_of_false (by kernel_rfl))]
                    refine hK _ ?_
                    clear hK K
                    simp only [Act.put, List.setIfInBounds_toArray, List.set_cons_zero, List.set_cons_succ]
                    with_reducible refine wpQuiet_step ?_
                    intro K hK
                    rw [if_pos (by kernel_rfl)]
                    refine val_at (.bool false) (fun W => by go_simp) (hK _ ?_)
                    clear hK K
                    simp only [Act.put, List.setIfInBounds_toArray, List.set_cons_zero, List.set_cons_succ]
                    refine wpQuiet_nil fun w8 k8 => ?_
                    have HK8 : Hid _ := HK7.out.then k8
                    clear k8
                    go_wp2
                    go_roundw
                    case rel => exact ⟨k + 1, q', by omega, by go_num, rfl, rfl, HK8, HN⟩
                    case measure => simp [intOf]; omega
                | some tkf =>
                  obtain ⟨tk0, fk⟩ := tkf
                  obtain ⟨tk, htk0⟩ : ∃ tk, tk = bytesU tk0 := ⟨_, rfl⟩
                  have hfu : mapU RS (bytesU pk) = some tk := by rw [mapU_bytesB HOK.out.1, hfk, htk0]; rfl
                  have h := HMK.out
                  rw [hfk, mapV_some] at h
                  injection h with h
                  injection h with h
                  simp only [List.cons.injEq, Value.bool.injEq, Value.string.injEq, and_true] at h
                  obtain ⟨hC, rfl, rfl⟩ := h
                  have heT := HEQ.out tk tb
                  rw [← HST2.out, htk0, ← str_of_bytes, hC, ← htk0] at heT
                  clear hfk HMK hC htk0
                  by_cases htk : tk = tb
                  · rw [decide_eq_true htk] at heT
                    by_cases hnn : bytesU pk = bytesU p
                    · have HN : Hid (BestTo (PairK (mapU RS) U i (k + 1)) q') := HBq.out.iff (pair_skip HUk.out HUi.out HFN.out (Or.inr hnn))
                      rw [decide_eq_true hnn] at heN
                      clear hfu htk hnn
                      obtain ⟨NK, hNK⟩ : ∃ NK : ByteArray, NK = ⟨(bytesU pk).toArray⟩ := ⟨_, rfl⟩
                      obtain ⟨NI, hNI⟩ : ∃ NI : ByteArray, NI = ⟨(bytesU p).toArray⟩ := ⟨_, rfl⟩
                      have HNK : Hid (∀ W, Kept [] w7 W → W.cell? ⟨b, off + k, none⟩ = some (.string NK)) := fun W hW => by rw [hNK]; exact HCN.out W (HK7.out.then hW) k pk HLk.out
                      have HNI : Hid (∀ W, Kept [] w7 W → W.cell? ⟨b, off + i, none⟩ = some (.string NI)) := fun W hW => by rw [hNI]; exact HCN.out W (HK7.out.then hW) i p HLp.out
                      rw [← hNK, ← hNI] at heN
                      clear hNK hNI
                      as_aux_lemma =>
                        go_wp2
                        refine region_quiet (Kept [] w7) (by kernel_rfl) (by kernel_rfl) (Kept.refl [] w7).drew ?_
                        with_reducible refine wpQuiet_step ?_
                        intro K hK
                        rw [if_pos (by kernel_rfl)]
                        refine move_at (.tmp 22) rfl (.bool true) rfl (hK _ ?_)
                        clear hK K
                        simp only [Act.put, List.setIfInBounds_toArray, List.set_cons_zero, List.set_cons_succ]
                        with_reducible refine wpQuiet_step ?_
                        intro K hK
                        rw [if_pos (by kernel_rfl)]
                        refine move_at (.tmp 154) rfl (.bool true) rfl (hK _ ?_)
                        clear hK K
                        simp only [Act.put, List.setIfInBounds_toArray, List.set_cons_zero, List.set_cons_succ]
                        with_reducible refine wpQuiet_step ?_
                        intro K hK
                        rw [if_pos (by kernel_rfl)]
                        refine move_at (.tmp 20) rfl (.string C) rfl (hK _ ?_)
                        clear hK K
                        simp only [Act.put, List.setIfInBounds_toArray, List.set_cons_zero, List.set_cons_succ]
                        with_reducible refine wpQuiet_step ?_
                        intro K hK
                        rw [if_pos (by kernel_rfl)]
                        refine move_at (.tmp 6) rfl (.string A) rfl (hK _ ?_)
                        clear hK K
                        simp only [Act.put, List.setIfInBounds_toArray, List.set_cons_zero, List.set_cons_succ]
                        with_reducible refine wpQuiet_step ?_
                        intro K hK
                        rw [if_pos (by kernel_rfl)]
                        refine val_at (.bool true) (fun W => by go_simp) (hK _ ?_)
                        clear hK K
                        simp only [Act.put, List.setIfInBounds_toArray, List.set_cons_zero, List.set_cons_succ]
                        with_reducible refine wpQuiet_step ?_
                        intro K hK
                        rw [if_pos (by kernel_rfl)]
                        refine val_at (.bool true) (fun W => by go_simp) (hK _ ?_)
                        clear hK K
                        simp only [Act.put, List.setIfInBounds_toArray, List.set_cons_zero, List.set_cons_succ]
                        with_reducible refine wpQuiet_step ?_
                        intro K hK
                        rw [if_pos (by kernel_rfl)]
                        refine move_at (.tmp 159) rfl (.bool true) rfl (hK _ ?_)
                        clear hK K
                        simp only [Act.put, List.setIfInBounds_toArray, List.set_cons_zero, List.set_cons_succ]
                        with_reducible refine wpQuiet_step ?_
                        intro K hK
                        rw [if_pos (by kernel_rfl)]
                        refine val_at (.pointer (some ⟨w.heap.size, 1, none⟩)) (fun W => by go_simp) (hK _ ?_)
                        clear hK K
                        simp only [Act.put, List.setIfInBounds_toArray, List.set_cons_zero, List.set_cons_succ]
                        with_reducible refine wpQuiet_step ?_
                        intro K hK
                        rw [if_pos (by kernel_rfl)]
                        refine valR_at (.slice (some ⟨b, off, none⟩) NS.length nc) (fun W hW => by have hcc := HC1.out W (HK7.out.then hW); go_simp) (hK _ ?_)
                        clear hK K
                        simp only [Act.put, List.setIfInBounds_toArray, List.set_cons_zero, List.set_cons_succ]
                        with_reducible refine wpQuiet_step ?_
                        intro K hK
                        rw [if_pos (by kernel_rfl)]
                        refine move_at (.tmp 19) rfl (.int .i64 k) rfl (hK _ ?_)
                        clear hK K
                        simp only [Act.put, List.setIfInBounds_toArray, List.set_cons_zero, List.set_cons_succ]
                        with_reducible refine wpQuiet_step ?_
                        intro K hK
                        rw [if_pos (by kernel_rfl)]
                        refine val_at (.pointer (some ⟨b, off + k, none⟩)) (fun W => by go_simp) (hK _ ?_)
                        clear hK K
                        simp only [Act.put, List.setIfInBounds_toArray, List.set_cons_zero, List.set_cons_succ]
                        with_reducible refine wpQuiet_step ?_
                        intro K hK
                        rw [if_pos (by kernel_rfl)]
                        refine valR_at (.string NK) (fun W hW => by have hcc := HNK.out W hW; go_simp) (hK _ ?_)
                        clear hK K
                        simp only [Act.put, List.setIfInBounds_toArray, List.set_cons_zero, List.set_cons_succ]
                        with_reducible refine wpQuiet_step ?_
                        intro K hK
                        rw [if_pos (by kernel_rfl)]
                        refine val_at (.pointer (some ⟨w.heap.size, 1, none⟩)) (fun W => by go_simp) (hK _ ?_)
                        clear hK K
                        simp only [Act.put, List.setIfInBounds_toArray, List.set_cons_zero, List.set_cons_succ]
                        with_reducible refine wpQuiet_step ?_
                        intro K hK
                        rw [if_pos (by kernel_rfl)]
                        refine valR_at (.slice (some ⟨b, off, none⟩) NS.length nc) (fun W hW => by have hcc := HC1.out W (HK7.out.then hW); go_simp) (hK _ ?_)
                        clear hK K
                        simp only [Act.put, List.setIfInBounds_toArray, List.set_cons_zero, List.set_cons_succ]
                        with_reducible refine wpQuiet_step ?_
                        intro K hK
                        rw [if_pos (by kernel_rfl)]
                        refine move_at (.tmp 5) rfl (.int .i64 i) rfl (hK _ ?_)
                        clear hK K
                        simp only [Act.put, List.setIfInBounds_toArray, List.set_cons_zero, List.set_cons_succ]
                        with_reducible refine wpQuiet_step ?_
                        intro K hK
                        rw [if_pos (by kernel_rfl)]
                        refine val_at (.pointer (some ⟨b, off + i, none⟩)) (fun W => by go_simp) (hK _ ?_)
                        clear hK K
                        simp only [Act.put, List.setIfInBounds_toArray, List.set_cons_zero, List.set_cons_succ]
                        with_reducible refine wpQuiet_step ?_
                        intro K hK
                        rw [if_pos (by kernel_rfl)]
                        refine valR_at (.string NI) (fun W hW => by have hcc := HNI.out W hW; go_simp) (hK _ ?_)
                        clear hK K
                        simp only [Act.put, List.setIfInBounds_toArray, List.set_cons_zero, List.set_cons_succ]
                        with_reducible refine wpQuiet_step ?_
                        intro K hK
                        rw [if_pos (by kernel_rfl)]
                        refine val_at (.bool false) (fun W => by go_simp) (hK _ ?_)
                        clear hK K
                        simp only [Act.put, List.setIfInBounds_toArray, List.set_cons_zero, List.set_cons_succ]
                        with_reducible refine wpQuiet_step ?_
                        intro K hK
                        rw [if_pos (by kernel_rfl)]
                        refine val_at (.bool false) (fun W => by go_simp) (hK _ ?_)
                        clear hK K
                        simp only [Act.put, List.setIfInBounds_toArray, List.set_cons_zero, List.set_cons_succ]
                        with_reducible refine wpQuiet_step ?_
                        intro K hK
                        rw [if_pos (by kernel_rfl)]
                        refine move_at (.tmp 172) rfl (.bool false) rfl (hK _ ?_)
                        clear hK K
                        simp only [Act.put, List.setIfInBounds_toArray, List.set_cons_zero, List.set_cons_succ]
                        with_reducible refine wpQuiet_step ?_
                        intro K hK
                        rw [if_neg (not_of_false (by kernel_rfl))]
                        refine hK _ ?_
                        clear hK K
                        simp only [Act.put, List.setIfInBounds_toArray, List.set_cons_zero, List.set_cons_succ]
                        with_reducible refine wpQuiet_step ?_
                        intro K hK
                        rw [if_neg (not_of_false (by kernel_rfl))]
                        refine hK _ ?_
                        clear hK K
                        simp only [Act.put, List.setIfInBounds_toArray, List.set_cons_zero, List.set_cons_succ]
                        with_reducible refine wpQuiet_step ?_
                        intro K hK
                        rw [if_neg (not_of_false (by kernel_rfl))]
                        refine hK _ ?_
                        clear hK K
                        simp only [Act.put, List.setIfInBounds_toArray, List.set_cons_zero, List.set_cons_succ]
                        with_reducible refine wpQuiet_step ?_
                        intro K hK
                        rw [if_neg (not_of_false (by kernel_rfl))]
                        refine hK _ ?_
                        clear hK K
                        simp only [Act.put, List.setIfInBounds_toArray, List.set_cons_zero, List.set_cons_succ]
                        with_reducible refine wpQuiet_step ?_
                        intro K hK
                        rw [if_neg (not_of_false (by kernel_rfl))]
                        refine hK _ ?_
                        clear hK K
                        simp only [Act.put, List.setIfInBounds_toArray, List.set_cons_zero, List.set_cons_succ]
                        with_reducible refine wpQuiet_step ?_
                        intro K hK
                        rw [if_neg (not_of_false (by kernel_rfl))]
                        refine hK _ ?_
                        clear hK K
                        simp only [Act.put, List.setIfInBounds_toArray, List.set_cons_zero, List.set_cons_succ]
                        with_reducible refine wpQuiet_step ?_
                        intro K hK
                        rw [if_neg (not_of_false (by kernel_rfl))]
                        refine hK _ ?_
                        clear hK K
                        simp only [Act.put, List.setIfInBounds_toArray, List.set_cons_zero, List.set_cons_succ]
                        with_reducible refine wpQuiet_step ?_
                        intro K hK
                        rw [if_pos (by kernel_rfl)]
                        refine val_at (.bool false) (fun W => by go_simp) (hK _ ?_)
                        clear hK K
                        simp only [Act.put, List.setIfInBounds_toArray, List.set_cons_zero, List.set_cons_succ]
                        refine wpQuiet_nil fun w8 k8 => ?_
                        have HK8 : Hid _ := HK7.out.then k8
                        clear k8
                        go_wp2
                        go_roundw
                        case rel => exact ⟨k + 1, q', by omega, by go_num, rfl, rfl, HK8, HN⟩
                        case measure => simp [intOf]; omega
                    · rw [decide_eq_false hnn] at heN
                      have hpm : ∀ u, (PairK (mapU RS) U i k u ∨ u = tb) ↔ PairK (mapU RS) U i (k + 1) u := pair_more HUk.out HUi.out HFN.out (by rw [hfu, htk]) hnn
                      cases q' with
                      | none =>
                        have HN : Hid (BestTo (PairK (mapU RS) U i (k + 1)) (some tb)) := (best_first HBq.out).iff hpm
                        clear hfu htk hnn hpm
                        simp only [Option.isSome_none, Option.getD_none]
                        obtain ⟨NK, hNK⟩ : ∃ NK : ByteArray, NK = ⟨(bytesU pk).toArray⟩ := ⟨_, rfl⟩
                        obtain ⟨NI, hNI⟩ : ∃ NI : ByteArray, NI = ⟨(bytesU p).toArray⟩ := ⟨_, rfl⟩
                        have HNK : Hid (∀ W, Kept [] w7 W → W.cell? ⟨b, off + k, none⟩ = some (.string NK)) := fun W hW => by rw [hNK]; exact HCN.out W (HK7.out.then hW) k pk HLk.out
                        have HNI : Hid (∀ W, Kept [] w7 W → W.cell? ⟨b, off + i, none⟩ = some (.string NI)) := fun W hW => by rw [hNI]; exact HCN.out W (HK7.out.then hW) i p HLp.out
                        rw [← hNK, ← hNI] at heN
                        clear hNK hNI
                        as_aux_lemma =>
                          go_wp2
                          refine region_quiet (Kept [] w7) (by kernel_rfl) (by kernel_rfl) (Kept.refl [] w7).drew ?_
                          with_reducible refine wpQuiet_step ?_
                          intro K hK
                          rw [if_pos (by kernel_rfl)]
                          refine move_at (.tmp 22) rfl (.bool true) rfl (hK _ ?_)
                          clear hK K
                          simp only [Act.put, List.setIfInBounds_toArray, List.set_cons_zero, List.set_cons_succ]
                          with_reducible refine wpQuiet_step ?_
                          intro K hK
                          rw [if_pos (by kernel_rfl)]
                          refine move_at (.tmp 154) rfl (.bool true) rfl (hK _ ?_)
                          clear hK K
                          simp only [Act.put, List.setIfInBounds_toArray, List.set_cons_zero, List.set_cons_succ]
                          with_reducible refine wpQuiet_step ?_
                          intro K hK
                          rw [if_pos (by kernel_rfl)]
                          refine move_at (.tmp 20) rfl (.string C) rfl (hK _ ?_)
                          clear hK K
                          simp only [Act.put, List.setIfInBounds_toArray, List.set_cons_zero, List.set_cons_succ]
                          with_reducible refine wpQuiet_step ?_
                          intro K hK
                          rw [if_pos (by kernel_rfl)]
                          refine move_at (.tmp 6) rfl (.string A) rfl (hK _ ?_)
                          clear hK K
                          simp only [Act.put, List.setIfInBounds_toArray, List.set_cons_zero, List.set_cons_succ]
                          with_reducible refine wpQuiet_step ?_
                          intro K hK
                          rw [if_pos (by kernel_rfl)]
                          refine val_at (.bool true) (fun W => by go_simp) (hK _ ?_)
                          clear hK K
                          simp only [Act.put, List.setIfInBounds_toArray, List.set_cons_zero, List.set_cons_succ]
                          with_reducible refine wpQuiet_step ?_
                          intro K hK
                          rw [if_pos (by kernel_rfl)]
                          refine val_at (.bool true) (fun W => by go_simp) (hK _ ?_)
                          clear hK K
                          simp only [Act.put, List.setIfInBounds_toArray, List.set_cons_zero, List.set_cons_succ]
                          with_reducible refine wpQuiet_step ?_
                          intro K hK
                          rw [if_pos (by kernel_rfl)]
                          refine move_at (.tmp 159) rfl (.bool true) rfl (hK _ ?_)
                          clear hK K
                          simp only [Act.put, List.setIfInBounds_toArray, List.set_cons_zero, List.set_cons_succ]
                          with_reducible refine wpQuiet_step ?_
                          intro K hK
                          rw [if_pos (by kernel_rfl)]
                          refine val_at (.pointer (some ⟨w.heap.size, 1, none⟩)) (fun W => by go_simp) (hK _ ?_)
                          clear hK K
                          simp only [Act.put, List.setIfInBounds_toArray, List.set_cons_zero, List.set_cons_succ]
                          with_reducible refine wpQuiet_step ?_
                          intro K hK
                          rw [if_pos (by kernel_rfl)]
                          refine valR_at (.slice (some ⟨b, off, none⟩) NS.length nc) (fun W hW => by have hcc := HC1.out W (HK7.out.then hW); go_simp) (hK _ ?_)
                          clear hK K
                          simp only [Act.put, List.setIfInBounds_toArray, List.set_cons_zero, List.set_cons_succ]
                          with_reducible refine wpQuiet_step ?_
                          intro K hK
                          rw [if_pos (by kernel_rfl)]
                          refine move_at (.tmp 19) rfl (.int .i64 k) rfl (hK _ ?_)
                          clear hK K
                          simp only [Act.put, List.setIfInBounds_toArray, List.set_cons_zero, List.set_cons_succ]
                          with_reducible refine wpQuiet_step ?_
                          intro K hK
                          rw [if_pos (by kernel_rfl)]
                          refine val_at (.pointer (some ⟨b, off + k, none⟩)) (fun W => by go_simp) (hK _ ?_)
                          clear hK K
                          simp only [Act.put, List.setIfInBounds_toArray, List.set_cons_zero, List.set_cons_succ]
                          with_reducible refine wpQuiet_step ?_
                          intro K hK
                          rw [if_pos (by kernel_rfl)]
                          refine valR_at (.string NK) (fun W hW => by have hcc := HNK.out W hW; go_simp) (hK _ ?_)
                          clear hK K
                          simp only [Act.put, List.setIfInBounds_toArray, List.set_cons_zero, List.set_cons_succ]
                          with_reducible refine wpQuiet_step ?_
                          intro K hK
                          rw [if_pos (by kernel_rfl)]
                          refine val_at (.pointer (some ⟨w.heap.size, 1, none⟩)) (fun W => by go_simp) (hK _ ?_)
                          clear hK K
                          simp only [Act.put, List.setIfInBounds_toArray, List.set_cons_zero, List.set_cons_succ]
                          with_reducible refine wpQuiet_step ?_
                          intro K hK
                          rw [if_pos (by kernel_rfl)]
                          refine valR_at (.slice (some ⟨b, off, none⟩) NS.length nc) (fun W hW => by have hcc := HC1.out W (HK7.out.then hW); go_simp) (hK _ ?_)
                          clear hK K
                          simp only [Act.put, List.setIfInBounds_toArray, List.set_cons_zero, List.set_cons_succ]
                          with_reducible refine wpQuiet_step ?_
                          intro K hK
                          rw [if_pos (by kernel_rfl)]
                          refine move_at (.tmp 5) rfl (.int .i64 i) rfl (hK _ ?_)
                          clear hK K
                          simp only [Act.put, List.setIfInBounds_toArray, List.set_cons_zero, List.set_cons_succ]
                          with_reducible refine wpQuiet_step ?_
                          intro K hK
                          rw [if_pos (by kernel_rfl)]
                          refine val_at (.pointer (some ⟨b, off + i, none⟩)) (fun W => by go_simp) (hK _ ?_)
                          clear hK K
                          simp only [Act.put, List.setIfInBounds_toArray, List.set_cons_zero, List.set_cons_succ]
                          with_reducible refine wpQuiet_step ?_
                          intro K hK
                          rw [if_pos (by kernel_rfl)]
                          refine valR_at (.string NI) (fun W hW => by have hcc := HNI.out W hW; go_simp) (hK _ ?_)
                          clear hK K
                          simp only [Act.put, List.setIfInBounds_toArray, List.set_cons_zero, List.set_cons_succ]
                          with_reducible refine wpQuiet_step ?_
                          intro K hK
                          rw [if_pos (by kernel_rfl)]
                          refine val_at (.bool true) (fun W => by go_simp) (hK _ ?_)
                          clear hK K
                          simp only [Act.put, List.setIfInBounds_toArray, List.set_cons_zero, List.set_cons_succ]
                          with_reducible refine wpQuiet_step ?_
                          intro K hK
                          rw [if_pos (by kernel_rfl)]
                          refine val_at (.bool true) (fun W => by go_simp) (hK _ ?_)
                          clear hK K
                          simp only [Act.put, List.setIfInBounds_toArray, List.set_cons_zero, List.set_cons_succ]
                          with_reducible refine wpQuiet_step ?_
                          intro K hK
                          rw [if_pos (by kernel_rfl)]
                          refine move_at (.tmp 172) rfl (.bool true) rfl (hK _ ?_)
                          clear hK K
                          simp only [Act.put, List.setIfInBounds_toArray, List.set_cons_zero, List.set_cons_succ]
                          with_reducible refine wpQuiet_step ?_
                          intro K hK
                          rw [if_pos (by kernel_rfl)]
                          refine move_at (.tmp 4) rfl (.bool false) rfl (hK _ ?_)
                          clear hK K
                          simp only [Act.put, List.setIfInBounds_toArray, List.set_cons_zero, List.set_cons_succ]
                          with_reducible refine wpQuiet_step ?_
                          intro K hK
                          rw [if_pos (by kernel_rfl)]
                          refine val_at (.bool true) (fun W => by go_simp) (hK _ ?_)
                          clear hK K
                          simp only [Act.put, List.setIfInBounds_toArray, List.set_cons_zero, List.set_cons_succ]
                          with_reducible refine wpQuiet_step ?_
                          intro K hK
                          rw [if_pos (by kernel_rfl)]
                          refine move_at (.tmp 175) rfl (.bool true) rfl (hK _ ?_)
                          clear hK K
                          simp only [Act.put, List.setIfInBounds_toArray, List.set_cons_zero, List.set_cons_succ]
                          with_reducible refine wpQuiet_step ?_
                          intro K hK
                          rw [if_neg (not_of_false (by kernel_rfl))]
                          refine hK _ ?_
                          clear hK K
                          simp only [Act.put, List.setIfInBounds_toArray, List.set_cons_zero, List.set_cons_succ]
                          with_reducible refine wpQuiet_step ?_
                          intro K hK
                          rw [if_neg (not_of_false (by kernel_rfl))]
                          refine hK _ ?_
                          clear hK K
                          simp only [Act.put, List.setIfInBounds_toArray, List.set_cons_zero, List.set_cons_succ]
                          with_reducible refine wpQuiet_step ?_
                          intro K hK
                          rw [if_neg (not_of_false (by kernel_rfl))]
                          refine hK _ ?_
                          clear hK K
                          simp only [Act.put, List.setIfInBounds_toArray, List.set_cons_zero, List.set_cons_succ]
                          with_reducible refine wpQuiet_step ?_
                          intro K hK
                          rw [if_pos (by kernel_rfl)]
                          refine val_at (.bool true) (fun W => by go_simp) (hK _ ?_)
                          clear hK K
                          simp only [Act.put, List.setIfInBounds_toArray, List.set_cons_zero, List.set_cons_succ]
                          with_reducible refine wpQuiet_step ?_
                          intro K hK
                          rw [if_pos (by kernel_rfl)]
                          refine val_at (.bool true) (fun W => by go_simp) (hK _ ?_)
                          clear hK K
                          simp only [Act.put, List.setIfInBounds_toArray, List.set_cons_zero, List.set_cons_succ]
                          refine wpQuiet_nil fun w8 k8 => ?_
                          have HK8 : Hid _ := HK7.out.then k8
                          clear k8
                          go_wp2
                          go_roundw
                          case rel => exact ⟨k + 1, some tb, by omega, by go_num, by rw [HST2.out]; rfl, rfl, HK8, HN⟩
                          case measure => simp [intOf]; omega
                      | some s =>
                        have heS := HLT.out tb s
                        rw [← HST2.out] at heS
                        simp only [Option.isSome_some, Option.getD_some]
                        by_cases hls : tb < s
                        · have HN : Hid (BestTo (PairK (mapU RS) U i (k + 1)) (some tb)) := (best_less HBq.out hls).iff hpm
                          rw [decide_eq_true hls] at heS
                          clear hfu htk hnn hpm hls
                          obtain ⟨NK, hNK⟩ : ∃ NK : ByteArray, NK = ⟨(bytesU pk).toArray⟩ := ⟨_, rfl⟩
                          obtain ⟨NI, hNI⟩ : ∃ NI : ByteArray, NI = ⟨(bytesU p).toArray⟩ := ⟨_, rfl⟩
                          have HNK : Hid (∀ W, Kept [] w7 W → W.cell? ⟨b, off + k, none⟩ = some (.string NK)) := fun W hW => by rw [hNK]; exact HCN.out W (HK7.out.then hW) k pk HLk.out
                          have HNI : Hid (∀ W, Kept [] w7 W → W.cell? ⟨b, off + i, none⟩ = some (.string NI)) := fun W hW => by rw [hNI]; exact HCN.out W (HK7.out.then hW) i p HLp.out
                          rw [← hNK, ← hNI] at heN
                          clear hNK hNI
                          generalize (⟨s.toArray⟩ : ByteArray) = LS at *
                          as_aux_lemma =>
                            go_wp2
                            refine region_quiet (Kept [] w7) (by kernel_rfl) (by kernel_rfl) (Kept.refl [] w7).drew ?_
                            with_reducible refine wpQuiet_step ?_
                            intro K hK
                            rw [if_pos (by kernel_rfl)]
                            refine move_at (.tmp 22) rfl (.bool true) rfl (hK _ ?_)
                            clear hK K
                            simp only [Act.put, List.setIfInBounds_toArray, List.set_cons_zero, List.set_cons_succ]
                            with_reducible refine wpQuiet_step ?_
                            intro K hK
                            rw [if_pos (by kernel_rfl)]
                            refine move_at (.tmp 154) rfl (.bool true) rfl (hK _ ?_)
                            clear hK K
                            simp only [Act.put, List.setIfInBounds_toArray, List.set_cons_zero, List.set_cons_succ]
                            with_reducible refine wpQuiet_step ?_
                            intro K hK
                            rw [if_pos (by kernel_rfl)]
                            refine move_at (.tmp 20) rfl (.string C) rfl (hK _ ?_)
                            clear hK K
                            simp only [Act.put, List.setIfInBounds_toArray, List.set_cons_zero, List.set_cons_succ]
                            with_reducible refine wpQuiet_step ?_
                            intro K hK
                            rw [if_pos (by kernel_rfl)]
                            refine move_at (.tmp 6) rfl (.string A) rfl (hK _ ?_)
                            clear hK K
                            simp only [Act.put, List.setIfInBounds_toArray, List.set_cons_zero, List.set_cons_succ]
                            with_reducible refine wpQuiet_step ?_
                            intro K hK
                            rw [if_pos (by kernel_rfl)]
                            refine val_at (.bool true) (fun W => by go_simp) (hK _ ?_)
                            clear hK K
                            simp only [Act.put, List.setIfInBounds_toArray, List.set_cons_zero, List.set_cons_succ]
                            with_reducible refine wpQuiet_step ?_
                            intro K hK
                            rw [if_pos (by kernel_rfl)]
                            refine val_at (.bool true) (fun W => by go_simp) (hK _ ?_)
                            clear hK K
                            simp only [Act.put, List.setIfInBounds_toArray, List.set_cons_zero, List.set_cons_succ]
                            with_reducible refine wpQuiet_step ?_
                            intro K hK
                            rw [if_pos (by kernel_rfl)]
                            refine move_at (.tmp 159) rfl (.bool true) rfl (hK _ ?_)
                            clear hK K
                            simp only [Act.put, List.setIfInBounds_toArray, List.set_cons_zero, List.set_cons_succ]
                            with_reducible refine wpQuiet_step ?_
                            intro K hK
                            rw [if_pos (by kernel_rfl)]
                            refine val_at (.pointer (some ⟨w.heap.size, 1, none⟩)) (fun W => by go_simp) (hK _ ?_)
                            clear hK K
                            simp only [Act.put, List.setIfInBounds_toArray, List.set_cons_zero, List.set_cons_succ]
                            with_reducible refine wpQuiet_step ?_
                            intro K hK
                            rw [if_pos (by kernel_rfl)]
                            refine valR_at (.slice (some ⟨b, off, none⟩) NS.length nc) (fun W hW => by have hcc := HC1.out W (HK7.out.then hW); go_simp) (hK _ ?_)
                            clear hK K
                            simp only [Act.put, List.setIfInBounds_toArray, List.set_cons_zero, List.set_cons_succ]
                            with_reducible refine wpQuiet_step ?_
                            intro K hK
                            rw [if_pos (by kernel_rfl)]
                            refine move_at (.tmp 19) rfl (.int .i64 k) rfl (hK _ ?_)
                            clear hK K
                            simp only [Act.put, List.setIfInBounds_toArray, List.set_cons_zero, List.set_cons_succ]
                            with_reducible refine wpQuiet_step ?_
                            intro K hK
                            rw [if_pos (by kernel_rfl)]
                            refine val_at (.pointer (some ⟨b, off + k, none⟩)) (fun W => by go_simp) (hK _ ?_)
                            clear hK K
                            simp only [Act.put, List.setIfInBounds_toArray, List.set_cons_zero, List.set_cons_succ]
                            with_reducible refine wpQuiet_step ?_
                            intro K hK
                            rw [if_pos (by kernel_rfl)]
                            refine valR_at (.string NK) (fun W hW => by have hcc := HNK.out W hW; go_simp) (hK _ ?_)
                            clear hK K
                            simp only [Act.put, List.setIfInBounds_toArray, List.set_cons_zero, List.set_cons_succ]
                            with_reducible refine wpQuiet_step ?_
                            intro K hK
                            rw [if_pos (by kernel_rfl)]
                            refine val_at (.pointer (some ⟨w.heap.size, 1, none⟩)) (fun W => by go_simp) (hK _ ?_)
                            clear hK K
                            simp only [Act.put, List.setIfInBounds_toArray, List.set_cons_zero, List.set_cons_succ]
                            with_reducible refine wpQuiet_step ?_
                            intro K hK
                            rw [if_pos (by kernel_rfl)]
                            refine valR_at (.slice (some ⟨b, off, none⟩) NS.length nc) (fun W hW => by have hcc := HC1.out W (HK7.out.then hW); go_simp) (hK _ ?_)
                            clear hK K
                            simp only [Act.put, List.setIfInBounds_toArray, List.set_cons_zero, List.set_cons_succ]
                            with_reducible refine wpQuiet_step ?_
                            intro K hK
                            rw [if_pos (by kernel_rfl)]
                            refine move_at (.tmp 5) rfl (.int .i64 i) rfl (hK _ ?_)
                            clear hK K
                            simp only [Act.put, List.setIfInBounds_toArray, List.set_cons_zero, List.set_cons_succ]
                            with_reducible refine wpQuiet_step ?_
                            intro K hK
                            rw [if_pos (by kernel_rfl)]
                            refine val_at (.pointer (some ⟨b, off + i, none⟩)) (fun W => by go_simp) (hK _ ?_)
                            clear hK K
                            simp only [Act.put, List.setIfInBounds_toArray, List.set_cons_zero, List.set_cons_succ]
                            with_reducible refine wpQuiet_step ?_
                            intro K hK
                            rw [if_pos (by kernel_rfl)]
                            refine valR_at (.string NI) (fun W hW => by have hcc := HNI.out W hW; go_simp) (hK _ ?_)
                            clear hK K
                            simp only [Act.put, List.setIfInBounds_toArray, List.set_cons_zero, List.set_cons_succ]
                            with_reducible refine wpQuiet_step ?_
                            intro K hK
                            rw [if_pos (by kernel_rfl)]
                            refine val_at (.bool true) (fun W => by go_simp) (hK _ ?_)
                            clear hK K
                            simp only [Act.put, List.setIfInBounds_toArray, List.set_cons_zero, List.set_cons_succ]
                            with_reducible refine wpQuiet_step ?_
                            intro K hK
                            rw [if_pos (by kernel_rfl)]
                            refine val_at (.bool true) (fun W => by go_simp) (hK _ ?_)
                            clear hK K
                            simp only [Act.put, List.setIfInBounds_toArray, List.set_cons_zero, List.set_cons_succ]
                            with_reducible refine wpQuiet_step ?_
                            intro K hK
                            rw [if_pos (by kernel_rfl)]
                            refine move_at (.tmp 172) rfl (.bool true) rfl (hK _ ?_)
                            clear hK K
                            simp only [Act.put, List.setIfInBounds_toArray, List.set_cons_zero, List.set_cons_succ]
                            with_reducible refine wpQuiet_step ?_
                            intro K hK
                            rw [if_pos (by kernel_rfl)]
                            refine move_at (.tmp 4) rfl (.bool true) rfl (hK _ ?_)
                            clear hK K
                            simp only [Act.put, List.setIfInBounds_toArray, List.set_cons_zero, List.set_cons_succ]
                            with_reducible refine wpQuiet_step ?_
                            intro K hK
                            rw [if_pos (by kernel_rfl)]
                            refine val_at (.bool false) (fun W => by go_simp) (hK _ ?_)
                            clear hK K
                            simp only [Act.put, List.setIfInBounds_toArray, List.set_cons_zero, List.set_cons_succ]
                            with_reducible refine wpQuiet_step ?_
                            intro K hK
                            rw [if_pos (by kernel_rfl)]
                            refine move_at (.tmp 175) rfl (.bool false) rfl (hK _ ?_)
                            clear hK K
                            simp only [Act.put, List.setIfInBounds_toArray, List.set_cons_zero, List.set_cons_succ]
                            with_reducible refine wpQuiet_step ?_
                            intro K hK
                            rw [if_pos (by kernel_rfl)]
                            refine move_at (.tmp 6) rfl (.string A) rfl (hK _ ?_)
                            clear hK K
                            simp only [Act.put, List.setIfInBounds_toArray, List.set_cons_zero, List.set_cons_succ]
                            with_reducible refine wpQuiet_step ?_
                            intro K hK
                            rw [if_pos (by kernel_rfl)]
                            refine move_at (.tmp 3) rfl (.string LS) rfl (hK _ ?_)
                            clear hK K
                            simp only [Act.put, List.setIfInBounds_toArray, List.set_cons_zero, List.set_cons_succ]
                            with_reducible refine wpQuiet_step ?_
                            intro K hK
                            rw [if_pos (by kernel_rfl)]
                            refine val_at (.bool true) (fun W => by go_simp) (hK _ ?_)
                            clear hK K
                            simp only [Act.put, List.setIfInBounds_toArray, List.set_cons_zero, List.set_cons_succ]
                            with_reducible refine wpQuiet_step ?_
                            intro K hK
                            rw [if_pos (by kernel_rfl)]
                            refine val_at (.bool true) (fun W => by go_simp) (hK _ ?_)
                            clear hK K
                            simp only [Act.put, List.setIfInBounds_toArray, List.set_cons_zero, List.set_cons_succ]
                            with_reducible refine wpQuiet_step ?_
                            intro K hK
                            rw [if_pos (by kernel_rfl)]
                            refine val_at (.bool true) (fun W => by go_simp) (hK _ ?_)
                            clear hK K
                            simp only [Act.put, List.setIfInBounds_toArray, List.set_cons_zero, List.set_cons_succ]
                            refine wpQuiet_nil fun w8 k8 => ?_
                            have HK8 : Hid _ := HK7.out.then k8
                            clear k8
                            go_wp2
                            go_roundw
                            case rel => exact ⟨k + 1, some tb, by omega, by go_num, by rw [HST2.out]; rfl, rfl, HK8, HN⟩
                            case measure => simp [intOf]; omega
                        · have HN : Hid (BestTo (PairK (mapU RS) U i (k + 1)) (some s)) := (best_not HBq.out hls).iff hpm
                          rw [decide_eq_false hls] at heS
                          clear hfu htk hnn hpm hls
                          obtain ⟨LS, hLS⟩ : ∃ LS : ByteArray, LS = ⟨s.toArray⟩ := ⟨_, rfl⟩
                          have HLS : Hid (LS = ⟨s.toArray⟩) := hLS
                          rw [← hLS] at heS ⊢
                          clear hLS
                          obtain ⟨NK, hNK⟩ : ∃ NK : ByteArray, NK = ⟨(bytesU pk).toArray⟩ := ⟨_, rfl⟩
                          obtain ⟨NI, hNI⟩ : ∃ NI : ByteArray, NI = ⟨(bytesU p).toArray⟩ := ⟨_, rfl⟩
                          have HNK : Hid (∀ W, Kept [] w7 W → W.cell? ⟨b, off + k, none⟩ = some (.string NK)) := fun W hW => by rw [hNK]; exact HCN.out W (HK7.out.then hW) k pk HLk.out
                          have HNI : Hid (∀ W, Kept [] w7 W → W.cell? ⟨b, off + i, none⟩ = some (.string NI)) := fun W hW => by rw [hNI]; exact HCN.out W (HK7.out.then hW) i p HLp.out
                          rw [← hNK, ← hNI] at heN
                          clear hNK hNI
                          as_aux_lemma =>
                            go_wp2
                            refine region_quiet (Kept [] w7) (by kernel_rfl) (by kernel_rfl) (Kept.refl [] w7).drew ?_
                            with_reducible refine wpQuiet_step ?_
                            intro K hK
                            rw [if_pos (by kernel_rfl)]
                            refine move_at (.tmp 22) rfl (.bool true) rfl (hK _ ?_)
                            clear hK K
                            simp only [Act.put, List.setIfInBounds_toArray, List.set_cons_zero, List.set_cons_succ]
                            with_reducible refine wpQuiet_step ?_
                            intro K hK
                            rw [if_pos (by kernel_rfl)]
                            refine move_at (.tmp 154) rfl (.bool true) rfl (hK _ ?_)
                            clear hK K
                            simp only [Act.put, List.setIfInBounds_toArray, List.set_cons_zero, List.set_cons_succ]
                            with_reducible refine wpQuiet_step ?_
                            intro K hK
                            rw [if_pos (by kernel_rfl)]
                            refine move_at (.tmp 20) rfl (.string C) rfl (hK _ ?_)
                            clear hK K
                            simp only [Act.put, List.setIfInBounds_toArray, List.set_cons_zero, List.set_cons_succ]
                            with_reducible refine wpQuiet_step ?_
                            intro K hK
                            rw [if_pos (by kernel_rfl)]
                            refine move_at (.tmp 6) rfl (.string A) rfl (hK _ ?_)
                            clear hK K
                            simp only [Act.put, List.setIfInBounds_toArray, List.set_cons_zero, List.set_cons_succ]
                            with_reducible refine wpQuiet_step ?_
                            intro K hK
                            rw [if_pos (by kernel_rfl)]
                            refine val_at (.bool true) (fun W => by go_simp) (hK _ ?_)
                            clear hK K
                            simp only [Act.put, List.setIfInBounds_toArray, List.set_cons_zero, List.set_cons_succ]
                            with_reducible refine wpQuiet_step ?_
                            intro K hK
                            rw [if_pos (by kernel_rfl)]
                            refine val_at (.bool true) (fun W => by go_simp) (hK _ ?_)
                            clear hK K
                            simp only [Act.put, List.setIfInBounds_toArray, List.set_cons_zero, List.set_cons_succ]
                            with_reducible refine wpQuiet_step ?_
                            intro K hK
                            rw [if_pos (by kernel_rfl)]
                            refine move_at (.tmp 159) rfl (.bool true) rfl (hK _ ?_)
                            clear hK K
                            simp only [Act.put, List.setIfInBounds_toArray, List.set_cons_zero, List.set_cons_succ]
                            with_reducible refine wpQuiet_step ?_
                            intro K hK
                            rw [if_pos (by kernel_rfl)]
                            refine val_at (.pointer (some ⟨w.heap.size, 1, none⟩)) (fun W => by go_simp) (hK _ ?_)
                            clear hK K
                            simp only [Act.put, List.setIfInBounds_toArray, List.set_cons_zero, List.set_cons_succ]
                            with_reducible refine wpQuiet_step ?_
                            intro K hK
                            rw [if_pos (by kernel_rfl)]
                            refine valR_at (.slice (some ⟨b, off, none⟩) NS.length nc) (fun W hW => by have hcc := HC1.out W (HK7.out.then hW); go_simp) (hK _ ?_)
                            clear hK K
                            simp only [Act.put, List.setIfInBounds_toArray, List.set_cons_zero, List.set_cons_succ]
                            with_reducible refine wpQuiet_step ?_
                            intro K hK
                            rw [if_pos (by kernel_rfl)]
                            refine move_at (.tmp 19) rfl (.int .i64 k) rfl (hK _ ?_)
                            clear hK K
                            simp only [Act.put, List.setIfInBounds_toArray, List.set_cons_zero, List.set_cons_succ]
                            with_reducible refine wpQuiet_step ?_
                            intro K hK
                            rw [if_pos (by kernel_rfl)]
                            refine val_at (.pointer (some ⟨b, off + k, none⟩)) (fun W => by go_simp) (hK _ ?_)
                            clear hK K
                            simp only [Act.put, List.setIfInBounds_toArray, List.set_cons_zero, List.set_cons_succ]
                            with_reducible refine wpQuiet_step ?_
                            intro K hK
                            rw [if_pos (by kernel_rfl)]
                            refine valR_at (.string NK) (fun W hW => by have hcc := HNK.out W hW; go_simp) (hK _ ?_)
                            clear hK K
                            simp only [Act.put, List.setIfInBounds_toArray, List.set_cons_zero, List.set_cons_succ]
                            with_reducible refine wpQuiet_step ?_
                            intro K hK
                            rw [if_pos (by kernel_rfl)]
                            refine val_at (.pointer (some ⟨w.heap.size, 1, none⟩)) (fun W => by go_simp) (hK _ ?_)
                            clear hK K
                            simp only [Act.put, List.setIfInBounds_toArray, List.set_cons_zero, List.set_cons_succ]
                            with_reducible refine wpQuiet_step ?_
                            intro K hK
                            rw [if_pos (by kernel_rfl)]
                            refine valR_at (.slice (some ⟨b, off, none⟩) NS.length nc) (fun W hW => by have hcc := HC1.out W (HK7.out.then hW); go_simp) (hK _ ?_)
                            clear hK K
                            simp only [Act.put, List.setIfInBounds_toArray, List.set_cons_zero, List.set_cons_succ]
                            with_reducible refine wpQuiet_step ?_
                            intro K hK
                            rw [if_pos (by kernel_rfl)]
                            refine move_at (.tmp 5) rfl (.int .i64 i) rfl (hK _ ?_)
                            clear hK K
                            simp only [Act.put, List.setIfInBounds_toArray, List.set_cons_zero, List.set_cons_succ]
                            with_reducible refine wpQuiet_step ?_
                            intro K hK
                            rw [if_pos (by kernel_rfl)]
                            refine val_at (.pointer (some ⟨b, off + i, none⟩)) (fun W => by go_simp) (hK _ ?_)
                            clear hK K
                            simp only [Act.put, List.setIfInBounds_toArray, List.set_cons_zero, List.set_cons_succ]
                            with_reducible refine wpQuiet_step ?_
                            intro K hK
                            rw [if_pos (by kernel_rfl)]
                            refine valR_at (.string NI) (fun W hW => by have hcc := HNI.out W hW; go_simp) (hK _ ?_)
                            clear hK K
                            simp only [Act.put, List.setIfInBounds_toArray, List.set_cons_zero, List.set_cons_succ]
                            with_reducible refine wpQuiet_step ?_
                            intro K hK
                            rw [if_pos (by kernel_rfl)]
                            refine val_at (.bool true) (fun W => by go_simp) (hK _ ?_)
                            clear hK K
                            simp only [Act.put, List.setIfInBounds_toArray, List.set_cons_zero, List.set_cons_succ]
                            with_reducible refine wpQuiet_step ?_
                            intro K hK
                            rw [if_pos (by kernel_rfl)]
                            refine val_at (.bool true) (fun W => by go_simp) (hK _ ?_)
                            clear hK K
                            simp only [Act.put, List.setIfInBounds_toArray, List.set_cons_zero, List.set_cons_succ]
                            with_reducible refine wpQuiet_step ?_
                            intro K hK
                            rw [if_pos (by kernel_rfl)]
                            refine move_at (.tmp 172) rfl (.bool true) rfl (hK _ ?_)
                            clear hK K
                            simp only [Act.put, List.setIfInBounds_toArray, List.set_cons_zero, List.set_cons_succ]
                            with_reducible refine wpQuiet_step ?_
                            intro K hK
                            rw [if_pos (by kernel_rfl)]
                            refine move_at (.tmp 4) rfl (.bool true) rfl (hK _ ?_)
                            clear hK K
                            simp only [Act.put, List.setIfInBounds_toArray, List.set_cons_zero, List.set_cons_succ]
                            with_reducible refine wpQuiet_step ?_
                            intro K hK
                            rw [if_pos (by kernel_rfl)]
                            refine val_at (.bool false) (fun W => by go_simp) (hK _ ?_)
                            clear hK K
                            simp only [Act.put, List.setIfInBounds_toArray, List.set_cons_zero, List.set_cons_succ]
                            with_reducible refine wpQuiet_step ?_
                            intro K hK
                            rw [if_pos (by kernel_rfl)]
                            refine move_at (.tmp 175) rfl (.bool false) rfl (hK _ ?_)
                            clear hK K
                            simp only [Act.put, List.setIfInBounds_toArray, List.set_cons_zero, List.set_cons_succ]
                            with_reducible refine wpQuiet_step ?_
                            intro K hK
                            rw [if_pos (by kernel_rfl)]
                            refine move_at (.tmp 6) rfl (.string A) rfl (hK _ ?_)
                            clear hK K
                            simp only [Act.put, List.setIfInBounds_toArray, List.set_cons_zero, List.set_cons_succ]
                            with_reducible refine wpQuiet_step ?_
                            intro K hK
                            rw [if_pos (by kernel_rfl)]
                            refine move_at (.tmp 3) rfl (.string LS) rfl (hK _ ?_)
                            clear hK K
                            simp only [Act.put, List.setIfInBounds_toArray, List.set_cons_zero, List.set_cons_succ]
                            with_reducible refine wpQuiet_step ?_
                            intro K hK
                            rw [if_pos (by kernel_rfl)]
                            refine val_at (.bool false) (fun W => by go_simp) (hK _ ?_)
                            clear hK K
                            simp only [Act.put, List.setIfInBounds_toArray, List.set_cons_zero, List.set_cons_succ]
                            with_reducible refine wpQuiet_step ?_
                            intro K hK
                            rw [if_pos (by kernel_rfl)]
                            refine val_at (.bool false) (fun W => by go_simp) (hK _ ?_)
                            clear hK K
                            simp only [Act.put, List.setIfInBounds_toArray, List.set_cons_zero, List.set_cons_succ]
                            with_reducible refine wpQuiet_step ?_
                            intro K hK
                            rw [if_pos (by kernel_rfl)]
                            refine val_at (.bool false) (fun W => by go_simp) (hK _ ?_)
                            clear hK K
                            simp only [Act.put, List.setIfInBounds_toArray, List.set_cons_zero, List.set_cons_succ]
                            refine wpQuiet_nil fun w8 k8 => ?_
                            have HK8 : Hid _ := HK7.out.then k8
                            clear k8
                            go_wp2
                            go_roundw
                            case rel => exact ⟨k + 1, some s, by omega, by go_num, by rw [HLS.out]; rfl, rfl, HK8, HN⟩
                            case measure => simp [intOf]; omega
                  · have HN : Hid (BestTo (PairK (mapU RS) U i (k + 1)) q') := HBq.out.iff (pair_skip HUk.out HUi.out HFN.out (Or.inl (by rw [hfu]; intro h; injection h with h; exact htk h)))
                    rw [decide_eq_false htk] at heT
                    clear hfu htk heN
                    obtain ⟨NK, hNK⟩ : ∃ NK : ByteArray, NK = ⟨(bytesU pk).toArray⟩ := ⟨_, rfl⟩
                    obtain ⟨NI, hNI⟩ : ∃ NI : ByteArray, NI = ⟨(bytesU p).toArray⟩ := ⟨_, rfl⟩
                    have HNK : Hid (∀ W, Kept [] w7 W → W.cell? ⟨b, off + k, none⟩ = some (.string NK)) := fun W hW => by rw [hNK]; exact HCN.out W (HK7.out.then hW) k pk HLk.out
                    have HNI : Hid (∀ W, Kept [] w7 W → W.cell? ⟨b, off + i, none⟩ = some (.string NI)) := fun W hW => by rw [hNI]; exact HCN.out W (HK7.out.then hW) i p HLp.out
                    clear hNK hNI
                    as_aux_lemma =>
                      go_wp2
                      refine region_quiet (Kept [] w7) (by kernel_rfl) (by kernel_rfl) (Kept.refl [] w7).drew ?_
                      with_reducible refine wpQuiet_step ?_
                      intro K hK
                      rw [if_pos (by kernel_rfl)]
                      refine move_at (.tmp 22) rfl (.bool true) rfl (hK _ ?_)
                      clear hK K
                      simp only [Act.put, List.setIfInBounds_toArray, List.set_cons_zero, List.set_cons_succ]
                      with_reducible refine wpQuiet_step ?_
                      intro K hK
                      rw [if_pos (by kernel_rfl)]
                      refine move_at (.tmp 154) rfl (.bool true) rfl (hK _ ?_)
                      clear hK K
                      simp only [Act.put, List.setIfInBounds_toArray, List.set_cons_zero, List.set_cons_succ]
                      with_reducible refine wpQuiet_step ?_
                      intro K hK
                      rw [if_pos (by kernel_rfl)]
                      refine move_at (.tmp 20) rfl (.string C) rfl (hK _ ?_)
                      clear hK K
                      simp only [Act.put, List.setIfInBounds_toArray, List.set_cons_zero, List.set_cons_succ]
                      with_reducible refine wpQuiet_step ?_
                      intro K hK
                      rw [if_pos (by kernel_rfl)]
                      refine move_at (.tmp 6) rfl (.string A) rfl (hK _ ?_)
                      clear hK K
                      simp only [Act.put, List.setIfInBounds_toArray, List.set_cons_zero, List.set_cons_succ]
                      with_reducible refine wpQuiet_step ?_
                      intro K hK
                      rw [if_pos (by kernel_rfl)]
                      refine val_at (.bool false) (fun W => by go_simp) (hK _ ?_)
                      clear hK K
                      simp only [Act.put, List.setIfInBounds_toArray, List.set_cons_zero, List.set_cons_succ]
                      with_reducible refine wpQuiet_step ?_
                      intro K hK
                      rw [if_pos (by kernel_rfl)]
                      refine val_at (.bool false) (fun W => by go_simp) (hK _ ?_)
                      clear hK K
                      simp only [Act.put, List.setIfInBounds_toArray, List.set_cons_zero, List.set_cons_succ]
                      with_reducible refine wpQuiet_step ?_
                      intro K hK
                      rw [if_pos (by kernel_rfl)]
                      refine move_at (.tmp 159) rfl (.bool false) rfl (hK _ ?_)
                      clear hK K
                      simp only [Act.put, List.setIfInBounds_toArray, List.set_cons_zero, List.set_cons_succ]
                      with_reducible refine wpQuiet_step ?_
                      intro K hK
                      rw [if_neg (not_of_false (by kernel_rfl))]
                      refine hK _ ?_
                      clear hK K
                      simp only [Act.put, List.setIfInBounds_toArray, List.set_cons_zero, List.set_cons_succ]
                      with_reducible refine wpQuiet_step ?_
                      intro K hK
                      rw [if_neg (not_of_false (by kernel_rfl))]
                      refine hK _ ?_
                      clear hK K
                      simp only [Act.put, List.setIfInBounds_toArray, List.set_cons_zero, List.set_cons_succ]
                      with_reducible refine wpQuiet_step ?_
                      intro K hK
                      rw [if_neg (not_of_false (by kernel_rfl))]
                      refine hK _ ?_
                      clear hK K
                      simp only [Act.put, List.setIfInBounds_toArray, List.set_cons_zero, List.set_cons_succ]
                      with_reducible refine wpQuiet_step ?_
                      intro K hK
                      rw [if_neg (not_of_false (by kernel_rfl))]
                      refine hK _ ?_
                      clear hK K
                      simp only [Act.put, List.setIfInBounds_toArray, List.set_cons_zero, List.set_cons_succ]
                      with_reducible refine wpQuiet_step ?_
                      intro K hK
                      rw [if_neg (not_of_false (by kernel_rfl))]
                      refine hK _ ?_
                      clear hK K
                      simp only [Act.put, List.setIfInBounds_toArray, List.set_cons_zero, List.set_cons_succ]
                      with_reducible refine wpQuiet_step ?_
                      intro K hK
                      rw [if_neg (not_of_false (by kernel_rfl))]
                      refine hK _ ?_
                      clear hK K
                      simp only [Act.put, List.setIfInBounds_toArray, List.set_cons_zero, List.set_cons_succ]
                      with_reducible refine wpQuiet_step ?_
                      intro K hK
                      rw [if_neg (not_of_false (by kernel_rfl))]
                      refine hK _ ?_
                      clear hK K
                      simp only [Act.put, List.setIfInBounds_toArray, List.set_cons_zero, List.set_cons_succ]
                      with_reducible refine wpQuiet_step ?_
                      intro K hK
                      rw [if_neg (not_of_false (by kernel_rfl))]
                      refine hK _ ?_
                      clear hK K
                      simp only [Act.put, List.setIfInBounds_toArray, List.set_cons_zero, List.set_cons_succ]
                      with_reducible refine wpQuiet_step ?_
                      intro K hK
                      rw [if_neg (not_of_false (by kernel_rfl))]
                      refine hK _ ?_
                      clear hK K
                      simp only [Act.put, List.setIfInBounds_toArray, List.set_cons_zero, List.set_cons_succ]
                      with_reducible refine wpQuiet_step ?_
                      intro K hK
                      rw [if_neg (not_of_false (by kernel_rfl))]
                      refine hK _ ?_
                      clear hK K
                      simp only [Act.put, List.setIfInBounds_toArray, List.set_cons_zero, List.set_cons_succ]
                      with_reducible refine wpQuiet_step ?_
                      intro K hK
                      rw [if_neg (not_of_false (by kernel_rfl))]
                      refine hK _ ?_
                      clear hK K
                      simp only [Act.put, List.setIfInBounds_toArray, List.set_cons_zero, List.set_cons_succ]
                      with_reducible refine wpQuiet_step ?_
                      intro K hK
                      rw [if_pos (by kernel_rfl)]
                      refine val_at (.bool false) (fun W => by go_simp) (hK _ ?_)
                      clear hK K
                      simp only [Act.put, List.setIfInBounds_toArray, List.set_cons_zero, List.set_cons_succ]
                      with_reducible refine wpQuiet_step ?_
                      intro K hK
                      rw [if_pos (by kernel_rfl)]
                      refine move_at (.tmp 172) rfl (.bool false) rfl (hK _ ?_)
                      clear hK K
                      simp only [Act.put, List.setIfInBounds_toArray, List.set_cons_zero, List.set_cons_succ]
                      with_reducible refine wpQuiet_step ?_
                      intro K hK
                      rw [if_neg (not_of_false (by kernel_rfl))]
                      refine hK _ ?_
                      clear hK K
                      simp only [Act.put, List.setIfInBounds_toArray, List.set_cons_zero, List.set_cons_succ]
                      with_reducible refine wpQuiet_step ?_
                      intro K hK
                      rw [if_neg (not_of_false (by kernel_rfl))]
                      refine hK _ ?_
                      clear hK K
                      simp only [Act.put, List.setIfInBounds_toArray, List.set_cons_zero, List.set_cons_succ]
                      with_reducible refine wpQuiet_step ?_
                      intro K hK
                      rw [if_neg (not_of_false (by kernel_rfl))]
                      refine hK _ ?_
                      clear hK K
                      simp only [Act.put, List.setIfInBounds_toArray, List.set_cons_zero, List.set_cons_succ]
                      with_reducible refine wpQuiet_step ?_
                      intro K hK
                      rw [if_neg (not_of_false (by kernel_rfl))]
                      refine hK _ ?_
                      clear hK K
                      simp only [Act.put, List.setIfInBounds_toArray, List.set_cons_zero, List.set_cons_succ]
                      with_reducible refine wpQuiet_step ?_
                      intro K hK
                      rw [if_neg (not_of_false (by kernel_rfl))]
                      refine hK _ ?_
                      clear hK K
                      simp only [Act.put, List.setIfInBounds_toArray, List.set_cons_zero, List.set_cons_succ]
                      with_reducible refine wpQuiet_step ?_
                      intro K hK
                      rw [if_neg (not_of_false (by kernel_rfl))]
                      refine hK _ ?_
                      clear hK K
                      simp only [Act.put, List.setIfInBounds_toArray, List.set_cons_zero, List.set_cons_succ]
                      with_reducible refine wpQuiet_step ?_
                      intro K hK
                      rw [if_neg (not_of_false (by kernel_rfl))]
                      refine hK _ ?_
                      clear hK K
                      simp only [Act.put, List.setIfInBounds_toArray, List.set_cons_zero, List.set_cons_succ]
                      with_reducible refine wpQuiet_step ?_
                      intro K hK
                      rw [if_pos (by kernel_rfl)]
                      refine val_at (.bool false) (fun W => by go_simp) (hK _ ?_)
                      clear hK K
                      simp only [Act.put, List.setIfInBounds_toArray, List.set_cons_zero, List.set_cons_succ]
                      refine wpQuiet_nil fun w8 k8 => ?_
                      have HK8 : Hid _ := HK7.out.then k8
                      clear k8
                      go_wp2
                      go_roundw
                      case rel => exact ⟨k + 1, q', by omega, by go_num, rfl, rfl, HK8, HN⟩
                      case measure => simp [intOf]; omega
              · have t1 : decide ((k : Int) < (i : Int)) = false := by simp; omega
                obtain rfl : k = i := by omega
                have HB9 : Hid (BestTo (PairK (mapU RS) U (k + 1) 0) q') := HBq.out.iff pair_next
                go_wp2
                go_meet
                exact ⟨q', rfl, rfl, HB9, HKq⟩
      case rest =>
      obtain ⟨q', rfl, rfl, HB9, HKc⟩ := hcut
      have HNR : Hid ((RuleL.mk p [] false true).row = [.string ⟨(bytesU p).toArray⟩, .string ⟨#[]⟩, .bool false, .bool true]) := by
        have h : (RuleL.mk p [] false true).row = [.string ⟨(bytesU p).toArray⟩, .string ⟨#[]⟩, .bool false, .bool true] := by unfold RuleL.row; rw [str_of_bytes p]; rfl
        exact h
      have HRUL : Hid (∀ W, Kept [] wr W → Calls Tryd.prog 12 #[.slice ra RS.length rc] W fun e w' => ∃ ao cap, e = .returned (.slice ao RS.length cap) ∧ w'.ownsRow wr.heap.size 37 4 (.slice ao RS.length cap) RS.length (RS.map RuleL.row).flatten ∧ Kept [] W w') := fun W k => by
        refine (rules_own _ RS W (HTW.out W k).2.2 (by have := HLR.out; omega)).mono ?_
        rintro e w' ⟨ao, cap, rfl, _, _, h, k'⟩
        exact ⟨ao, cap, rfl, owns_low h k.size, k'⟩
      have HFin : Hid (∀ (W : World) (u : Value), W.ownsRow wr.heap.size 37 4 u (RS.length + 1) ((RS.map RuleL.row).flatten ++ [.string ⟨(bytesU p).toArray⟩, .string ⟨#[]⟩, .bool false, .bool true]) → RulesAt W u (RS ++ [RuleL.mk p [] false true])) := fun W u h => by
        rw [← HNR.out] at h
        have h2 : W.ownsRow wr.heap.size 37 4 u ((RS ++ [RuleL.mk p [] false true]).map RuleL.row).length ((RS ++ [RuleL.mk p [] false true]).map RuleL.row).flatten := by
          rw [List.length_map, List.length_append, List.map_append, List.flatten_append]
          simpa using h
        exact ownsK_rows (by decide) (rows_len _) h2 (by rw [List.length_map, List.length_append]; have := HLR.out; simp; omega)
      have HMNOT : Hid (∀ W u, Kept [] wr W → RulesAt W u (RS ++ [RuleL.mk p [] false true]) → Calls Tryd.prog 8 #[u, .string ⟨(bytesU p).toArray⟩] W fun e w' => e = .returned (mapV (mapL (RS ++ [RuleL.mk p [] false true]) p)) ∧ Kept [] W w') := fun W u k hu => by
        rw [← str_of_bytes]
        refine Map_any u _ p W hu (fun r hr => ?_) HOP.out.1 (by have := HOP.out.2; omega) (HTW.out W k).1 (HTW.out W k).2.1
        rcases List.mem_append.1 hr with h | h
        · exact HG.out r h
        · obtain rfl := List.mem_singleton.1 h
          exact ⟨HOP.out.1, fun u hu => by simp at hu, by have := HOP.out.2; show p.length ≤ _; omega, by simp⟩
      have hRl2 : RS.length ≤ 1000000 := by have := HLR.out; omega
      have HSK : Hid (∀ W, Kept [] wr W → Kept [] wr W ∧ W.cell? ⟨w.heap.size, 0, none⟩ = some (.slice ra RS.length rc) ∧ W.cell? ⟨w.heap.size, 1, none⟩ = some (.slice (some ⟨b, off, none⟩) NS.length nc) ∧ W.cell? ⟨b, off + i, none⟩ = some (.string ⟨(bytesU p).toArray⟩)) := fun W k => ⟨k, HC0.out W k, HC1.out W k, HCN.out W k i p HLp.out⟩
      have hone : ∀ u, u ∈ [Value.string ⟨(bytesU p).toArray⟩, .string ⟨#[]⟩, .bool false, .bool true] → u.oneCell' = true := fun u hu => by
        rcases List.mem_cons.1 hu with rfl | hu
        · rfl
        · rcases List.mem_cons.1 hu with rfl | hu
          · rfl
          · rcases List.mem_cons.1 hu with rfl | hu
            · rfl
            · rcases List.mem_cons.1 hu with rfl | hu
              · rfl
              · cases hu
      have hbu : Tryd.prog.built 37 [(0, .string ⟨(bytesU p).toArray⟩), (3, .bool true)] = some #[.string ⟨(bytesU p).toArray⟩, .string ⟨#[]⟩, .bool false, .bool true] := built_not _
      go_wp2_with fail
      go_cut [23] from 183 to 193 (fun s23 wx => Hid (RulesAt wx s23 (RS ++ [RuleL.mk p [] false true]) ∧ Kept [] wr wx))
      case first =>
        as_aux_lemma =>
          have HKd : Hid (Kept [] wr wc.drew) := HKc.out.drew
          have hszd : wr.heap.size ≤ wc.drew.heap.size := HKd.out.size
          go_region_held_law (fun W => Kept [] wr W ∧ W.cell? ⟨w.heap.size, 0, none⟩ = some (.slice ra RS.length rc) ∧ W.cell? ⟨w.heap.size, 1, none⟩ = some (.slice (some ⟨b, off, none⟩) NS.length nc) ∧ W.cell? ⟨b, off + i, none⟩ = some (.string ⟨(bytesU p).toArray⟩)) (exact HSK.out _ (by first | exact HKd.out | exact HKd.out.alloc _ | exact HKw.out | exact HKw.out.alloc _ | exact HK9.out)) (first
            | (go_simp; go_at_call 12; refine (HRUL.out _ ?_).mono ?_; (first | exact HKd.out | exact HKd.out.alloc _)
               rintro e w7 ⟨ao, cap, rfl, how, k7⟩
               have HOW : Hid (w7.ownsRow wr.heap.size 37 4 (.slice ao RS.length cap) RS.length (RS.map RuleL.row).flatten) := how
               have HKw : Hid (Kept [] wr w7) := by first | exact HKd.out.then k7 | exact (HKd.out.alloc _).then k7
               have HK7 : Hid _ := k7
               clear how k7)
            | (refine step_build_k (by rfl) Tryd.underlying22 Tryd.info_rule (by decide) (by decide) (.tmp 191) (by rfl) [Value.string ⟨(bytesU p).toArray⟩, .string ⟨#[]⟩, .bool false, .bool true] (by rfl) (by rfl) ?_)
            | (refine step_build_some (by rfl) 37 _ (by rfl) #[.string ⟨(bytesU p).toArray⟩, .string ⟨#[]⟩, .bool false, .bool true] (by simpa using hbu) ?_)
            | (refine step_append_k (by rfl) (.tmp 185) (.tmp 192) 22 37 _ 4 40 Tryd.underlying22 Tryd.info_rule rfl (by decide) rfl (B := wr.heap.size) (v := .slice ao RS.length cap) (n := RS.length) (xs := (RS.map RuleL.row).flatten) rfl (ownsK_on' HOW.out ((Kept.refl [] w7).alloc _)) (q := w7.heap.size) (us := [Value.string ⟨(bytesU p).toArray⟩, .string ⟨#[]⟩, .bool false, .bool true]) rfl rfl (range_new _ _ _) hone hRl2 (by decide) (Nat.le_trans HKw.out.size (by simp)) ?_
               intro v9 w9 h9 k9 _
               have HR9 : Hid (RulesAt w9 v9 (RS ++ [RuleL.mk p [] false true])) := HFin.out w9 v9 h9
               have HK9 : Hid (Kept [] wr w9) := (HKw.out.alloc _).trans k9 (fun y hy => Or.inr (World.ownsRow.lt HOW.out y (by simpa using hy)).1)
               clear h9 k9)
            | (refine step_append_k (by rfl) (.tmp 185) (.tmp 192) 22 37 _ 4 40 Tryd.underlying22 Tryd.info_rule rfl (by decide) rfl (B := wr.heap.size) (v := .slice ao RS.length cap) (n := RS.length) (xs := (RS.map RuleL.row).flatten) rfl HOW.out (q := wc.drew.heap.size) (us := [Value.string ⟨(bytesU p).toArray⟩, .string ⟨#[]⟩, .bool false, .bool true]) rfl rfl (range_kept (range_new _ _ _) HK7.out (by simp)) hone hRl2 (by decide) HKw.out.size ?_
               intro v9 w9 h9 k9 _
               have HR9 : Hid (RulesAt w9 v9 (RS ++ [RuleL.mk p [] false true])) := HFin.out w9 v9 h9
               have HK9 : Hid (Kept [] wr w9) := HKw.out.trans k9 (fun y hy => Or.inr (World.ownsRow.lt HOW.out y (by simpa using hy)).1)
               clear h9 k9))
          all_goals ((try simp only [List.getElem_toArray, List.getElem_cons_succ, List.getElem_cons_zero, List.setIfInBounds_toArray, List.set_cons_zero, List.set_cons_succ]); go_wp2_with fail; go_meet; exact (⟨HR9.out, HK9.out⟩ : _ ∧ _))
      case rest =>
      as_aux_lemma =>
        obtain ⟨hr9, hk9⟩ := hcut.out
        have HKn : Hid (Kept [] wr wc) := hk9
        obtain ⟨A5, F5, O5, hm5⟩ : ∃ A F O, mapV (mapL (RS ++ [RuleL.mk p [] false true]) p) = .tuple #[.string A, .bool F, .bool O] := ⟨_, _, _, rfl⟩
        have HO5 : Hid (starB p = false → O5 = false) := fun hs => by
          have h := hm5
          rw [map_not hs, mapV_none] at h
          injection h with h
          injection h with h
          simp only [List.cons.injEq, Value.bool.injEq, Value.string.injEq, and_true] at h
          exact h.2.2.symm
        have hmn := HMNOT.out wc _ hk9 hr9
        rw [hm5] at hmn
        have f1 := HC1.out wc hk9
        have fn := HCN.out wc hk9 i p HLp.out
        have HIX : Hid (∀ k, k < p.length → ∀ W, (Instr.index 9 (.string ⟨(bytesU p).toArray⟩) (.int .i64 k)).run Tryd.prog W = .ok (.int .u8 (p.getD k 0)) W) := fun k hk W => by rw [← str_of_bytes]; exact str_ix p HOP.out.1 k hk W
        have hsz : (⟨(bytesU p).toArray⟩ : ByteArray).size = p.length := by rw [← str_of_bytes]; exact strOfNums_size p
        have HNI : Hid (∀ W, Kept [] wr W → W.cell? ⟨b, off + i, none⟩ = some (.string ⟨(bytesU p).toArray⟩)) := fun W hW => HCN.out W hW i p HLp.out
        have hpl : p.length ≤ 140737488351232 := HOP.out.2
        clear hcut hk9 hr9 hm5 hbu hone HMP HUN HFin HMNOT HNR HSK HRUL
        generalize (⟨(bytesU p).toArray⟩ : ByteArray) = NI at *
        go_wp2_with (first
          | (go_at_call 8; refine hmn.mono ?_; rintro e w10 ⟨rfl, k10⟩
             have HK10 : Hid (Kept [] wr w10) := HKn.out.then k10
             clear k10 hmn))
        go_loopw [27, 28] (fun s27 s28 wq => ∃ k : Nat, k ≤ p.length ∧ s28 = .int .i64 k ∧ s27 = .bool (starB (p.take k)) ∧ Hid (Kept [] wr wq)) (fun _ s28 _ => p.length - (intOf s28).toNat)
        case atStart => exact ⟨0, Nat.zero_le _, rfl, by simp [starB], HK10⟩
        case round =>
          obtain ⟨k, hk, rfl, rfl, HKq⟩ := hrel
          have g1 := HC1.out wr HKq.out
          have gn := HNI.out wr HKq.out
          by_cases hlt2 : k < p.length
          · have t1 : decide ((k : Int) < (p.length : Int)) = true := decide_eq_true (by omega)
            have hix := HIX.out k hlt2
            have hst := star_take hlt2
            cases hs : starB (p.take k) with
            | true =>
              have HN : Hid (starB (p.take (k + 1)) = true) := by
                have h : starB (p.take (k + 1)) = true := by rw [hst, hs]; rfl
                exact h
              clear hst hs
              go_wp2
              go_roundw
              case rel => exact ⟨k + 1, by omega, by go_num, by rw [HN.out], HKq⟩
              case measure => simp [intOf]; omega
            | false =>
              by_cases hx : p.getD k 0 = 42
              · have HN : Hid (starB (p.take (k + 1)) = true) := by
                  have h : starB (p.take (k + 1)) = true := by rw [hst, hs, hx]; rfl
                  exact h
                have t2 : (p.getD k 0 == 42) = true := by simpa using hx
                clear hst hs hx
                generalize p.getD k 0 = x at *
                go_wp2
                go_roundw
                case rel => exact ⟨k + 1, by omega, by go_num, by rw [HN.out], HKq⟩
                case measure => simp [intOf]; omega
              · have t2 : (p.getD k 0 == 42) = false := by simpa using hx
                have HN : Hid (starB (p.take (k + 1)) = false) := by
                  have h : starB (p.take (k + 1)) = false := by rw [hst, hs, t2]; rfl
                  exact h
                clear hst hs hx
                generalize p.getD k 0 = x at *
                go_wp2
                go_roundw
                case rel => exact ⟨k + 1, by omega, by go_num, by rw [HN.out], HKq⟩
                case measure => simp [intOf]; omega
          · have t1 : decide ((k : Int) < (p.length : Int)) = false := decide_eq_false (by omega)
            have htk : p.take k = p := List.take_of_length_le (by omega)
            rw [htk]
            clear htk
            cases hs : starB p with
            | false =>
              obtain rfl := HO5.out hs
              clear hs HO5
              go_wp2
              go_roundw
              case rel => exact ⟨i + 1, q', by omega, by go_num, rfl, rfl, HK.out.then HKq.out, HB9⟩
              case measure => simp [intOf]; omega
            | true =>
              clear hs HO5
              cases O5 with
              | true =>
                go_wp2
                go_roundw
                case rel => exact ⟨i + 1, q', by omega, by go_num, rfl, rfl, HK.out.then HKq.out, HB9⟩
                case measure => simp [intOf]; omega
              | false =>
                go_wp2
                go_roundw
                case rel => exact ⟨i + 1, q', by omega, by go_num, rfl, rfl, HK.out.then HKq.out, HB9⟩
                case measure => simp [intOf]; omega
    · as_aux_lemma =>
      have t0 : decide ((i : Int) < (NS.length : Int)) = false := by simp; omega
      have HCT : Hid (ClashTo (mapU RS) U q) := best_clash HBE.out (by have := HUL.out; omega)
      have HONE : Hid (∀ W u, Kept [] wr W → RulesAt W u [RuleL.mk [97, 42] [98, 42] true false] → Calls Tryd.prog 8 #[u, .string ⟨#[97, 122]⟩] W fun e w' => e = .returned (.tuple #[.string ⟨#[98, 122]⟩, .bool true, .bool true]) ∧ Kept [] W w') := fun W u k hu => by
        have h := Map_any u _ [97, 122] W hu (fun r hr => by
          obtain rfl := List.mem_singleton.1 hr
          exact ⟨fun u hu => by simp at hu; omega, fun u hu => by simp at hu; omega, by simp, by simp⟩) (fun u hu => by simp at hu; omega) (by simp) (HTT.out W (kk.then k)) (HMM.out W (kk.then k))
        rw [one_maps, mapV_some] at h
        exact h
      have HROW : Hid (RulesAt (wr.alloc (.cells #[.string ⟨#[97, 42]⟩, .string ⟨#[98, 42]⟩, .bool true, .bool false] 37)) (.slice (some ⟨wr.heap.size, 0, none⟩) 1 1) [RuleL.mk [97, 42] [98, 42] true false]) := by
        have h := row_at_new wr [.string ⟨#[97, 42]⟩, .string ⟨#[98, 42]⟩, .bool true, .bool false] 37 4
        rw [← one_row] at h
        exact h
      have HCL : Hid (∀ W, Kept [] wr W → Calls Tryd.prog 13 #[.slice ra RS.length rc, .slice na NS.length nc] W fun e w' => ∃ r, e = .returned (strV r) ∧ ClashTo (mapU RS) (NS.map bytesU) r ∧ Kept [] W w') := fun W k => Clash_any _ _ RS NS W (HRR.out W (kk.then k)) (fun r h => HG.out r h) (HNN.out W (kk.then k)) (fun p hp => by have := (HO.out p hp).2; omega) (by omega) (HTT.out W (kk.then k)) (HMM.out W (kk.then k))
      have HWW : Hid (Kept [] w wr) := HK2.out.then kk
      have hbo := Tryd.built_one
      clear kk
      go_wp2_with (first
        | (refine wpList_build_some (by rfl) 37 _ (by rfl) #[.string ⟨#[97, 42]⟩, .string ⟨#[98, 42]⟩, .bool true, .bool false] (by simp; exact hbo) ?_)
        | (refine wpList_build_k (by rfl) Tryd.underlying22 Tryd.info_rule (by decide) (by decide) _ (by rfl) [.string ⟨#[97, 42]⟩, .string ⟨#[98, 42]⟩, .bool true, .bool false] (by rfl) (by rfl) ?_)
        | (go_at_call 8; refine (HONE.out _ _ ((Kept.refl [] wr).alloc _) HROW.out).mono ?_; rintro e w11 ⟨rfl, k11⟩
           have HK11 : Hid (Kept [] wr w11) := ((Kept.refl [] wr).alloc _).then k11
           have e0 := HC0.out w11 HK11.out
           have e1 := HC1.out w11 HK11.out
           have hcl := HCL.out w11 HK11.out
           clear k11)
        | (go_at_call 13; refine hcl.mono ?_; rintro e w12 ⟨r, rfl, hto, k12⟩
           rw [← HUM.out] at hto
           obtain rfl := hto.uniq HCT.out
           have HK12 : Hid (Kept [] wr w12) := HK11.out.then k12
           rw [strV_is]
           clear hto k12 hcl))
      go_ret
      exact ⟨rfl, HWW.out.then HK12.out⟩
end Go.Proofs.YtmjbaficdoehfaaDoor
