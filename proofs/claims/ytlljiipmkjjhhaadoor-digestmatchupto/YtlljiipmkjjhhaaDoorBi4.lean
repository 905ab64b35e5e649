/-
  WALK: (*satchellaw1.Book).IDs.
-/
import Derived.Test.YtlljiipmkjjhhaaDoorBi3
namespace Go.Proofs.YtlljiipmkjjhhaaDoor
open Go.RowKit

theorem Tryd.info_idl : (Tryd.prog.info? 22).map (fun i => (i.zero, i.size, i.bytes)) = some (some (.slice none 0 0), 1, 24) := by kernel_rfl
/-- A list of ids of one's own: none, or in a block. -/
def ListI (W : World) (B : Nat) (v : Value) (A : List (List Int)) : Prop := (v = .slice none 0 0 ∧ A = []) ∨ ∃ g cap, v = .slice (some ⟨g, 0, none⟩) A.length cap ∧ B ≤ g ∧ IdIn W g cap A
theorem ListI.form {W : World} {B : Nat} {v : Value} {A : List (List Int)} (h : ListI W B v A) : ∃ ao cap, v = .slice ao A.length cap := by
  rcases h with ⟨h1, h2⟩ | ⟨g, cap, h1, _⟩
  · exact ⟨none, 0, by rw [h1, h2]; rfl⟩
  · exact ⟨_, _, h1⟩
theorem ListI.kept {W W' : World} {B : Nat} {v : Value} {A : List (List Int)} {T : List Nat} (h : ListI W B v A) (k : Kept T W W') (hn : ∀ g, v.ownBlock = some g → g ∉ T) : ListI W' B v A := by
  rcases h with h | ⟨g, cap, h1, h2, h3⟩
  · exact .inl h
  · exact .inr ⟨g, cap, h1, h2, h3.keptS k (hn g (by rw [h1]; rfl))⟩
theorem ListI.marked {W : World} {B : Nat} {v : Value} {m : Int} {n : Nat} (h : ListI W B v (List.replicate n (idM m))) : MarkedI W B v m n := by
  rcases h with ⟨h1, h2⟩ | ⟨g, cap, h1, h2, h3⟩
  · refine .inl ⟨h1, ?_⟩
    have := congrArg List.length h2
    simpa using this
  · rw [List.length_replicate] at h1
    exact .inr ⟨g, cap, h1, h2, h3⟩
theorem MarkedI.kept {W W' : World} {B : Nat} {v : Value} {m : Int} {n : Nat} {T : List Nat} (h : MarkedI W B v m n) (k : Kept T W W') (hn : ∀ g, v.ownBlock = some g → g ∉ T) : MarkedI W' B v m n := by
  rcases h with h | ⟨g, cap, h1, h2, h3⟩
  · exact .inl h
  · exact .inr ⟨g, cap, h1, h2, h3.keptS k (hn g (by rw [h1]; rfl))⟩
theorem repl_mid (x : List Int) (ids : List (List Int)) (k : Nat) (hk : k < ids.length) : (List.replicate k x ++ ids.drop k).set k x = List.replicate (k + 1) x ++ ids.drop (k + 1) := by
  rw [List.set_append_right _ _ (by simp), List.length_replicate, Nat.sub_self, List.drop_eq_getElem_cons hk, List.set_cons_zero, List.replicate_succ', List.append_assoc]
  rfl
structure IdsTo (W W' : World) (B bb : Nat) (es : List Ent) (a turn done : Int) (S : List Nat) (v : Value) : Prop where
  ex : ∃ es' S', BookAtI W' B bb es' a (turn + 1) done S' ∧ (es' = es ∨ ∃ x : Ent, es' = es ++ [x] ∧ x.n ≤ 10000000) ∧ Kept (S ++ v.ownBlock.toList) W W' ∧ (∀ x, x ∈ S' → x ∈ S ∨ v.ownBlock = some x ∨ W.heap.size ≤ x)

set_option maxRecDepth 100000 in
set_option maxHeartbeats 4000000 in
theorem BIDs_any {W : World} {B bb : Nat} {es : List Ent} {a turn done : Int} {S : List Nat} (hbk : BookAtI W B bb es a turn done S) {v : Value} {ids : List (List Int)} (hv : ListI W B v ids) (hg : ∀ g, v.ownBlock = some g → g ∉ S) (ht0 : 0 ≤ turn) (ht1 : turn ≤ 1000000) (hl : es.length ≤ 900000) (hy : ids.length ≤ 1000000) (hB : B ≤ W.heap.size) :
    Calls Tryd.prog 15 #[.pointer (some ⟨bb, 0, none⟩), v] W fun e w' => e = .returned (.tuple #[]) ∧ IdsTo W w' B bb es a turn done S v := by
  obtain ⟨vb, vo, D, SD, used, P, hes, hu0, hu1, rfl⟩ := hbk.ex
  clear hbk
  have hbb : ∀ g, v.ownBlock = some g → g ≠ bb := fun g h e => hg g h (by simp [footB, e])
  obtain ⟨ao, cap, rfl⟩ := hv.form
  obtain ⟨n, hn⟩ : ∃ n, n = ids.length := ⟨_, rfl⟩
  rw [← hn] at hv hg hbb hy ⊢
  have HN : Hid (n = ids.length) := hn
  clear hn
  have HBB : Hid (∀ g, (Value.slice ao n cap).ownBlock = some g → g ≠ bb) := hbb
  obtain ⟨q0, q1, q2, q33, q34, q35, qf⟩ := P.cells
  obtain ⟨m, hm⟩ : ∃ m, m = turn + 1 := ⟨_, rfl⟩
  have HM : Hid (turn + 1 = m) := hm.symm
  have P1 := P.num 33 (.int .i64 m) (a' := a) (turn' := m) (done' := done) (used' := used) rfl
  have hk1 : Kept [bb] W (W.setCell ⟨bb, 33, none⟩ (.int .i64 m)) := (Kept.refl [bb] W).setCell (p := ⟨bb, 33, none⟩) (Or.inl (by simp)) _
  obtain ⟨W1, hW1⟩ : ∃ W1, W1 = W.setCell ⟨bb, 33, none⟩ (.int .i64 m) := ⟨_, rfl⟩
  rw [← hW1] at P1 hk1
  have ho1 : ListI W1 B (.slice ao n cap) ids := hv.kept hk1 (fun g h => by simpa using hbb g h)
  have HP1 : Hid (BkI W1 B bb vb vo D SD (es.map Ent.v) (es.map fun x => Value.int .i64 x.m) a m done used) := P1
  have HO1 : Hid (ListI W1 B (.slice ao n cap) ids) := ho1
  have HK1 : Hid (Kept (footB bb vb vo SD ++ (Value.slice ao n cap).ownBlock.toList) W W1) := hk1.more (by simp [footB])
  have HES : Hid (∀ x, x ∈ es → EntIn D x ∧ 0 ≤ x.m ∧ x.m ≤ turn) := hes
  have HG : Hid (∀ g, (Value.slice ao n cap).ownBlock = some g → g ∉ footB bb vb vo SD) := hg
  have w1 : IntKind.i64.wrap (turn + 1) = m := by rw [IntKind.wrap_i64]; omega
  have him := fun W => idsMark_any m (by omega) (by omega) W
  have c33 : W1.cell? ⟨bb, 33, none⟩ = some (.int .i64 m) := P1.cells.2.2.2.1
  obtain ⟨X, hX⟩ : ∃ X, X = (idM m).map (Value.int .u8) := ⟨_, rfl⟩
  have HX : Hid (X = (idM m).map (Value.int .u8)) := hX
  have hXl : X.length = 32 := by rw [hX, List.length_map]; exact (idM_good m).1
  have hX1 : ∀ u, u ∈ X → u.oneCell' = true := by rw [hX]; exact map_oneCell _
  have hXi : idC (idM m) = X.toArray := by rw [hX]; rfl
  rw [hXi] at him
  have hsz : (Tryd.prog.info? 24).map (·.size) = some X.toArray.size := by rw [List.size_toArray, hXl]; exact Tryd.infoID
  have hszl : (Tryd.prog.info? 24).map (·.size) = some X.length := by rw [hXl]; exact Tryd.infoID
  have hXa : X.toArray.all (·.oneCell') = true := all_oneCell_toArray hX1
  have hui := Tryd.underlying24
  have HW1 : Hid (W1 = W.setCell ⟨bb, 33, none⟩ (.int .i64 m)) := hW1
  clear P P1 hv hk1 ho1 hes hg hm hbb hX hXi hW1
  go_enter Tryd.func15, Tryd.ntmps15
  go_wp2_with fail
  refine (him _).mono ?_
  rintro e w2 ⟨rfl, k2⟩
  rw [← HW1.out] at k2
  clear him q0 q1 q2 q33 q34 q35 qf c33
  obtain ⟨W3, hW3⟩ : ∃ W3, W3 = w2.alloc (.cells X.toArray 24) := ⟨_, rfl⟩
  have HW3 : Hid (W3 = w2.alloc (.cells X.toArray 24)) := hW3
  have k3 : Kept [] W1 W3 := k2.then (by rw [hW3]; exact (Kept.refl _ _).alloc _)
  have hxb : W3.heap[w2.heap.size]? = some (.cells X.toArray 24 (0, 0)) := by rw [hW3]; exact heap_alloc_new w2 _
  have HS3 : Hid (BkI W3 B bb vb vo D SD (es.map Ent.v) (es.map fun x => Value.int .i64 x.m) a m done used ∧ ListI W3 B (.slice ao n cap) ids ∧ Kept (footB bb vb vo SD ++ (Value.slice ao n cap).ownBlock.toList) W W3 ∧ W3.heap[w2.heap.size]? = some (.cells X.toArray 24 (0, 0))) := ⟨HP1.out.on k3 (fun _ _ => by simp), HO1.out.kept k3 (fun _ _ => by simp), HK1.out.then (k3.more (by simp)), hxb⟩
  have HXB : Hid (bb ≠ w2.heap.size ∧ (∀ g, (Value.slice ao n cap).ownBlock = some g → g ≠ w2.heap.size) ∧ W.heap.size ≤ W1.heap.size ∧ W1.heap.size ≤ w2.heap.size) := by
    refine ⟨?_, fun g hg => ?_, ?_, k2.size⟩
    · have h1 := (HP1.out.lt bb (by simp [footB])).2
      have h2 := k2.size
      omega
    · rcases HO1.out with ⟨h1, _⟩ | ⟨g', cap', h1, _, h3⟩
      · rw [h1] at hg; cases hg
      · rw [h1] at hg
        have : g' = g := by simpa [Value.ownBlock] using hg
        subst this
        have h2 := h3.lt
        have h4 := k2.size
        omega
    · rw [HW1.out]
      simp [World.setCell]
  clear k2 k3 hxb hW3
  go_wp2_with (first
    | (refine wpList_store_row (by rfl) 24 (.tmp 5) (.tmp 19) (by rfl) w2.heap.size X.toArray (by rfl) (by rfl) 24 _ (heap_alloc_new w2 _) hsz (by simp [hXl]) hXa ?_
       rw [World.setRow_alloc_new, ← HW3.out]))
  go_loopw [6] (fun s6 wr => ∃ k : Nat, k ≤ n ∧ s6 = .int .i64 k ∧ Hid (BkI wr B bb vb vo D SD (es.map Ent.v) (es.map fun x => Value.int .i64 x.m) a m done used ∧ ListI wr B (.slice ao n cap) (List.replicate k (idM m) ++ ids.drop k) ∧ Kept (footB bb vb vo SD ++ (Value.slice ao n cap).ownBlock.toList) W wr ∧ wr.heap[w2.heap.size]? = some (.cells X.toArray 24 (0, 0)))) (fun s6 _ => n - (intOf s6).toNat)
  case atStart => exact ⟨0, Nat.zero_le _, rfl, HS3.out.1, by simpa using HS3.out.2.1, HS3.out.2.2.1, HS3.out.2.2.2⟩
  case round =>
    clear HP1 HO1 HK1 HS3
    obtain ⟨k, hk, rfl, HS⟩ := hrel
    have HP : Hid (BkI wr B bb vb vo D SD (es.map Ent.v) (es.map fun x => Value.int .i64 x.m) a m done used) := HS.out.1
    have HO : Hid (ListI wr B (.slice ao n cap) (List.replicate k (idM m) ++ ids.drop k)) := HS.out.2.1
    have HK : Hid (Kept (footB bb vb vo SD ++ (Value.slice ao n cap).ownBlock.toList) W wr) := HS.out.2.2.1
    have HB9 : Hid (wr.heap[w2.heap.size]? = some (.cells X.toArray 24 (0, 0))) := HS.out.2.2.2
    clear HS
    have hll : (List.replicate k (idM m) ++ ids.drop k).length = n := by rw [List.length_append, List.length_replicate, List.length_drop, ← HN.out]; omega
    by_cases hlt : k < n
    · have d0 : decide ((k : Int) < (n : Int)) = true := by simp; omega
      obtain ⟨g, hao, hBg, hin⟩ : ∃ g, ao = some ⟨g, 0, none⟩ ∧ B ≤ g ∧ IdIn wr g cap (List.replicate k (idM m) ++ ids.drop k) := by
        rcases HO.out with ⟨_, h⟩ | ⟨g, cap', h1, h2, h3⟩
        · rw [h] at hll; simp at hll; omega
        · injection h1 with e1 _ e3
          subst e3
          exact ⟨g, e1, h2, h3⟩
      subst hao
      have hcap := hin.le
      rw [hll] at hcap
      have hth := hin.there (o := k * 32) (n := X.toArray.size) (by rw [List.size_toArray, hXl]; omega)
      have HIN2 : Hid (ListI (wr.setCells g (k * 32) X) B (.slice (some ⟨g, 0, none⟩) n cap) (List.replicate (k + 1) (idM m) ++ ids.drop (k + 1))) := by
        have h5 := hin.set (k := k) (by omega) (idM_good m)
        rw [repl_mid _ _ _ (by rw [← HN.out]; exact hlt), ← HX.out] at h5
        refine .inr ⟨g, cap, ?_, hBg, h5⟩
        have h6 : (List.replicate (k + 1) (idM m) ++ ids.drop (k + 1)).length = n := by rw [List.length_append, List.length_replicate, List.length_drop, ← HN.out]; omega
        rw [h6]
      have hkk : Kept [g] wr (wr.setCells g (k * 32) X) := kept_cells _ _ _ _
      have HP2 : Hid (BkI (wr.setCells g (k * 32) X) B bb vb vo D SD (es.map Ent.v) (es.map fun x => Value.int .i64 x.m) a m done used) := HP.out.on hkk (fun x hx e => HG.out g rfl (by rw [← List.mem_singleton.1 e]; exact hx))
      have HK2 : Hid (Kept (footB bb vb vo SD ++ (Value.slice (some ⟨g, 0, none⟩) n cap).ownBlock.toList) W (wr.setCells g (k * 32) X)) := HK.out.then (hkk.more (by simp [Value.ownBlock]))
      have HB2 : Hid ((wr.setCells g (k * 32) X).heap[w2.heap.size]? = some (.cells X.toArray 24 (0, 0))) := hkk.heap HB9.out (by have := HXB.out.2.1 g rfl; simp; omega)
      have hr5 : wr.rangeAt w2.heap.size 0 X := row_range HB9.out
      have i0 : (0 : Int) ≤ k := by omega
      have i1 : (k : Int) < n := by omega
      clear HO HP HK HB9 hkk hll hin
      go_wp2_with (first
        | (refine wpList_load_mid (by rfl) 24 (.tmp 5) (by rfl) w2.heap.size 0 (by rfl) X _ hr5 hui rfl hszl ?_)
        | (refine wpList_store_mid (by rfl) 24 (.tmp 29) (.tmp 28) (by rfl) g (k * 32) X.toArray (by rfl) (by rfl) hth hsz hXa ?_))
      go_roundw
      case rel => exact ⟨k + 1, by omega, by go_num, HP2.out, HIN2.out, HK2.out, HB2.out⟩
      case measure => simp [intOf]; omega
    · have d0 : decide ((k : Int) < (n : Int)) = false := by simp; omega
      obtain rfl : k = n := by omega
      have HO3 : Hid (MarkedI wr B (.slice ao k cap) m k) := by
        have h := HO.out
        rw [HN.out, List.drop_length, List.append_nil, ← HN.out] at h
        exact h.marked
      obtain ⟨n, hnk⟩ : ∃ n, n = k := ⟨_, rfl⟩
      subst hnk
      have r1 : IntKind.i64.wrap (300 * (n : Int)) = 300 * n := by rw [IntKind.wrap_i64]; omega
      have r2 : IntKind.i64.wrap (8000 + 300 * (n : Int)) = 8000 + 300 * n := by rw [IntKind.wrap_i64]; omega
      clear HO hll HB9
      by_cases htg : used + (8000 + 300 * (n : Int)) ≤ 16777216
      · have HLen : Hid ((n : Int) ≤ 100000) := (by omega : (n : Int) ≤ 100000)
        have htn := tightI_no HP.out (8000 + 300 * (n : Int)) (by omega) (by omega) hu0 htg
        have P3 := HP.out.num 35 (.int .i64 (used + (8000 + 300 * (n : Int)))) (a' := a) (turn' := m) (done' := done) (used' := used + (8000 + 300 * (n : Int))) rfl
        have k3 : Kept [bb] wr (wr.setCell ⟨bb, 35, none⟩ (.int .i64 (used + (8000 + 300 * (n : Int))))) := (Kept.refl [bb] wr).setCell (p := ⟨bb, 35, none⟩) (Or.inl (by simp)) _
        have O3 : MarkedI (wr.setCell ⟨bb, 35, none⟩ (.int .i64 (used + (8000 + 300 * (n : Int))))) B (.slice ao n cap) m n := HO3.out.kept k3 (fun g h => by simpa using HBB.out g h)
        obtain ⟨D4, SD4, P4, en4, old4, ft4⟩ := P3.take O3 (by omega) HG.out
        have HK4 : Hid (Kept (footB bb vb vo SD ++ (Value.slice ao n cap).ownBlock.toList) W (wr.setCell ⟨bb, 35, none⟩ (.int .i64 (used + (8000 + 300 * (n : Int)))))) := HK.out.then (k3.more (by simp [footB]))
        have HP4 : Hid (BkI (wr.setCell ⟨bb, 35, none⟩ (.int .i64 (used + (8000 + 300 * (n : Int))))) B bb vb vo D4 SD4 (es.map Ent.v) (es.map fun x => Value.int .i64 x.m) a m done (used + (8000 + 300 * (n : Int)))) := P4
        have HFT : Hid (∀ x, x ∈ footB bb vb vo SD4 → x ∈ footB bb vb vo SD ∨ (Value.slice ao n cap).ownBlock = some x) := ft4
        have HEN : Hid (∀ x, x ∈ es ++ [⟨.slice ao n cap, m, n⟩] → EntIn D4 x ∧ 0 ≤ x.m ∧ x.m ≤ m) := fun x hx => by
          have e := HM.out
          rcases List.mem_append.1 hx with h | h
          · have := HES.out x h
            exact ⟨old4 x this.1, this.2.1, by omega⟩
          · rw [List.mem_singleton.1 h]
            exact ⟨en4, by dsimp only; omega, Int.le_refl _⟩
        obtain ⟨q0, q1, q2, q33, q34, q35, qf⟩ := P4.cells
        have hU : 0 ≤ used + (8000 + 300 * (n : Int)) := by omega
        have hle : Hid (∀ x, x ∈ footB bb vb vo SD4 → B ≤ x ∧ x < (wr.setCell ⟨bb, 35, none⟩ (.int .i64 (used + (8000 + 300 * (n : Int))))).heap.size) := P4.lt
        have hsz := HK4.out.size
        clear P3 k3 O3 P4 ft4 en4 old4 HP HO3 HK HG
        generalize used + (8000 + 300 * (n : Int)) = U at *
        go_wp2_with fail
        go_at_call 28
        refine htn.mono ?_
        rintro e w2 ⟨rfl, hw2⟩
        rw [hw2]
        clear hw2 htn
        generalize wr.setCell ⟨bb, 35, none⟩ (.int .i64 U) = wa at *
        have hbl : B ≤ wa.heap.size := by omega
        have own4 := owns_on (T := []) HP4.out.own ((Kept.refl [] wa).alloc (.cells #[.slice ao n cap] 22)) (by simp)
        have hbl1 : B ≤ (wa.alloc (.cells #[.slice ao n cap] 22)).heap.size := by rw [World.size_alloc]; omega
        have hL1 : (es.map Ent.v).length ≤ 1000000 := by rw [List.length_map]; omega
        have hL2 : (es.map fun x => Value.int .i64 x.m).length ≤ 1000000 := by rw [List.length_map]; omega
        have hcell4 : (wa.alloc (.cells #[.slice ao n cap] 22)).cell? ⟨wa.heap.size, 0, none⟩ = some (.slice ao n cap) := cell_one_new wa (.slice ao n cap) 22 0 _ rfl
        have hone4 : (Value.slice ao n cap).oneCell' = true := rfl
        have hone5 : (Value.int .i64 m).oneCell' = true := rfl
        have hz4 : (Value.slice none 0 0).cells.size = 1 := rfl
        have hz5 : (Value.int .i64 0).cells.size = 1 := rfl
        go_wp2_with (first
          | (at_builtin; refine wpList_append_1 (by rfl) (.tmp 40) (.tmp 42) 44 22 (.slice none 0 0) 24 Tryd.underlying44 Tryd.info_idl hz4 (by rfl) (v := vb) (by rfl) own4 (q := wa.heap.size) (u := .slice ao n cap) (by rfl) hcell4 hone4 hL1 (by decide) hbl1 ?_
             intro vb5 w5 h5 k5 at5
             have hl5 : (es.map Ent.v ++ [Value.slice ao n cap]).length = es.length + 1 := by simp
             obtain ⟨g5, c5, rfl⟩ := owns_form1 h5 (by omega)
             rw [hl5] at at5 ⊢
             have h5 : w5.ownsRow B 22 1 (.slice (some ⟨g5, 0, none⟩) (es.length + 1) c5) (es.map Ent.v ++ [Value.slice ao n cap]).length (es.map Ent.v ++ [Value.slice ao n cap]) := by rw [hl5] at h5 ⊢; exact h5
             obtain ⟨P5, kk5, ft5⟩ := HP4.out.pushB h5 k5 at5
             have HP5 : Hid (BkI (w5.setCell ⟨bb, 6, none⟩ (.slice (some ⟨g5, 0, none⟩) (es.length + 1) c5)) B bb (.slice (some ⟨g5, 0, none⟩) (es.length + 1) c5) vo D4 SD4 (es.map Ent.v ++ [.slice ao n cap]) (es.map fun x => Value.int .i64 x.m) a m done U) := P5
             have HK5 : Hid (Kept (footB bb vb vo SD4) wa (w5.setCell ⟨bb, 6, none⟩ (.slice (some ⟨g5, 0, none⟩) (es.length + 1) c5))) := kk5
             have HF5 : Hid (∀ x, x ∈ footB bb (.slice (some ⟨g5, 0, none⟩) (es.length + 1) c5) vo SD4 → x ∈ footB bb vb vo SD4 ∨ wa.heap.size ≤ x) := ft5
             obtain ⟨r0, r1', r2', r33, r34, r35, rf⟩ := P5.cells
             have qb : ∃ c, w5.cell? ⟨bb, 6, none⟩ = some c := ⟨vb, by
               have hb := k5.heap (((Kept.refl [] wa).alloc _).heap HP4.out.box (by simp)) (fun e => HP4.out.ne1 bb (by simpa using e) rfl)
               exact (own_facts hb).1 6⟩
             have qg : w5.frozen? ⟨bb, 6, none⟩ = false := by
               have hb := k5.heap (((Kept.refl [] wa).alloc _).heap HP4.out.box (by simp)) (fun e => HP4.out.ne1 bb (by simpa using e) rfl)
               exact (own_facts hb).2.1 6
             obtain ⟨cb, qb⟩ := qb
             have own5 := owns_on (T := []) P5.owo ((Kept.refl [] (w5.setCell ⟨bb, 6, none⟩ (.slice (some ⟨g5, 0, none⟩) (es.length + 1) c5))).alloc (.cells #[.int .i64 m] 3)) (by simp)
             have hbl5 : B ≤ ((w5.setCell ⟨bb, 6, none⟩ (.slice (some ⟨g5, 0, none⟩) (es.length + 1) c5)).alloc (.cells #[.int .i64 m] 3)).heap.size := by rw [World.size_alloc]; have := kk5.size; omega
             have hcell5 : ((w5.setCell ⟨bb, 6, none⟩ (.slice (some ⟨g5, 0, none⟩) (es.length + 1) c5)).alloc (.cells #[.int .i64 m] 3)).cell? ⟨w5.heap.size, 0, none⟩ = some (.int .i64 m) := by
               have h := cell_one_new (w5.setCell ⟨bb, 6, none⟩ (.slice (some ⟨g5, 0, none⟩) (es.length + 1) c5)) (.int .i64 m) 3 0 _ rfl
               rw [show (w5.setCell ⟨bb, 6, none⟩ (.slice (some ⟨g5, 0, none⟩) (es.length + 1) c5)).heap.size = w5.heap.size by simp [World.setCell]] at h
               exact h
             clear P5 kk5 ft5 h5 k5 at5 own4 hl5)
          | (at_builtin; refine wpList_append_1 (by rfl) (.tmp 50) (.tmp 52) 42 3 (.int .i64 0) 8 Tryd.underlying42 Tryd.info_ints hz5 (by rfl) (v := vo) (by rfl) own5 (q := w5.heap.size) (u := .int .i64 m) (by rfl) hcell5 hone5 hL2 (by decide) hbl5 ?_
             intro vo6 w6 h6 k6 at6
             have hl6 : ((es.map fun x => Value.int .i64 x.m) ++ [Value.int .i64 m]).length = es.length + 1 := by simp
             obtain ⟨g6, c6, rfl⟩ := owns_form1 h6 (by omega)
             rw [hl6] at at6 ⊢
             have h6 : w6.ownsRow B 3 1 (.slice (some ⟨g6, 0, none⟩) (es.length + 1) c6) ((es.map fun x => Value.int .i64 x.m) ++ [Value.int .i64 m]).length ((es.map fun x => Value.int .i64 x.m) ++ [Value.int .i64 m]) := by rw [hl6] at h6 ⊢; exact h6
             obtain ⟨P6, kk6, ft6⟩ := HP5.out.pushO h6 k6 at6
             have HP6 : Hid (BkI (w6.setCell ⟨bb, 7, none⟩ (.slice (some ⟨g6, 0, none⟩) (es.length + 1) c6)) B bb (.slice (some ⟨g5, 0, none⟩) (es.length + 1) c5) (.slice (some ⟨g6, 0, none⟩) (es.length + 1) c6) D4 SD4 (es.map Ent.v ++ [.slice ao n cap]) ((es.map fun x => Value.int .i64 x.m) ++ [.int .i64 m]) a m done U) := P6
             have HK6 : Hid (Kept (footB bb (.slice (some ⟨g5, 0, none⟩) (es.length + 1) c5) vo SD4) (w5.setCell ⟨bb, 6, none⟩ (.slice (some ⟨g5, 0, none⟩) (es.length + 1) c5)) (w6.setCell ⟨bb, 7, none⟩ (.slice (some ⟨g6, 0, none⟩) (es.length + 1) c6))) := kk6
             have HF6 : Hid (∀ x, x ∈ footB bb (.slice (some ⟨g5, 0, none⟩) (es.length + 1) c5) (.slice (some ⟨g6, 0, none⟩) (es.length + 1) c6) SD4 → x ∈ footB bb (.slice (some ⟨g5, 0, none⟩) (es.length + 1) c5) vo SD4 ∨ (w5.setCell ⟨bb, 6, none⟩ (.slice (some ⟨g5, 0, none⟩) (es.length + 1) c5)).heap.size ≤ x) := ft6
             have hb6 := k6.heap (((Kept.refl [] (w5.setCell ⟨bb, 6, none⟩ (.slice (some ⟨g5, 0, none⟩) (es.length + 1) c5))).alloc _).heap HP5.out.box (by simp)) (fun e => HP5.out.ne2 bb (by simpa using e) rfl)
             have qc := (own_facts hb6).1 7
             have qd := (own_facts hb6).2.1 7
             clear P6 kk6 ft6 h6 k6 at6 own5 hb6 hl6))
        go_end0
        have s5 := HK5.out.size
        have hfe : ∀ x, x ∈ footB bb vb vo SD4 → x ∈ footB bb vb vo SD ++ (Value.slice ao n cap).ownBlock.toList ∨ W.heap.size ≤ x := fun x hx => by
          rcases HFT.out x hx with h | h
          · exact Or.inl (List.mem_append_left _ h)
          · exact Or.inl (List.mem_append_right _ (by simp [h]))
        have hk9 := (HK4.out.trans HK5.out hfe).trans HK6.out (fun x hx => by
          rcases HF5.out x hx with h | h
          · exact hfe x h
          · exact Or.inr (by omega))
        refine ⟨rfl, ⟨es ++ [⟨.slice ao n cap, m, n⟩], footB bb (.slice (some ⟨g5, 0, none⟩) (es.length + 1) c5) (.slice (some ⟨g6, 0, none⟩) (es.length + 1) c6) SD4, ⟨(.slice (some ⟨g5, 0, none⟩) (es.length + 1) c5), (.slice (some ⟨g6, 0, none⟩) (es.length + 1) c6), D4, SD4, U, ?_, fun x hx => ?_, hU, htg, rfl⟩, Or.inr ⟨_, rfl, by dsimp only; have := HLen.out; omega⟩, hk9, fun x hx => ?_⟩⟩
        · rw [HM.out]
          simpa using HP6.out
        · rw [HM.out]
          exact HEN.out x hx
        · rcases HF6.out x hx with h | h
          · rcases HF5.out x h with h | h
            · rcases HFT.out x h with h | h
              · exact Or.inl h
              · exact Or.inr (Or.inl h)
            · exact Or.inr (Or.inr (by omega))
          · exact Or.inr (Or.inr (by omega))
      · have hty := tightI_yes HP.out (8000 + 300 * (n : Int)) (by omega) (by omega) hu0 hu1 (by omega)
        obtain ⟨q0, q1, q2, q33, q34, q35, qf⟩ := HP.out.cells
        go_wp2_with fail
        go_at_call 28
        refine hty.mono ?_
        rintro e w2 ⟨rfl, hw2⟩
        subst w2
        clear hty
        go_wp2
        first
          | go_end0
          | (rw [Exit.noGoto_ret]; refine bodyPost_ret (v := .tuple #[]) (by simp [results, Tryd.results15, go_sem]) rfl ?_)
          | refine bodyPost_ret (v := .tuple #[]) (by simp [results, Tryd.results15, go_sem]) rfl ?_
        refine ⟨rfl, ⟨es, footB bb vb vo SD, ⟨vb, vo, D, SD, used, ?_, fun x hx => ?_, hu0, hu1, rfl⟩, Or.inl rfl, HK.out, fun x hx => Or.inl hx⟩⟩
        · rw [HM.out]
          exact HP.out
        · have := HES.out x hx
          exact ⟨this.1, this.2.1, by omega⟩

end Go.Proofs.YtlljiipmkjjhhaaDoor
