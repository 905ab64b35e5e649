/-
  WALKS: (*satchellaw1.Book).tight, Bytes.
-/
import Derived.Test.YtldhbcppnoldiaaBk2
import Derived.Test.YtldhbcppnoldiaaDl1
namespace Go.Proofs.Ytldhbcppnoldiaa
open Go.RowKit

structure BookAt (W : World) (B bb : Nat) (es : List Ent) (a turn done : Int) (S : List Nat) : Prop where
  ex : ∃ vb vo D SD used, BkS W B bb vb vo D SD (es.map Ent.v) (es.map fun x => Value.int .i64 x.m) a turn done used ∧ (∀ x, x ∈ es → EntIn D x ∧ 0 ≤ x.m ∧ x.m ≤ turn) ∧ 0 ≤ used ∧ used ≤ 16777216 ∧ S = footB bb vb vo SD
theorem BookAt.on {W W' : World} {B bb : Nat} {es : List Ent} {a turn done : Int} {S T : List Nat} (h : BookAt W B bb es a turn done S) (k : Kept T W W') (hd : ∀ x, x ∈ S → x ∉ T) : BookAt W' B bb es a turn done S := by
  obtain ⟨vb, vo, D, SD, used, P, h1, h2, h3, rfl⟩ := h.ex
  exact ⟨vb, vo, D, SD, used, P.on k hd, h1, h2, h3, rfl⟩
theorem BookAt.lt {W : World} {B bb : Nat} {es : List Ent} {a turn done : Int} {S : List Nat} (h : BookAt W B bb es a turn done S) : ∀ x, x ∈ S → B ≤ x ∧ x < W.heap.size := by
  obtain ⟨vb, vo, D, SD, used, P, h1, h2, h3, rfl⟩ := h.ex
  exact P.lt

section
variable {W : World} {B bb : Nat} {vb vo : Value} {D : Nat → Option MB} {SD : List Nat} {L1 L2 : List Value} {a turn done used : Int}
theorem BkS.cells (P : BkS W B bb vb vo D SD L1 L2 a turn done used) : W.cell? ⟨bb, 0, none⟩ = some vb ∧ W.cell? ⟨bb, 1, none⟩ = some vo ∧ W.cell? ⟨bb, 2, none⟩ = some (.int .i64 a) ∧ W.cell? ⟨bb, 33, none⟩ = some (.int .i64 turn) ∧ W.cell? ⟨bb, 34, none⟩ = some (.int .i64 done) ∧ W.cell? ⟨bb, 35, none⟩ = some (.int .i64 used) ∧ ∀ o, W.frozen? ⟨bb, o, none⟩ = false := by
  obtain ⟨h1, h2, _⟩ := own_facts P.box
  exact ⟨h1 0, h1 1, h1 2, h1 33, h1 34, h1 35, h2⟩

set_option maxHeartbeats 1000000 in
theorem tight_no (P : BkS W B bb vb vo D SD L1 L2 a turn done used) (n : Int) (h0 : 0 ≤ n) (h1 : n ≤ 1000000000000000) (hu0 : 0 ≤ used) (hu1 : used + n ≤ 16777216) :
    Calls Try.prog 68 #[.pointer (some ⟨bb, 0, none⟩), .int .i64 n] W fun e w' => e = .returned (.bool false) ∧ w' = W.setCell ⟨bb, 35, none⟩ (.int .i64 (used + n)) := by
  obtain ⟨_, _, _, _, _, q, f⟩ := P.cells
  have w1 : IntKind.i64.wrap (used + n) = used + n := by rw [IntKind.wrap_i64]; omega
  have d1 : decide (16777216 < used + n) = false := by simp; omega
  clear P
  go_enter Try.func68, Try.ntmps68
  go_wp2
  go_ret
  exact ⟨rfl, rfl⟩
set_option maxHeartbeats 1000000 in
theorem tight_yes (P : BkS W B bb vb vo D SD L1 L2 a turn done used) (n : Int) (h0 : 0 ≤ n) (h1 : n ≤ 1000000000000000) (hu0 : 0 ≤ used) (hu2 : used ≤ 16777216) (hu1 : 16777216 < used + n) :
    Calls Try.prog 68 #[.pointer (some ⟨bb, 0, none⟩), .int .i64 n] W fun e w' => e = .returned (.bool true) ∧ w' = W := by
  obtain ⟨_, _, _, _, _, q, f⟩ := P.cells
  have w1 : IntKind.i64.wrap (used + n) = used + n := by rw [IntKind.wrap_i64]; omega
  have d1 : decide (16777216 < used + n) = true := by simp; omega
  clear P
  go_enter Try.func68, Try.ntmps68
  go_wp2
  go_ret
  exact ⟨rfl, rfl⟩
end

theorem set_marks (m : Int) (ys : List Int) (k : Nat) (hk : k < ys.length) : (marks m k ++ ys.drop k).set k (atM m k) = marks m (k + 1) ++ ys.drop (k + 1) := by
  have hl := marks_len m k
  rw [List.set_append_right _ _ (by omega), hl, Nat.sub_self, List.drop_eq_getElem_cons hk, List.set_cons_zero, marks_succ, List.append_assoc]
  rfl
theorem OwnB.setAt {w : World} {B : Nat} {g cap : Nat} {ys : List Int} (h : OwnB w B (.slice (some ⟨g, 0, none⟩) ys.length cap) ys) (j : Nat) (u : Int) : OwnB (w.setCell ⟨g, j, none⟩ (.int .u8 u)) B (.slice (some ⟨g, 0, none⟩) ys.length cap) (ys.set j u) := by
  have h1 := (World.ownsRow.stored h j (.int .u8 u)).1
  unfold OwnB
  rw [List.length_set, List.map_set]
  exact h1

theorem owns_form {w : World} {B : Nat} {e : TypeId} {n : Nat} {v : Value} {xs : List Value} (h : w.ownsRow B e 1 v n xs) (hn : 0 < n) : ∃ g cap, v = .slice (some ⟨g, 0, none⟩) n cap := by
  rcases h.2 with ⟨_, h0⟩ | ⟨g, cap, cur, hv, _⟩
  · omega
  · exact ⟨g, cap, hv⟩

structure BytesTo (W W' : World) (B bb : Nat) (es : List Ent) (a turn done : Int) (S : List Nat) (v : Value) : Prop where
  ex : ∃ es' S', BookAt W' B bb es' a (turn + 1) done S' ∧ (es' = es ∨ ∃ x : Ent, es' = es ++ [x] ∧ x.n ≤ 10000000) ∧ Kept (S ++ v.ownBlock.toList) W W' ∧ (∀ x, x ∈ S' → x ∈ S ∨ v.ownBlock = some x ∨ W.heap.size ≤ x)

set_option maxRecDepth 100000 in
set_option maxHeartbeats 4000000 in
theorem BBytes_any {W : World} {B bb : Nat} {es : List Ent} {a turn done : Int} {S : List Nat} (hbk : BookAt W B bb es a turn done S) {v : Value} {ys : List Int} (hv : OwnB W B v ys) (hg : ∀ g, v.ownBlock = some g → g ∉ S) (ht0 : 0 ≤ turn) (ht1 : turn ≤ 1000000) (hl : es.length ≤ 900000) (hy : ys.length ≤ 140737488355328) (hB : B ≤ W.heap.size) :
    Calls Try.prog 46 #[.pointer (some ⟨bb, 0, none⟩), v] W fun e w' => e = .returned (.tuple #[]) ∧ BytesTo W w' B bb es a turn done S v := by
  obtain ⟨vb, vo, D, SD, used, P, hes, hu0, hu1, rfl⟩ := hbk.ex
  clear hbk
  have hbb : ∀ g, v.ownBlock = some g → g ≠ bb := fun g h e => hg g h (by simp [footB, e])
  obtain ⟨ao, cap, rfl⟩ := own_shape hv
  have HBB : Hid (∀ g, (Value.slice ao ys.length cap).ownBlock = some g → g ≠ bb) := hbb
  obtain ⟨q0, q1, q2, q33, q34, q35, qf⟩ := P.cells
  obtain ⟨m, hm⟩ : ∃ m, m = turn + 1 := ⟨_, rfl⟩
  have HM : Hid (turn + 1 = m) := hm.symm
  have P1 := P.num 33 (.int .i64 m) (a' := a) (turn' := m) (done' := done) (used' := used) rfl
  have hk1 : Kept [bb] W (W.setCell ⟨bb, 33, none⟩ (.int .i64 m)) := (Kept.refl [bb] W).setCell (p := ⟨bb, 33, none⟩) (Or.inl (by simp)) _
  have ho1 : OwnB (W.setCell ⟨bb, 33, none⟩ (.int .i64 m)) B (.slice ao ys.length cap) ys := OwnB.kept hv hk1 (fun g h => by simpa using hbb g h)
  have HP1 : Hid (BkS (W.setCell ⟨bb, 33, none⟩ (.int .i64 m)) B bb vb vo D SD (es.map Ent.v) (es.map fun x => Value.int .i64 x.m) a m done used) := P1
  have HO1 : Hid (OwnB (W.setCell ⟨bb, 33, none⟩ (.int .i64 m)) B (.slice ao ys.length cap) ys) := ho1
  have HK1 : Hid (Kept (footB bb vb vo SD ++ (Value.slice ao ys.length cap).ownBlock.toList) W (W.setCell ⟨bb, 33, none⟩ (.int .i64 m))) := hk1.more (by simp [footB])
  have HES : Hid (∀ x, x ∈ es → EntIn D x ∧ 0 ≤ x.m ∧ x.m ≤ turn) := hes
  have HG : Hid (∀ g, (Value.slice ao ys.length cap).ownBlock = some g → g ∉ footB bb vb vo SD) := hg
  have w1 : IntKind.i64.wrap (turn + 1) = m := by rw [IntKind.wrap_i64]; omega
  have hat := fun k W => at_any m (by omega) (by omega) k W
  clear P P1 hv hk1 ho1 hes hg hm hbb
  go_enter Try.func46, Try.ntmps46
  go_wp2
  clear q0 q1 q2 q33 q34 q35 qf
  go_loopw [5] (fun s5 wr => ∃ k : Nat, k ≤ ys.length ∧ s5 = .int .i64 k ∧ Hid (BkS wr B bb vb vo D SD (es.map Ent.v) (es.map fun x => Value.int .i64 x.m) a m done used ∧ OwnB wr B (.slice ao ys.length cap) (marks m k ++ ys.drop k) ∧ Kept (footB bb vb vo SD ++ (Value.slice ao ys.length cap).ownBlock.toList) W wr)) (fun s5 _ => ys.length - (intOf s5).toNat)
  case atStart => exact ⟨0, Nat.zero_le _, rfl, HP1.out, by simpa [marks] using HO1.out, HK1.out⟩
  case round =>
    clear HP1 HO1 HK1
    obtain ⟨k, hk, rfl, HS⟩ := hrel
    have HP : Hid (BkS wr B bb vb vo D SD (es.map Ent.v) (es.map fun x => Value.int .i64 x.m) a m done used) := HS.out.1
    have HO : Hid (OwnB wr B (.slice ao ys.length cap) (marks m k ++ ys.drop k)) := HS.out.2.1
    have HK : Hid (Kept (footB bb vb vo SD ++ (Value.slice ao ys.length cap).ownBlock.toList) W wr) := HS.out.2.2
    clear HS
    have hll : (marks m k ++ ys.drop k).length = ys.length := by rw [List.length_append, marks_len, List.length_drop]; omega
    by_cases hlt : k < ys.length
    · have d0 : decide ((k : Int) < (ys.length : Int)) = true := by simp; omega
      obtain ⟨g, cap2, hv2, hBg, hgl⟩ := HO.out.form (by intro e; rw [e] at hll; simp at hll; omega)
      injection hv2 with e1 e2 e3
      subst e1 e3
      clear e2
      have hO : OwnB wr B (.slice (some ⟨g, 0, none⟩) (marks m k ++ ys.drop k).length cap) (marks m k ++ ys.drop k) := by rw [hll]; exact HO.out
      have g1 := World.ownsRow.cellAt hO k (by omega)
      have g2 := World.ownsRow.frozenAt hO k
      obtain ⟨c, hc⟩ : ∃ c, wr.cell? ⟨g, k, none⟩ = some c := ⟨_, g1.trans (by rw [List.getElem?_map, List.getElem?_eq_getElem (by omega), Option.map_some])⟩
      have HO2 : Hid (OwnB (wr.setCell ⟨g, k, none⟩ (.int .u8 (atM m k))) B (.slice (some ⟨g, 0, none⟩) ys.length cap) (marks m (k + 1) ++ ys.drop (k + 1))) := by
        have h1 := OwnB.setAt hO k (atM m k)
        rw [set_marks m ys k hlt, hll] at h1
        exact h1
      have hkk : Kept [g] wr (wr.setCell ⟨g, k, none⟩ (.int .u8 (atM m k))) := (Kept.refl [g] wr).setCell (p := ⟨g, k, none⟩) (Or.inl (by simp)) _
      have HP2 : Hid (BkS (wr.setCell ⟨g, k, none⟩ (.int .u8 (atM m k))) B bb vb vo D SD (es.map Ent.v) (es.map fun x => Value.int .i64 x.m) a m done used) := HP.out.on hkk (fun x hx e => HG.out g rfl (by rw [← List.mem_singleton.1 e]; exact hx))
      have HK2 : Hid (Kept (footB bb vb vo SD ++ (Value.slice (some ⟨g, 0, none⟩) ys.length cap).ownBlock.toList) W (wr.setCell ⟨g, k, none⟩ (.int .u8 (atM m k)))) := HK.out.then (hkk.more (by simp [Value.ownBlock]))
      have hcap : ys.length ≤ cap := by
        obtain ⟨_, _, he, h, _⟩ := HO.out.bytes
        injection he with a1 a2 a3
        omega
      have i0 : (0 : Int) ≤ k := by omega
      have i1 : (k : Int) < ys.length := by omega
      have hatk := hat k wr
      clear HO HP HK g1 hkk hll hO
      generalize atM m k = u at *
      go_wp2_with fail
      go_at_call 67
      refine hatk.mono ?_
      rintro e w2 ⟨rfl, hw2⟩
      subst w2
      clear hatk
      go_wp2
      go_roundw
      case rel => exact ⟨k + 1, by omega, by go_num, HP2.out, HO2.out, HK2.out⟩
      case measure => simp [intOf]; omega
    · have d0 : decide ((k : Int) < (ys.length : Int)) = false := by simp; omega
      obtain rfl : k = ys.length := by omega
      have HO3 : Hid (OwnB wr B (.slice ao ys.length cap) (marks m ys.length)) := by
        have h := HO.out
        rw [List.drop_length, List.append_nil] at h
        exact h
      have r1 : IntKind.i64.wrap (3 * (ys.length : Int)) = 3 * ys.length := by rw [IntKind.wrap_i64]; omega
      have r2 : IntKind.i64.wrap (1200 + 3 * (ys.length : Int)) = 1200 + 3 * ys.length := by rw [IntKind.wrap_i64]; omega
      clear HO hll
      by_cases htg : used + (1200 + 3 * (ys.length : Int)) ≤ 16777216
      · have HLen : Hid ((ys.length : Int) ≤ 6000000) := (by omega : (ys.length : Int) ≤ 6000000)
        have htn := tight_no HP.out (1200 + 3 * (ys.length : Int)) (by omega) (by omega) hu0 htg
        have P3 := HP.out.num 35 (.int .i64 (used + (1200 + 3 * (ys.length : Int)))) (a' := a) (turn' := m) (done' := done) (used' := used + (1200 + 3 * (ys.length : Int))) rfl
        have k3 : Kept [bb] wr (wr.setCell ⟨bb, 35, none⟩ (.int .i64 (used + (1200 + 3 * (ys.length : Int))))) := (Kept.refl [bb] wr).setCell (p := ⟨bb, 35, none⟩) (Or.inl (by simp)) _
        have O3 : OwnB (wr.setCell ⟨bb, 35, none⟩ (.int .i64 (used + (1200 + 3 * (ys.length : Int))))) B (.slice ao ys.length cap) (marks m ys.length) := OwnB.kept HO3.out k3 (fun g h => by simpa using HBB.out g h)
        obtain ⟨D4, SD4, P4, en4, old4, ft4⟩ := P3.take O3 HG.out
        have HK4 : Hid (Kept (footB bb vb vo SD ++ (Value.slice ao ys.length cap).ownBlock.toList) W (wr.setCell ⟨bb, 35, none⟩ (.int .i64 (used + (1200 + 3 * (ys.length : Int)))))) := HK.out.then (k3.more (by simp [footB]))
        have HP4 : Hid (BkS (wr.setCell ⟨bb, 35, none⟩ (.int .i64 (used + (1200 + 3 * (ys.length : Int))))) B bb vb vo D4 SD4 (es.map Ent.v) (es.map fun x => Value.int .i64 x.m) a m done (used + (1200 + 3 * (ys.length : Int)))) := P4
        have HFT : Hid (∀ x, x ∈ footB bb vb vo SD4 → x ∈ footB bb vb vo SD ∨ (Value.slice ao ys.length cap).ownBlock = some x) := ft4
        have HEN : Hid (∀ x, x ∈ es ++ [⟨.slice ao ys.length cap, m, ys.length⟩] → EntIn D4 x ∧ 0 ≤ x.m ∧ x.m ≤ m) := fun x hx => by
          have e := HM.out
          rcases List.mem_append.1 hx with h | h
          · have := HES.out x h
            exact ⟨old4 x this.1, this.2.1, by omega⟩
          · rw [List.mem_singleton.1 h]
            exact ⟨en4, by dsimp only; omega, Int.le_refl _⟩
        obtain ⟨q0, q1, q2, q33, q34, q35, qf⟩ := P4.cells
        have hU : 0 ≤ used + (1200 + 3 * (ys.length : Int)) := by omega
        have hle : Hid (∀ x, x ∈ footB bb vb vo SD4 → B ≤ x ∧ x < (wr.setCell ⟨bb, 35, none⟩ (.int .i64 (used + (1200 + 3 * (ys.length : Int))))).heap.size) := P4.lt
        have hsz := HK4.out.size
        clear P3 k3 O3 P4 ft4 en4 old4 HP HO3 HK HG
        generalize used + (1200 + 3 * (ys.length : Int)) = U at *
        go_wp2_with fail
        go_at_call 68
        refine htn.mono ?_
        rintro e w2 ⟨rfl, hw2⟩
        rw [hw2]
        clear hw2 htn
        generalize wr.setCell ⟨bb, 35, none⟩ (.int .i64 U) = wa at *
        have hbl : B ≤ wa.heap.size := by omega
        have own4 := owns_on (T := []) HP4.out.own ((Kept.refl [] wa).alloc (.cells #[.slice ao ys.length cap] 22)) (by simp)
        have hbl1 : B ≤ (wa.alloc (.cells #[.slice ao ys.length cap] 22)).heap.size := by rw [World.size_alloc]; omega
        have hL1 : (es.map Ent.v).length ≤ 1000000 := by rw [List.length_map]; omega
        have hL2 : (es.map fun x => Value.int .i64 x.m).length ≤ 1000000 := by rw [List.length_map]; omega
        have hcell4 : (wa.alloc (.cells #[.slice ao ys.length cap] 22)).cell? ⟨wa.heap.size, 0, none⟩ = some (.slice ao ys.length cap) := cell_one_new wa (.slice ao ys.length cap) 22 0 _ rfl
        have hone4 : (Value.slice ao ys.length cap).oneCell' = true := rfl
        have hone5 : (Value.int .i64 m).oneCell' = true := rfl
        have hz4 : (Value.slice none 0 0).cells.size = 1 := rfl
        have hz5 : (Value.int .i64 0).cells.size = 1 := rfl
        go_wp2_with (first
          | (at_builtin; refine wpList_append_1 (by rfl) (.tmp 39) (.tmp 41) 36 22 (.slice none 0 0) 24 Try.underlying36 Try.info_bytes hz4 (by rfl) (v := vb) (by rfl) own4 (q := wa.heap.size) (u := .slice ao ys.length cap) (by rfl) hcell4 hone4 hL1 (by decide) hbl1 ?_
             intro vb5 w5 h5 k5 at5
             have hl5 : (es.map Ent.v ++ [Value.slice ao ys.length cap]).length = es.length + 1 := by simp
             obtain ⟨g5, c5, rfl⟩ := owns_form h5 (by omega)
             rw [hl5] at at5 ⊢
             have h5 : w5.ownsRow B 22 1 (.slice (some ⟨g5, 0, none⟩) (es.length + 1) c5) (es.map Ent.v ++ [Value.slice ao ys.length cap]).length (es.map Ent.v ++ [Value.slice ao ys.length cap]) := by rw [hl5] at h5 ⊢; exact h5
             obtain ⟨P5, kk5, ft5⟩ := HP4.out.pushB h5 k5 at5
             have HP5 : Hid (BkS (w5.setCell ⟨bb, 0, none⟩ (.slice (some ⟨g5, 0, none⟩) (es.length + 1) c5)) B bb (.slice (some ⟨g5, 0, none⟩) (es.length + 1) c5) vo D4 SD4 (es.map Ent.v ++ [.slice ao ys.length cap]) (es.map fun x => Value.int .i64 x.m) a m done U) := P5
             have HK5 : Hid (Kept (footB bb vb vo SD4) wa (w5.setCell ⟨bb, 0, none⟩ (.slice (some ⟨g5, 0, none⟩) (es.length + 1) c5))) := kk5
             have HF5 : Hid (∀ x, x ∈ footB bb (.slice (some ⟨g5, 0, none⟩) (es.length + 1) c5) vo SD4 → x ∈ footB bb vb vo SD4 ∨ wa.heap.size ≤ x) := ft5
             obtain ⟨r0, r1', r2', r33, r34, r35, rf⟩ := P5.cells
             have qb : ∃ c, w5.cell? ⟨bb, 0, none⟩ = some c := ⟨vb, by
               have hb := k5.heap (((Kept.refl [] wa).alloc _).heap HP4.out.box (by simp)) (fun e => HP4.out.ne1 bb (by simpa using e) rfl)
               exact (own_facts hb).1 0⟩
             have qg : w5.frozen? ⟨bb, 0, none⟩ = false := by
               have hb := k5.heap (((Kept.refl [] wa).alloc _).heap HP4.out.box (by simp)) (fun e => HP4.out.ne1 bb (by simpa using e) rfl)
               exact (own_facts hb).2.1 0
             obtain ⟨cb, qb⟩ := qb
             have own5 := owns_on (T := []) P5.owo ((Kept.refl [] (w5.setCell ⟨bb, 0, none⟩ (.slice (some ⟨g5, 0, none⟩) (es.length + 1) c5))).alloc (.cells #[.int .i64 m] 3)) (by simp)
             have hbl5 : B ≤ ((w5.setCell ⟨bb, 0, none⟩ (.slice (some ⟨g5, 0, none⟩) (es.length + 1) c5)).alloc (.cells #[.int .i64 m] 3)).heap.size := by rw [World.size_alloc]; have := kk5.size; omega
             have hcell5 : ((w5.setCell ⟨bb, 0, none⟩ (.slice (some ⟨g5, 0, none⟩) (es.length + 1) c5)).alloc (.cells #[.int .i64 m] 3)).cell? ⟨w5.heap.size, 0, none⟩ = some (.int .i64 m) := by
               have h := cell_one_new (w5.setCell ⟨bb, 0, none⟩ (.slice (some ⟨g5, 0, none⟩) (es.length + 1) c5)) (.int .i64 m) 3 0 _ rfl
               rw [show (w5.setCell ⟨bb, 0, none⟩ (.slice (some ⟨g5, 0, none⟩) (es.length + 1) c5)).heap.size = w5.heap.size by simp [World.setCell]] at h
               exact h
             clear P5 kk5 ft5 h5 k5 at5 own4 hl5)
          | (at_builtin; refine wpList_append_1 (by rfl) (.tmp 49) (.tmp 51) 37 3 (.int .i64 0) 8 Try.underlying37 Try.info_ints hz5 (by rfl) (v := vo) (by rfl) own5 (q := w5.heap.size) (u := .int .i64 m) (by rfl) hcell5 hone5 hL2 (by decide) hbl5 ?_
             intro vo6 w6 h6 k6 at6
             have hl6 : ((es.map fun x => Value.int .i64 x.m) ++ [Value.int .i64 m]).length = es.length + 1 := by simp
             obtain ⟨g6, c6, rfl⟩ := owns_form h6 (by omega)
             rw [hl6] at at6 ⊢
             have h6 : w6.ownsRow B 3 1 (.slice (some ⟨g6, 0, none⟩) (es.length + 1) c6) ((es.map fun x => Value.int .i64 x.m) ++ [Value.int .i64 m]).length ((es.map fun x => Value.int .i64 x.m) ++ [Value.int .i64 m]) := by rw [hl6] at h6 ⊢; exact h6
             obtain ⟨P6, kk6, ft6⟩ := HP5.out.pushO h6 k6 at6
             have HP6 : Hid (BkS (w6.setCell ⟨bb, 1, none⟩ (.slice (some ⟨g6, 0, none⟩) (es.length + 1) c6)) B bb (.slice (some ⟨g5, 0, none⟩) (es.length + 1) c5) (.slice (some ⟨g6, 0, none⟩) (es.length + 1) c6) D4 SD4 (es.map Ent.v ++ [.slice ao ys.length cap]) ((es.map fun x => Value.int .i64 x.m) ++ [.int .i64 m]) a m done U) := P6
             have HK6 : Hid (Kept (footB bb (.slice (some ⟨g5, 0, none⟩) (es.length + 1) c5) vo SD4) (w5.setCell ⟨bb, 0, none⟩ (.slice (some ⟨g5, 0, none⟩) (es.length + 1) c5)) (w6.setCell ⟨bb, 1, none⟩ (.slice (some ⟨g6, 0, none⟩) (es.length + 1) c6))) := kk6
             have HF6 : Hid (∀ x, x ∈ footB bb (.slice (some ⟨g5, 0, none⟩) (es.length + 1) c5) (.slice (some ⟨g6, 0, none⟩) (es.length + 1) c6) SD4 → x ∈ footB bb (.slice (some ⟨g5, 0, none⟩) (es.length + 1) c5) vo SD4 ∨ (w5.setCell ⟨bb, 0, none⟩ (.slice (some ⟨g5, 0, none⟩) (es.length + 1) c5)).heap.size ≤ x) := ft6
             have hb6 := k6.heap (((Kept.refl [] (w5.setCell ⟨bb, 0, none⟩ (.slice (some ⟨g5, 0, none⟩) (es.length + 1) c5))).alloc _).heap HP5.out.box (by simp)) (fun e => HP5.out.ne2 bb (by simpa using e) rfl)
             have qc := (own_facts hb6).1 1
             have qd := (own_facts hb6).2.1 1
             clear P6 kk6 ft6 h6 k6 at6 own5 hb6 hl6))
        go_end0
        have s5 := HK5.out.size
        have hfe : ∀ x, x ∈ footB bb vb vo SD4 → x ∈ footB bb vb vo SD ++ (Value.slice ao ys.length cap).ownBlock.toList ∨ W.heap.size ≤ x := fun x hx => by
          rcases HFT.out x hx with h | h
          · exact Or.inl (List.mem_append_left _ h)
          · exact Or.inl (List.mem_append_right _ (by simp [h]))
        have hk9 := (HK4.out.trans HK5.out hfe).trans HK6.out (fun x hx => by
          rcases HF5.out x hx with h | h
          · exact hfe x h
          · exact Or.inr (by omega))
        refine ⟨rfl, ⟨es ++ [⟨.slice ao ys.length cap, m, ys.length⟩], footB bb (.slice (some ⟨g5, 0, none⟩) (es.length + 1) c5) (.slice (some ⟨g6, 0, none⟩) (es.length + 1) c6) SD4, ⟨(.slice (some ⟨g5, 0, none⟩) (es.length + 1) c5), (.slice (some ⟨g6, 0, none⟩) (es.length + 1) c6), D4, SD4, U, ?_, fun x hx => ?_, hU, htg, rfl⟩, Or.inr ⟨_, rfl, by dsimp only; have := HLen.out; omega⟩, hk9, fun x hx => ?_⟩⟩
        · rw [HM.out]
          simpa using HP6.out
        · rw [HM.out]
          exact HEN.out x hx
        · rcases HF6.out x hx with h | h
          · rcases HF5.out x h with h | h
            · rcases HFT.out x h with h | h
              · exact Or.inl h
              · exact Or.inr (Or.inl h)
            · exact Or.inr (Or.inr (by omega))
          · exact Or.inr (Or.inr (by omega))
      · have hty := tight_yes HP.out (1200 + 3 * (ys.length : Int)) (by omega) (by omega) hu0 hu1 (by omega)
        obtain ⟨q0, q1, q2, q33, q34, q35, qf⟩ := HP.out.cells
        go_wp2_with fail
        go_at_call 68
        refine hty.mono ?_
        rintro e w2 ⟨rfl, hw2⟩
        subst w2
        clear hty
        go_wp2
        first
          | go_end0
          | (rw [Exit.noGoto_ret]; refine bodyPost_ret (v := .tuple #[]) (by simp [results, Try.results46, go_sem]) rfl ?_)
          | refine bodyPost_ret (v := .tuple #[]) (by simp [results, Try.results46, go_sem]) rfl ?_
        refine ⟨rfl, ⟨es, footB bb vb vo SD, ⟨vb, vo, D, SD, used, ?_, fun x hx => ?_, hu0, hu1, rfl⟩, Or.inl rfl, HK.out, fun x hx => Or.inl hx⟩⟩
        · rw [HM.out]
          exact HP.out
        · have := HES.out x hx
          exact ⟨this.1, this.2.1, by omega⟩

/-- The book, with what bounds it. -/
structure Bk (W : World) (B bb : Nat) (es : List Ent) (a turn : Nat) (done : Int) (S : List Nat) : Prop where
  bk : BookAt W B bb es a turn done S
  le : a ≤ es.length
  len : es.length + 96 * (es.length - a) ≤ 97 * turn
  pend : ∀ (i : Nat) (x : Ent), es[i]? = some x → a ≤ i → x.n ≤ 10000000
theorem Bk.on {W W' : World} {B bb : Nat} {es : List Ent} {a turn : Nat} {done : Int} {S T : List Nat} (h : Bk W B bb es a turn done S) (k : Kept T W W') (hd : ∀ x, x ∈ S → x ∉ T) : Bk W' B bb es a turn done S := ⟨h.bk.on k hd, h.le, h.len, h.pend⟩
/-- What the book takes in: its blocks behind it. -/
structure TookB (W W' : World) (B bb : Nat) (turn : Nat) (S : List Nat) (v : Value) : Prop where
  ex : ∃ es a done S', Bk W' B bb es a (turn + 1) done S' ∧ Kept (S ++ v.ownBlock.toList) W W' ∧ (∀ x, x ∈ S' → x ∈ S ∨ v.ownBlock = some x ∨ W.heap.size ≤ x)
theorem Bytes_bk {W : World} {B bb : Nat} {es : List Ent} {a turn : Nat} {done : Int} {S : List Nat} (hbk : Bk W B bb es a turn done S) {v : Value} {ys : List Int} (hv : OwnB W B v ys) (hg : ∀ g, v.ownBlock = some g → g ∉ S) (ht1 : turn ≤ 5000) (hy : ys.length ≤ 140737488355328) (hB : B ≤ W.heap.size) :
    Calls Try.prog 46 #[.pointer (some ⟨bb, 0, none⟩), v] W fun e w' => e = .returned (.tuple #[]) ∧ TookB W w' B bb turn S v := by
  have h1 := hbk.len
  have h2 := hbk.le
  refine (BBytes_any hbk.bk hv hg (by omega) (by omega) (by omega) hy hB).mono ?_
  rintro e w1 ⟨rfl, es', S', h, he, k, hf⟩
  refine ⟨rfl, es', a, done, S', ⟨h, ?_, ?_, ?_⟩, k, hf⟩
  · rcases he with rfl | ⟨x, rfl, hx⟩
    · exact h2
    · rw [List.length_append]; omega
  · rcases he with rfl | ⟨x, rfl, hx⟩
    · omega
    · rw [List.length_append]; simp only [List.length_cons, List.length_nil]; omega
  · rcases he with rfl | ⟨x, rfl, hx⟩
    · exact hbk.pend
    · intro i y hy ha
      by_cases hi : i < es.length
      · rw [List.getElem?_append_left hi] at hy
        exact hbk.pend i y hy ha
      · rw [List.getElem?_append_right (by omega)] at hy
        have : y ∈ [x] := List.mem_of_getElem? hy
        rw [List.mem_singleton.1 this]
        exact hx
end Go.Proofs.Ytldhbcppnoldiaa
