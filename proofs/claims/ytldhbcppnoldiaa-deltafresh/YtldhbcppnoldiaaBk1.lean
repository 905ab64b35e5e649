/-
  THE BOOK's lists: blocks that hold a mark, and what an append to one of them does.
-/
import Derived.Test.YtldhbcppnoldiaaBk0
namespace Go.Proofs.Ytldhbcppnoldiaa
open Go.RowKit

/-- A block of the book: its mark, how far it is marked, its size. -/
structure MB where
  m : Int
  e : Nat
  s : Nat
structure Blks (W : World) (B : Nat) (D : Nat → Option MB) (S : List Nat) : Prop where
  dom : ∀ g b, D g = some b → g ∈ S
  rng : ∀ x, x ∈ S → B ≤ x ∧ x < W.heap.size
  row : ∀ g b, D g = some b → ∃ cur : Array Value, W.heap[g]? = some (.cells cur 5 (0, 0)) ∧ cur.size = b.s ∧ b.e ≤ b.s ∧ b.s ≤ maxLen ∧ ∀ i, i < b.e → cur[i]? = some (.int .u8 (atM b.m i))
/-- A list of the book. -/
structure Ent where
  v : Value
  m : Int
  n : Nat
def EntIn (D : Nat → Option MB) (x : Ent) : Prop := (x.v = .slice none 0 0 ∧ x.n = 0) ∨ ∃ g cap ext, x.v = .slice (some ⟨g, 0, none⟩) x.n cap ∧ D g = some ⟨x.m, ext, cap⟩ ∧ x.n ≤ ext

theorem Blks.kept {W W' : World} {B : Nat} {D : Nat → Option MB} {S T : List Nat} (P : Blks W B D S) (k : Kept T W W') (hd : ∀ x, x ∈ S → x ∉ T) : Blks W' B D S := by
  refine ⟨P.dom, fun x hx => ⟨(P.rng x hx).1, Nat.lt_of_lt_of_le (P.rng x hx).2 k.size⟩, fun g b hb => ?_⟩
  obtain ⟨cur, h1, h2⟩ := P.row g b hb
  exact ⟨cur, k.heap h1 (hd g (P.dom g b hb)), h2⟩
theorem EntIn.own {W : World} {B : Nat} {D : Nat → Option MB} {S : List Nat} {x : Ent} (h : EntIn D x) (P : Blks W B D S) : OwnB W B x.v (marks x.m x.n) := by
  rcases h with ⟨h1, h2⟩ | ⟨g, cap, ext, h1, h2, h3⟩
  · rw [h1, h2]
    exact World.ownsRow_nil _ _ _ _
  · obtain ⟨cur, c1, c2, c3, c4, c5⟩ := P.row g _ h2
    refine ⟨by rw [List.length_map, marks_len, Nat.mul_one], Or.inr ⟨g, cap, cur, by rw [marks_len]; exact h1, (P.rng g (P.dom g _ h2)).1, c1, by rw [marks_len]; exact Nat.le_trans h3 c3, c4, by rw [Nat.mul_one]; exact c2, ?_⟩⟩
    rw [marks_len, Nat.mul_one]
    apply List.ext_getElem?
    intro i
    by_cases hi : i < x.n
    · rw [List.getElem?_take_of_lt hi, Array.getElem?_toList, c5 i (by dsimp only; omega), List.getElem?_map, marks_get _ _ _ hi]
      rfl
    · rw [List.getElem?_take_eq_none (by omega), List.getElem?_eq_none (by rw [List.length_map, marks_len]; omega)]
def upd (D : Nat → Option MB) (g : Nat) (b : MB) : Nat → Option MB := fun x => if x = g then some b else D x
theorem upd_same (D : Nat → Option MB) (g : Nat) (b : MB) : upd D g b g = some b := if_pos rfl
theorem upd_other (D : Nat → Option MB) {g x : Nat} (b : MB) (h : x ≠ g) : upd D g b x = D x := if_neg h

/-- A new block. -/
theorem Blks.fresh {W W' : World} {B : Nat} {D : Nat → Option MB} {S : List Nat} (P : Blks W B D S) (hB : B ≤ W.heap.size) (k : Kept [] W W') {b : MB} {cur : Array Value} (h : W'.heap[W.heap.size]? = some (.cells cur 5 (0, 0))) (hs : cur.size = b.s) (he : b.e ≤ b.s) (hm : b.s ≤ maxLen) (hc : ∀ i, i < b.e → cur[i]? = some (.int .u8 (atM b.m i))) :
    Blks W' B (upd D W.heap.size b) (W.heap.size :: S) ∧ ∀ x, EntIn D x → EntIn (upd D W.heap.size b) x := by
  have hn : ∀ g c, D g = some c → g ≠ W.heap.size := fun g c hg => by have := (P.rng g (P.dom g c hg)).2; omega
  have P1 := P.kept k (fun _ _ => by simp)
  refine ⟨⟨fun g c hg => ?_, fun x hx => ?_, fun g c hg => ?_⟩, fun x hx => ?_⟩
  · by_cases e : g = W.heap.size
    · simp [e]
    · rw [upd_other D b e] at hg
      exact List.mem_cons_of_mem _ (P.dom g c hg)
  · rcases List.mem_cons.1 hx with e | e
    · rw [e]; exact ⟨hB, lt_of_block h⟩
    · exact P1.rng x e
  · by_cases e : g = W.heap.size
    · rw [e, upd_same] at hg
      cases hg
      rw [e]
      exact ⟨cur, h, hs, he, hm, hc⟩
    · rw [upd_other D b e] at hg
      exact P1.row g c hg
  · rcases hx with h1 | ⟨g, cap, ext, h1, h2, h3⟩
    · exact Or.inl h1
    · exact Or.inr ⟨g, cap, ext, h1, by rw [upd_other D b (hn g _ h2)]; exact h2, h3⟩
/-- A block that is marked farther. -/
theorem Blks.more {W W' : World} {B : Nat} {D : Nat → Option MB} {S : List Nat} (P : Blks W B D S) {g : Nat} {b : MB} (hg : D g = some b) (k : Kept [g] W W') {e : Nat} {cur : Array Value} (h : W'.heap[g]? = some (.cells cur 5 (0, 0))) (hs : cur.size = b.s) (he : e ≤ b.s) (hbe : b.e ≤ e) (hc : ∀ i, i < e → cur[i]? = some (.int .u8 (atM b.m i))) :
    Blks W' B (upd D g ⟨b.m, e, b.s⟩) S ∧ ∀ x, EntIn D x → EntIn (upd D g ⟨b.m, e, b.s⟩) x := by
  obtain ⟨_, _, _, _, hm, _⟩ := P.row g b hg
  refine ⟨⟨fun x c hx => ?_, fun x hx => ⟨(P.rng x hx).1, Nat.lt_of_lt_of_le (P.rng x hx).2 k.size⟩, fun x c hx => ?_⟩, fun x hx => ?_⟩
  · by_cases e1 : x = g
    · rw [e1]; exact P.dom g b hg
    · rw [upd_other D _ e1] at hx
      exact P.dom x c hx
  · by_cases e1 : x = g
    · rw [e1, upd_same] at hx
      cases hx
      rw [e1]
      exact ⟨cur, h, hs, he, hm, hc⟩
    · rw [upd_other D _ e1] at hx
      obtain ⟨cu, h1, h2⟩ := P.row x c hx
      exact ⟨cu, k.heap h1 (by simpa using e1), h2⟩
  · rcases hx with h1 | ⟨y, cap, ext, h1, h2, h3⟩
    · exact Or.inl h1
    · by_cases e1 : y = g
      · subst e1
        rw [hg] at h2
        cases h2
        exact Or.inr ⟨y, cap, e, h1, upd_same _ _ _, Nat.le_trans h3 hbe⟩
      · exact Or.inr ⟨y, cap, ext, h1, by rw [upd_other D _ e1]; exact h2, h3⟩

structure Appd (W W' : World) (B : Nat) (D : Nat → Option MB) (S : List Nat) (x : Ent) (v' : Value) (D' : Nat → Option MB) (S' : List Nat) : Prop where
  blks : Blks W' B D' S'
  ent : EntIn D' ⟨v', x.m, x.n + 1⟩
  old : ∀ y, EntIn D y → EntIn D' y
  kept : Kept S W W'
  sub : ∀ y, y ∈ S' → y ∈ S ∨ W.heap.size ≤ y

theorem appended_cells {xs news zs : List Value} {m : Int} {n : Nat} (hx : xs = (marks m n).map (Value.int .u8)) (hn : news = [.int .u8 (atM m n)]) : ∀ i, i < n + 1 → (xs.toArray ++ news.toArray ++ zs.toArray)[i]? = some (.int .u8 (atM m i)) := by
  intro i hi
  have e : xs ++ news = (marks m (n + 1)).map (Value.int .u8) := by rw [hx, hn, marks_succ, List.map_append]; rfl
  have e2 : xs.toArray ++ news.toArray ++ zs.toArray = ((xs ++ news) ++ zs).toArray := by simp
  rw [e2, List.getElem?_toArray, List.getElem?_append_left (by rw [e, List.length_map, marks_len]; omega), e, List.getElem?_map, marks_get _ _ _ hi]
  rfl

set_option maxHeartbeats 1000000 in
theorem run_append_mark {W : World} {B : Nat} {D : Nat → Option MB} {S : List Nat} {x : Ent} (P : Blks W B D S) (h : EntIn D x) (hB : B ≤ W.heap.size) (q : Nat) (hq : W.cell? ⟨q, 0, none⟩ = some (.int .u8 (atM x.m x.n))) (hn : x.n + 1 ≤ 140737488355328) (ty : TypeId) :
    ∃ v' W' D' S', (Builtin.append_ #[22, 22] ty #[x.v, .slice (some ⟨q, 0, none⟩) 1 1]).run Try.prog W = .ok v' W' ∧ Appd W W' B D S x v' D' S' := by
  obtain ⟨i0, hi, hz0, hz1, hz2⟩ := info_parts Try.info_u8
  have hnews : ∀ j u, [Value.int .u8 (atM x.m x.n)][j]? = some u → W.cell? ((⟨q, 0, none⟩ : Addr).add j) = some u := by
    intro j t ht
    cases j with
    | zero => simp only [List.getElem?_cons_zero, Option.some.injEq] at ht; subst ht; rw [Addr.add_mid]; exact hq
    | succ j => simp at ht
  have hml : maxLen = 9223372036854775807 := rfl
  rcases h with ⟨h1, h2⟩ | ⟨g, cap, ext, h1, h2, h3⟩
  · have hr := run_append_nil (P := Try.prog) W 22 ty 5 i0 (.int .u8 0) Try.underlying22 hi hz0 ⟨q, 0, none⟩ 1 1 [.int .u8 (atM x.m x.n)] (by rw [hz1]; rfl) hnews (by decide) (by decide) (by rw [hz2]; decide)
    have hge := grownCap_ge W 1 0 5
    have hle := grownCap_le_maxLen W 1 0 5 (by decide)
    rw [h1]
    have hk : Kept [] W (W.drew.alloc (.cells ([Value.int .u8 (atM x.m x.n)].toArray ++ Builtin.zeroCells (Value.int .u8 0).cells (grownCap W 1 0 5 - 1)) 5)) := (Kept.refl [] W).drew.alloc _
    obtain ⟨p1, p2⟩ := P.fresh hB hk (b := ⟨x.m, 1, grownCap W 1 0 5⟩) (heap_alloc_new W.drew _) (by
      simp only [Array.size_append, List.size_toArray, size_zeroCells]
      simp [Value.cells]
      omega) hge hle (by
      rw [h2]
      intro i hi
      have hi2 : i < 1 := hi
      obtain rfl : i = 0 := by omega
      rw [Array.getElem?_append_left (by simp)]
      simp)
    refine ⟨_, _, _, _, hr, ⟨p1, Or.inr ⟨W.heap.size, _, 1, by rw [h2], upd_same _ _ _, by rw [h2]; exact Nat.le_refl _⟩, p2, hk.more (by simp), fun y hy => ?_⟩⟩
    rcases List.mem_cons.1 hy with e | e
    · exact Or.inr (by omega)
    · exact Or.inl e
  · obtain ⟨cur, c1, c2, c3, c4, c5⟩ := P.row g _ h2
    dsimp only at c2 c3 c4 c5
    have hxs : (marks x.m x.n).map (Value.int .u8) = cur.toList.take x.n := by
      apply List.ext_getElem?
      intro i
      by_cases hi : i < x.n
      · rw [List.getElem?_take_of_lt hi, show cur.toList[i]? = cur[i]? from Array.getElem?_toList, c5 i (by omega), List.getElem?_map, marks_get _ _ _ hi]
        rfl
      · rw [List.getElem?_take_eq_none (by omega), List.getElem?_eq_none (by rw [List.length_map, marks_len]; omega)]
    rw [h1]
    by_cases hroom : x.n + 1 ≤ cap
    · have hr := run_append_room (P := Try.prog) W 22 ty 5 i0 Try.underlying22 hi g x.n cap cur c1 ⟨q, 0, none⟩ 1 1 [.int .u8 (atM x.m x.n)] (by rw [hz1]; rfl) hnews (by simp [Value.oneCell']) hroom (by rw [hz1]; simp; omega)
      rw [hz1] at hr
      simp only [Nat.mul_one, List.length_cons, List.length_nil, Nat.zero_add] at hr
      have hk : Kept [g] W (W.setRow g (cur.toList.take x.n ++ [Value.int .u8 (atM x.m x.n)] ++ cur.toList.drop (x.n + 1)).toArray) :=
        ⟨rfl, rfl, rfl, by simp, fun k _ hk => setRow_other W g k _ (by simpa using hk)⟩
      have hsz : (cur.toList.take x.n ++ [Value.int .u8 (atM x.m x.n)] ++ cur.toList.drop (x.n + 1)).toArray.size = cap := by
        simp only [List.size_toArray, List.length_append, List.length_take, List.length_drop, Array.length_toList, List.length_cons, List.length_nil]
        omega
      have hcell : ∀ i, i < max ext (x.n + 1) → (cur.toList.take x.n ++ [Value.int .u8 (atM x.m x.n)] ++ cur.toList.drop (x.n + 1)).toArray[i]? = some (.int .u8 (atM x.m i)) := by
        intro i hi
        rw [List.getElem?_toArray]
        have hl : (cur.toList.take x.n).length = x.n := by rw [List.length_take, Array.length_toList]; omega
        by_cases ha : i < x.n
        · rw [List.getElem?_append_left (by rw [List.length_append, hl]; omega), List.getElem?_append_left (by omega), ← hxs, List.getElem?_map, marks_get _ _ _ ha]
          rfl
        · by_cases hb : i = x.n
          · subst hb
            rw [List.getElem?_append_left (by rw [List.length_append, hl]; simp), List.getElem?_append_right (by omega), hl, Nat.sub_self]
            rfl
          · rw [List.getElem?_append_right (by rw [List.length_append, hl]; simp; omega), List.length_append, hl, List.getElem?_drop, Array.getElem?_toList]
            have e : x.n + 1 + (i - (x.n + [Value.int .u8 (atM x.m x.n)].length)) = i := by simp; omega
            rw [e]
            exact c5 i (by omega)
      obtain ⟨p1, p2⟩ := P.more h2 hk (e := max ext (x.n + 1)) (setRow_heap W g cur _ _ _ c1) hsz (by dsimp only; omega) (by dsimp only; omega) hcell
      exact ⟨_, _, _, _, hr, ⟨p1, Or.inr ⟨g, cap, _, rfl, upd_same _ _ _, by dsimp only; omega⟩, p2, hk.more (by simpa using P.dom g _ h2), fun y hy => Or.inl hy⟩⟩
    · have holds : ∀ j u, ((marks x.m x.n).map (Value.int .u8))[j]? = some u → W.cell? ((⟨g, 0, none⟩ : Addr).add j) = some u := by
        intro j u hu
        have hj : j < x.n := by have := (List.getElem?_eq_some_iff.1 hu).1; rwa [List.length_map, marks_len] at this
        rw [Addr.add_mid, Nat.zero_add, cell_of_row _ _ _ _ _ _ c1, c5 j (by omega)]
        rw [List.getElem?_map, marks_get _ _ _ hj] at hu
        exact hu
      have hr := run_append_grow (P := Try.prog) W 22 ty 5 i0 (.int .u8 0) Try.underlying22 hi hz0 ⟨g, 0, none⟩ x.n cap ((marks x.m x.n).map (Value.int .u8)) (by rw [hz1, List.length_map, marks_len, Nat.mul_one]) holds ⟨q, 0, none⟩ 1 1 [.int .u8 (atM x.m x.n)] (by rw [hz1]; rfl) hnews (by omega) (by omega) (growslice_fits (by omega) (by rw [hz2]; omega))
      have hge := grownCap_ge W (x.n + 1) cap 5
      have hle := grownCap_le_maxLen W (x.n + 1) cap 5 (by omega)
      have hk : Kept [] W (W.drew.alloc (.cells (((marks x.m x.n).map (Value.int .u8)).toArray ++ [Value.int .u8 (atM x.m x.n)].toArray ++ Builtin.zeroCells (Value.int .u8 0).cells (grownCap W (x.n + 1) cap 5 - (x.n + 1))) 5)) := (Kept.refl [] W).drew.alloc _
      obtain ⟨p1, p2⟩ := P.fresh hB hk (b := ⟨x.m, x.n + 1, grownCap W (x.n + 1) cap 5⟩) (heap_alloc_new W.drew _) (by
        simp only [Array.size_append, List.size_toArray, size_zeroCells, List.length_map, marks_len]
        simp [Value.cells]
        omega) hge hle (by
        have e := appended_cells (zs := (Builtin.zeroCells (Value.int .u8 0).cells (grownCap W (x.n + 1) cap 5 - (x.n + 1))).toList) (m := x.m) (n := x.n) rfl rfl
        simpa using e)
      refine ⟨_, _, _, _, hr, ⟨p1, Or.inr ⟨W.heap.size, _, x.n + 1, rfl, upd_same _ _ _, Nat.le_refl _⟩, p2, hk.more (by simp), fun y hy => ?_⟩⟩
      rcases List.mem_cons.1 hy with e | e
      · exact Or.inr (by omega)
      · exact Or.inl e

theorem wpList_append_mark {ops : Array Oper} {rest : List Oper} {o : Oper} {a : Act} {W : World} {Q : Exit → Act → World → Prop} (hgd : o.guard = none) (s y : Operand)
    (ho : o.op = .call { callee := .builtin .append, args := #[s, y], argTypes := #[22, 22] }) {B : Nat} {D : Nat → Option MB} {S : List Nat} {x : Ent} (P : Blks W B D S) (h : EntIn D x) (hB : B ≤ W.heap.size)
    (hs : a.eval s = x.v) {q : Nat} (hx : a.eval y = .slice (some ⟨q, 0, none⟩) 1 1) (hq : W.cell? ⟨q, 0, none⟩ = some (.int .u8 (atM x.m x.n))) (hn : x.n + 1 ≤ 140737488355328)
    (hh : ∀ v' W' D' S', Appd W W' B D S x v' D' S' → wpList Try.prog ops Q rest (a.put o.dst v') W') : wpList Try.prog ops Q (o :: rest) a W := by
  refine wpList_plain hgd fun K hK => ?_
  obtain ⟨v', W', D', S', hr, ha⟩ := run_append_mark P h hB q hq hn o.type
  unfold Oper.wp execOp
  simp only [ho, resolve, invoke, builtin, Sem.run_bind, Sem.run_pure, Result.andThen_ok, List.map_toArray, List.map_cons, List.map_nil, hs, hx, hr]
  exact hK _ _ (hh v' W' D' S' ha)
end Go.Proofs.Ytldhbcppnoldiaa
