/-
  THE BOOK's lists of ids: blocks that hold a mark, and what an append to one of them does.
-/
import Derived.Test.YtlljiipmkjjhhaaDoorApp1
import Derived.Test.YtlljiipmkjjhhaaDoorFd6
namespace Go.Proofs.YtlljiipmkjjhhaaDoor
open Go.RowKit

/-- The mark of a list of ids. -/
def idM (m : Int) : List Int := [atM m 0, atM m 1, (m / 65536) % 256] ++ List.replicate 29 0
theorem idM_good (m : Int) : GoodID (idM m) := by
  refine ⟨rfl, fun u hu => ?_⟩
  have h0 := atM_oct m 0
  have h1 := atM_oct m 1
  unfold idM at hu
  simp only [List.cons_append, List.nil_append, List.mem_cons, List.mem_replicate] at hu
  rcases hu with rfl | rfl | rfl | ⟨_, rfl⟩ <;> omega
structure BlksI (W : World) (B : Nat) (D : Nat → Option MB) (S : List Nat) : Prop where
  dom : ∀ g b, D g = some b → g ∈ S
  rng : ∀ x, x ∈ S → B ≤ x ∧ x < W.heap.size
  row : ∀ g b, D g = some b → IdIn W g b.s (List.replicate b.e (idM b.m)) ∧ b.e ≤ 1000000000000
theorem IdIn.keptS {W W' : World} {g cap : Nat} {A : List (List Int)} {T : List Nat} (h : IdIn W g cap A) (k : Kept T W W') (hn : g ∉ T) : IdIn W' g cap A := by
  obtain ⟨cur, h1, h2⟩ := h.blk
  exact ⟨⟨cur, k.heap h1 hn, h2⟩, h.le, h.good, fun i x hx => range_kept (h.row i x hx) k hn⟩
theorem IdIn.lt {W : World} {g cap : Nat} {A : List (List Int)} (h : IdIn W g cap A) : g < W.heap.size := by
  obtain ⟨cur, h1, _⟩ := h.blk
  exact lt_of_block h1
theorem IdIn.take {W : World} {g cap : Nat} {A : List (List Int)} (h : IdIn W g cap A) (n : Nat) : IdIn W g cap (A.take n) := by
  have hle := h.le
  refine ⟨h.blk, by rw [List.length_take]; omega, fun id hid => h.good id (List.mem_of_mem_take hid), fun i x hx => ?_⟩
  rw [List.getElem?_take] at hx
  split at hx
  · exact h.row i x hx
  · cases hx
theorem BlksI.kept {W W' : World} {B : Nat} {D : Nat → Option MB} {S T : List Nat} (P : BlksI W B D S) (k : Kept T W W') (hd : ∀ x, x ∈ S → x ∉ T) : BlksI W' B D S := by
  refine ⟨P.dom, fun x hx => ⟨(P.rng x hx).1, Nat.lt_of_lt_of_le (P.rng x hx).2 k.size⟩, fun g b hb => ?_⟩
  exact ⟨(P.row g b hb).1.keptS k (hd g (P.dom g b hb)), (P.row g b hb).2⟩
/-- A new block. -/
theorem BlksI.fresh {W W' : World} {B : Nat} {D : Nat → Option MB} {S : List Nat} (P : BlksI W B D S) (hB : B ≤ W.heap.size) (k : Kept [] W W') {b : MB} (h : IdIn W' W.heap.size b.s (List.replicate b.e (idM b.m))) (hm : b.e ≤ 1000000000000) :
    BlksI W' B (upd D W.heap.size b) (W.heap.size :: S) ∧ ∀ x, EntIn D x → EntIn (upd D W.heap.size b) x := by
  have hn : ∀ g c, D g = some c → g ≠ W.heap.size := fun g c hg => by have := (P.rng g (P.dom g c hg)).2; omega
  have P1 := P.kept k (fun _ _ => by simp)
  refine ⟨⟨fun g c hg => ?_, fun x hx => ?_, fun g c hg => ?_⟩, fun x hx => ?_⟩
  · by_cases e : g = W.heap.size
    · simp [e]
    · rw [upd_other D b e] at hg
      exact List.mem_cons_of_mem _ (P.dom g c hg)
  · rcases List.mem_cons.1 hx with e | e
    · rw [e]; exact ⟨hB, h.lt⟩
    · exact P1.rng x e
  · by_cases e : g = W.heap.size
    · rw [e, upd_same] at hg
      cases hg
      rw [e]
      exact ⟨h, hm⟩
    · rw [upd_other D b e] at hg
      exact P1.row g c hg
  · rcases hx with h1 | ⟨g, cap, ext, h1, h2, h3⟩
    · exact Or.inl h1
    · exact Or.inr ⟨g, cap, ext, h1, by rw [upd_other D b (hn g _ h2)]; exact h2, h3⟩
/-- A block that is marked farther. -/
theorem BlksI.more {W W' : World} {B : Nat} {D : Nat → Option MB} {S : List Nat} (P : BlksI W B D S) {g : Nat} {b : MB} (hg : D g = some b) (k : Kept [g] W W') {e : Nat} (h : IdIn W' g b.s (List.replicate e (idM b.m))) (hbe : b.e ≤ e) (hm : e ≤ 1000000000000) :
    BlksI W' B (upd D g ⟨b.m, e, b.s⟩) S ∧ ∀ x, EntIn D x → EntIn (upd D g ⟨b.m, e, b.s⟩) x := by
  refine ⟨⟨fun x c hx => ?_, fun x hx => ⟨(P.rng x hx).1, Nat.lt_of_lt_of_le (P.rng x hx).2 k.size⟩, fun x c hx => ?_⟩, fun x hx => ?_⟩
  · by_cases e1 : x = g
    · rw [e1]; exact P.dom g b hg
    · rw [upd_other D _ e1] at hx
      exact P.dom x c hx
  · by_cases e1 : x = g
    · rw [e1, upd_same] at hx
      cases hx
      rw [e1]
      exact ⟨h, hm⟩
    · rw [upd_other D _ e1] at hx
      exact ⟨(P.row x c hx).1.keptS k (by simpa using e1), (P.row x c hx).2⟩
  · rcases hx with h1 | ⟨y, cap, ext, h1, h2, h3⟩
    · exact Or.inl h1
    · by_cases e1 : y = g
      · subst e1
        rw [hg] at h2
        cases h2
        exact Or.inr ⟨y, cap, e, h1, upd_same _ _ _, Nat.le_trans h3 hbe⟩
      · exact Or.inr ⟨y, cap, ext, h1, by rw [upd_other D _ e1]; exact h2, h3⟩
structure AppdI (W W' : World) (B : Nat) (D : Nat → Option MB) (S : List Nat) (x : Ent) (v' : Value) (D' : Nat → Option MB) (S' : List Nat) : Prop where
  blks : BlksI W' B D' S'
  ent : EntIn D' ⟨v', x.m, x.n + 1⟩
  old : ∀ y, EntIn D y → EntIn D' y
  kept : Kept S W W'
  sub : ∀ y, y ∈ S' → y ∈ S ∨ W.heap.size ≤ y
theorem repl_flat (r : List Value) (hr : r.length = 32) (n : Nat) {i : Nat} {j : Nat} {v : Value} (hi : i < n) (hj : r[j]? = some v) : (List.replicate n r).flatten[i * 32 + j]? = some v := by
  have hj2 : j < 32 := by rw [← hr]; exact (List.getElem?_eq_some_iff.1 hj).1
  rw [flat_bind 32 (by decide) _ (fun q hq => by rw [List.eq_of_mem_replicate hq]; exact hr), Nat.mul_comm i 32, Nat.mul_add_div (by decide), Nat.div_eq_of_lt hj2, Nat.add_zero, List.getElem?_replicate, if_pos hi, Nat.mul_add_mod, Nat.mod_eq_of_lt hj2]
  exact hj
/-- A block whose first cells are a mark over and over. -/
theorem IdIn.of_cells {W : World} {g cap n : Nat} {m : Int} {cur : Array Value} (h : W.heap[g]? = some (.cells cur 24 (0, 0))) (hs : cur.size = cap * 32) (hn : n ≤ cap)
    (hc : ∀ i v, i < n * 32 → ((List.replicate n ((idM m).map (Value.int .u8))).flatten)[i]? = some v → cur[i]? = some v) : IdIn W g cap (List.replicate n (idM m)) := by
  refine ⟨⟨cur, h, hs⟩, by rw [List.length_replicate]; exact hn, fun id hid => by rw [List.eq_of_mem_replicate hid]; exact idM_good m, fun i x hx j v hv => ?_⟩
  rw [List.getElem?_replicate] at hx
  split at hx
  · rename_i hi
    injection hx with hx
    subst hx
    have hl : ((idM m).map (Value.int .u8)).length = 32 := by rw [List.length_map]; exact (idM_good m).1
    have hj : j < 32 := by rw [← hl]; exact (List.getElem?_eq_some_iff.1 hv).1
    rw [cell_of_row _ _ _ _ _ _ h]
    exact hc _ _ (by omega) (repl_flat _ hl n hi hv)
  · cases hx
/-- One id more behind the others. -/
theorem IdIn.push {W : World} {g cap : Nat} {A : List (List Int)} (h : IdIn W g cap A) (hl : A.length < cap) {x : List Int} (hx : GoodID x) : IdIn (W.setCells g (A.length * 32) (x.map (Value.int .u8))) g cap (A ++ [x]) := by
  obtain ⟨cur, h1, h2⟩ := h.blk
  have hxl : (x.map (Value.int .u8)).length = 32 := by rw [List.length_map, hx.1]
  refine ⟨⟨_, setCells_heap g 24 _ _ W cur h1, by rw [setL_size]; exact h2⟩, by rw [List.length_append, List.length_singleton]; omega, fun id hid => ?_, fun i y hy j v hv => ?_⟩
  · rcases List.mem_append.1 hid with h3 | h3
    · exact h.good id h3
    · rw [List.mem_singleton.1 h3]
      exact hx
  · by_cases e : i < A.length
    · rw [List.getElem?_append_left e] at hy
      have hyg := h.good y (List.mem_of_getElem? hy)
      have hj : j < 32 := by have := (List.getElem?_eq_some_iff.1 hv).1; rw [List.length_map, hyg.1] at this; exact this
      rw [World.cell?_setCells_out g _ _ _ _ (fun _ _ => by
        show i * 32 + j < A.length * 32 ∨ _
        left
        omega)]
      exact h.row i y hy j v hv
    · rw [List.getElem?_append_right (by omega)] at hy
      have e2 : i - A.length = 0 := by
        have := (List.getElem?_eq_some_iff.1 hy).1
        simp at this
        omega
      rw [e2] at hy
      injection hy with hy
      subst hy
      obtain rfl : i = A.length := by omega
      have hj : j < (x.map (Value.int .u8)).length := (List.getElem?_eq_some_iff.1 hv).1
      have h4 := World.cell?_setCells_in g (x.map (Value.int .u8)) (A.length * 32) W (fun j' hj' => (h.there (o := A.length * 32) (n := 32) (by omega) j' (by omega)).1) j hj
      rw [h4]
      obtain ⟨_, h5⟩ := List.getElem?_eq_some_iff.1 hv
      rw [h5]
theorem repl_snoc (n : Nat) (x : List Int) : List.replicate n x ++ [x] = List.replicate (n + 1) x := by rw [List.replicate_succ']
theorem repl_set (n k : Nat) (x : List Int) (hk : k < n) : (List.replicate n x).set k x = List.replicate n x := by
  apply List.ext_getElem?
  intro i
  rw [List.getElem?_set, List.getElem?_replicate]
  simp only [List.length_replicate]
  split
  · rename_i e
    subst e
    rw [if_pos hk]
  · rfl
theorem kept_cells (W : World) (g o : Nat) (vs : List Value) : Kept [g] W (W.setCells g o vs) := Kept.setCells g (Or.inl (by simp)) _ _ _ (Kept.refl _ _)
set_option maxHeartbeats 1000000 in
theorem run_append_markI {W : World} {B : Nat} {D : Nat → Option MB} {S : List Nat} {x : Ent} (P : BlksI W B D S) (h : EntIn D x) (hB : B ≤ W.heap.size) (q : Nat) (hq : W.rangeAt q 0 ((idM x.m).map (Value.int .u8))) (hn : x.n + 1 ≤ 1000000000000) (ty : TypeId) :
    ∃ v' W' D' S', (Builtin.append_ #[22, 22] ty #[x.v, .slice (some ⟨q, 0, none⟩) 1 1]).run Tryd.prog W = .ok v' W' ∧ AppdI W W' B D S x v' D' S' := by
  obtain ⟨i0, hi, hz0, hz1, hz2⟩ := info_parts Tryd.idInfo
  obtain ⟨news, hnw⟩ : ∃ news, news = (idM x.m).map (Value.int .u8) := ⟨_, rfl⟩
  have hnl : news.length = 32 := by rw [hnw, List.length_map]; exact (idM_good x.m).1
  have hn1 : ∀ u, u ∈ news → u.oneCell' = true := by rw [hnw]; exact map_oneCell _
  have hnews : ∀ j u, news[j]? = some u → W.cell? ((⟨q, 0, none⟩ : Addr).add j) = some u := fun j u hj => by
    rw [Addr.add_mid, hnw] at *
    exact hq j u hj
  have hml : maxLen = 9223372036854775807 := rfl
  have hzs : (Value.agg (zero32.map (Value.int .u8)).toArray).cells.size = 32 := Tryd.idZero
  rcases h with ⟨h1, h2⟩ | ⟨g, cap, ext, h1, h2, h3⟩
  · have hr := run_append_nil (P := Tryd.prog) W 22 ty 24 i0 _ Tryd.underlying22 hi hz0 ⟨q, 0, none⟩ 1 1 news (by rw [hz1, hnl]) hnews (by decide) (by decide) (by rw [hz2]; decide)
    have hge := grownCap_ge W 1 0 24
    rw [h1]
    have hk : Kept [] W (W.drew.alloc (.cells (news.toArray ++ Builtin.zeroCells (Value.agg (zero32.map (Value.int .u8)).toArray).cells (grownCap W 1 0 24 - 1)) 24)) := (Kept.refl [] W).drew.alloc _
    have hin : IdIn (W.drew.alloc (.cells (news.toArray ++ Builtin.zeroCells (Value.agg (zero32.map (Value.int .u8)).toArray).cells (grownCap W 1 0 24 - 1)) 24)) W.heap.size (grownCap W 1 0 24) (List.replicate 1 (idM x.m)) :=
      IdIn.of_cells (heap_alloc_new W.drew _) (by
        simp only [Array.size_append, List.size_toArray, size_zeroCells, hnl, hzs]
        omega) hge (fun i v hi hv => by
        have hf : (List.replicate 1 ((idM x.m).map (Value.int .u8))).flatten = news := by rw [hnw]; simp
        rw [hf] at hv
        rw [Array.getElem?_append_left (by rw [List.size_toArray, hnl]; omega), List.getElem?_toArray]
        exact hv)
    obtain ⟨p1, p2⟩ := P.fresh hB hk (b := ⟨x.m, 1, grownCap W 1 0 24⟩) hin (show 1 ≤ 1000000000000 by decide)
    refine ⟨_, _, _, _, hr, ⟨p1, Or.inr ⟨W.heap.size, _, 1, by rw [h2], upd_same _ _ _, by rw [h2]; exact Nat.le_refl _⟩, p2, hk.more (by simp), fun y hy => ?_⟩⟩
    rcases List.mem_cons.1 hy with e | e
    · exact Or.inr (by omega)
    · exact Or.inl e
  · obtain ⟨c1, c4⟩ := P.row g _ h2
    dsimp only at c1 c4
    have hec := c1.le
    rw [List.length_replicate] at hec
    rw [h1]
    by_cases hroom : x.n + 1 ≤ cap
    · have hth := c1.there (o := x.n * 32) (n := 32) (by omega)
      have hr := run_append_room_cells (P := Tryd.prog) (w := W) 22 ty 24 i0 Tryd.underlying22 hi g 0 x.n cap ⟨q, 0, none⟩ 1 1 news (by rw [hz1, hnl]) hnews hn1 hroom (fun j hj => by rw [hz1, Nat.zero_add]; exact (hth j (by omega)).1) (fun j hj => by rw [hz1, Nat.zero_add]; exact (hth j (by omega)).2)
      rw [hz1, Nat.zero_add] at hr
      have hk : Kept [g] W (W.setCells g (x.n * 32) news) := kept_cells _ _ _ _
      have hin : IdIn (W.setCells g (x.n * 32) news) g cap (List.replicate (max ext (x.n + 1)) (idM x.m)) := by
        by_cases hlt : x.n < ext
        · have h5 := c1.set (k := x.n) (by rw [List.length_replicate]; exact hlt) (idM_good x.m)
          rw [repl_set _ _ _ hlt, ← hnw] at h5
          rwa [show max ext (x.n + 1) = ext by omega]
        · obtain rfl : x.n = ext := by omega
          have h5 := c1.push (by rw [List.length_replicate]; omega) (idM_good x.m)
          rw [List.length_replicate, repl_snoc, ← hnw] at h5
          rwa [show max x.n (x.n + 1) = x.n + 1 by omega]
      obtain ⟨p1, p2⟩ := P.more h2 hk (e := max ext (x.n + 1)) hin (by dsimp only; omega) (by omega)
      exact ⟨_, _, _, _, hr, ⟨p1, Or.inr ⟨g, cap, _, rfl, upd_same _ _ _, by dsimp only; omega⟩, p2, hk.more (by simpa using P.dom g _ h2), fun y hy => Or.inl hy⟩⟩
    · obtain ⟨olds, hol⟩ : ∃ olds, olds = (List.replicate x.n ((idM x.m).map (Value.int .u8))).flatten := ⟨_, rfl⟩
      have hml2 : ((idM x.m).map (Value.int .u8)).length = 32 := by rw [← hnw]; exact hnl
      have holl : olds.length = x.n * 32 := by rw [hol, flat_len 32 _ (fun q hq => by rw [List.eq_of_mem_replicate hq]; exact hml2), List.length_replicate]
      have holds : ∀ j u, olds[j]? = some u → W.cell? ((⟨g, 0, none⟩ : Addr).add j) = some u := by
        intro j u hu
        have hj : j < x.n * 32 := by have := (List.getElem?_eq_some_iff.1 hu).1; rwa [holl] at this
        rw [hol, flat_bind 32 (by decide) _ (fun q hq => by rw [List.eq_of_mem_replicate hq]; exact hml2)] at hu
        obtain ⟨r, hr1, hr2⟩ := Option.bind_eq_some_iff.1 hu
        rw [List.getElem?_replicate] at hr1
        split at hr1
        · rename_i hjx
          rw [← Option.some.inj hr1] at hr2
          have h5 := c1.row (j / 32) (idM x.m) (by rw [List.getElem?_replicate, if_pos (by omega)]) (j % 32) u hr2
          rw [Addr.add_mid, Nat.zero_add]
          rwa [show j / 32 * 32 + j % 32 = j by omega] at h5
        · cases hr1
      have hr := run_append_grow (P := Tryd.prog) W 22 ty 24 i0 _ Tryd.underlying22 hi hz0 ⟨g, 0, none⟩ x.n cap olds (by rw [hz1, holl]) holds ⟨q, 0, none⟩ 1 1 news (by rw [hz1, hnl]) hnews (by omega) (by omega) (growslice_fits (by omega) (by rw [hz2]; omega))
      have hge := grownCap_ge W (x.n + 1) cap 24
      have hk : Kept [] W (W.drew.alloc (.cells (olds.toArray ++ news.toArray ++ Builtin.zeroCells (Value.agg (zero32.map (Value.int .u8)).toArray).cells (grownCap W (x.n + 1) cap 24 - (x.n + 1))) 24)) := (Kept.refl [] W).drew.alloc _
      have hin : IdIn (W.drew.alloc (.cells (olds.toArray ++ news.toArray ++ Builtin.zeroCells (Value.agg (zero32.map (Value.int .u8)).toArray).cells (grownCap W (x.n + 1) cap 24 - (x.n + 1))) 24)) W.heap.size (grownCap W (x.n + 1) cap 24) (List.replicate (x.n + 1) (idM x.m)) :=
        IdIn.of_cells (heap_alloc_new W.drew _) (by
          simp only [Array.size_append, List.size_toArray, size_zeroCells, hnl, holl, hzs]
          omega) hge (fun i v hi hv => by
          have hf : (List.replicate (x.n + 1) ((idM x.m).map (Value.int .u8))).flatten = olds ++ news := by rw [hol, hnw, List.replicate_succ', List.flatten_append]; simp
          rw [hf] at hv
          rw [Array.getElem?_append_left (by rw [Array.size_append, List.size_toArray, List.size_toArray, hnl, holl]; omega), List.append_toArray, List.getElem?_toArray]
          exact hv)
      obtain ⟨p1, p2⟩ := P.fresh hB hk (b := ⟨x.m, x.n + 1, grownCap W (x.n + 1) cap 24⟩) hin hn
      refine ⟨_, _, _, _, hr, ⟨p1, Or.inr ⟨W.heap.size, _, x.n + 1, rfl, upd_same _ _ _, Nat.le_refl _⟩, p2, hk.more (by simp), fun y hy => ?_⟩⟩
      rcases List.mem_cons.1 hy with e | e
      · exact Or.inr (by omega)
      · exact Or.inl e
theorem wpList_append_markI {ops : Array Oper} {rest : List Oper} {o : Oper} {a : Act} {W : World} {Q : Exit → Act → World → Prop} (hgd : o.guard = none) (s y : Operand)
    (ho : o.op = .call { callee := .builtin .append, args := #[s, y], argTypes := #[22, 22] }) {B : Nat} {D : Nat → Option MB} {S : List Nat} {x : Ent} (P : BlksI W B D S) (h : EntIn D x) (hB : B ≤ W.heap.size)
    (hs : a.eval s = x.v) {q : Nat} (hx : a.eval y = .slice (some ⟨q, 0, none⟩) 1 1) (hq : W.rangeAt q 0 ((idM x.m).map (Value.int .u8))) (hn : x.n + 1 ≤ 1000000000000)
    (hh : ∀ v' W' D' S', AppdI W W' B D S x v' D' S' → wpList Tryd.prog ops Q rest (a.put o.dst v') W') : wpList Tryd.prog ops Q (o :: rest) a W := by
  refine wpList_plain hgd fun K hK => ?_
  obtain ⟨v', W', D', S', hr, ha⟩ := run_append_markI P h hB q hq hn o.type
  unfold Oper.wp execOp
  simp only [ho, resolve, invoke, builtin, Sem.run_bind, Sem.run_pure, Result.andThen_ok, List.map_toArray, List.map_cons, List.map_nil, hs, hx, hr]
  exact hK _ _ (hh v' W' D' S' ha)
end Go.Proofs.YtlljiipmkjjhhaaDoor
