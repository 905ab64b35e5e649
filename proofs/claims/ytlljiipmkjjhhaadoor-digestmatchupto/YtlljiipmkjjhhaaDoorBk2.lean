/-
  THE BOOK in memory.
-/
import Derived.Test.YtlljiipmkjjhhaaDoorApp1
import Derived.Maps.AppendAt
namespace Go.Proofs.YtlljiipmkjjhhaaDoor
open Go.RowKit

/-- The Book's cells where it holds lists of bytes alone. -/
def bookC (vb vo : Value) (a turn done used : Int) : Array Value := #[vb, vo, .int .i64 a, .slice none 0 0, .slice none 0 0, .int .i64 0, .slice none 0 0, .slice none 0 0, .int .i64 0, .slice none 0 0, .slice none 0 0, .int .i64 0, .slice none 0 0, .slice none 0 0, .int .i64 0, .slice none 0 0, .slice none 0 0, .int .i64 0, .slice none 0 0, .slice none 0 0, .int .i64 0, .slice none 0 0, .slice none 0 0, .int .i64 0, .slice none 0 0, .slice none 0 0, .int .i64 0, .slice none 0 0, .slice none 0 0, .int .i64 0, .slice none 0 0, .slice none 0 0, .int .i64 0, .int .i64 turn, .int .i64 done, .int .i64 used]

structure BkS (W : World) (B bb : Nat) (vb vo : Value) (D : Nat → Option MB) (SD : List Nat) (L1 L2 : List Value) (a turn done used : Int) : Prop where
  box : W.heap[bb]? = some (.cells (bookC vb vo a turn done used) 54 (0, 0))
  own : W.ownsRow B 25 1 vb L1.length L1
  owo : W.ownsRow B 3 1 vo L2.length L2
  blk : Blks W B D SD
  low : B ≤ bb
  n1 : bb ∉ SD
  n2 : ∀ g, vb.ownBlock = some g → g ∉ SD
  n3 : ∀ g, vo.ownBlock = some g → g ∉ SD
def footB (bb : Nat) (vb vo : Value) (SD : List Nat) : List Nat := bb :: (vb.ownBlock.toList ++ vo.ownBlock.toList ++ SD)
theorem owns_on {w w' : World} {B : Nat} {e : TypeId} {size n : Nat} {v : Value} {xs : List Value} {T : List Nat} (h : w.ownsRow B e size v n xs) (k : Kept T w w') (hd : ∀ b, v.ownBlock = some b → b ∉ T) : w'.ownsRow B e size v n xs := by
  refine ⟨h.1, ?_⟩
  rcases h.2 with hn | ⟨g, cap', cur, hv, hg, hh, rest⟩
  · exact Or.inl hn
  · exact Or.inr ⟨g, cap', cur, hv, hg, k.heap hh (hd g (by rw [hv]; simp [Value.ownBlock])), rest⟩

theorem Tryd.info_ints : (Tryd.prog.info? 3).map (fun i => (i.zero, i.size, i.bytes)) = some (some (.int .i64 0), 1, 8) := by kernel_rfl
theorem info_three {e : TypeId} {z : Value} {bytes : Nat} (h : (Tryd.prog.info? e).map (fun i => (i.zero, i.size, i.bytes)) = some (some z, 1, bytes)) : ∃ i, Tryd.prog.info? e = some i ∧ i.zero = some z ∧ i.size = 1 ∧ i.bytes = bytes := by
  obtain ⟨i, hi, he⟩ := Option.map_eq_some_iff.1 h
  simp only [Prod.mk.injEq] at he
  exact ⟨i, hi, he.1, he.2.1, he.2.2⟩
theorem wpList_append_1 {ops : Array Oper} {rest : List Oper} {o : Oper} {a : Act} {w : World} {Q : Exit → Act → World → Prop} (hgd : o.guard = none) (s x : Operand) (T e : TypeId) (z : Value) (bytes : Nat)
    (hT : Tryd.prog.underlying T = some (.slice e)) (hinfo : (Tryd.prog.info? e).map (fun i => (i.zero, i.size, i.bytes)) = some (some z, 1, bytes)) (hz1 : z.cells.size = 1)
    (ho : o.op = .call { callee := .builtin .append, args := #[s, x], argTypes := #[T, T] }) {B : Nat} {v : Value} {xs : List Value} (hs : a.eval s = v) (hown : w.ownsRow B e 1 v xs.length xs)
    {q : Nat} {u : Value} (hx : a.eval x = .slice (some ⟨q, 0, none⟩) 1 1) (hc : w.cell? ⟨q, 0, none⟩ = some u) (hu : u.oneCell' = true) (hl : xs.length ≤ 1000000) (hb : bytes ≤ 1000) (hB : B ≤ w.heap.size)
    (h : ∀ v' w', w'.ownsRow B e 1 v' (xs ++ [u]).length (xs ++ [u]) → Kept v.ownBlock.toList w w' → (v'.ownBlock = v.ownBlock ∨ v'.ownBlock = some w.heap.size) → wpList Tryd.prog ops Q rest (a.put o.dst v') w') : wpList Tryd.prog ops Q (o :: rest) a w := by
  obtain ⟨i0, hi, q0, q1, q2⟩ := info_three hinfo
  refine wpList_plain hgd fun K hK => ?_
  have hnews : ∀ j t, [u][j]? = some t → w.cell? ((⟨q, 0, none⟩ : Addr).add j) = some t := by
    intro j t ht
    cases j with
    | zero => simp only [List.getElem?_cons_zero, Option.some.injEq] at ht; subst ht; rw [Addr.add_mid]; exact hc
    | succ j => simp at ht
  have hmul : (xs.length + 1) * bytes ≤ (1000000 + 1) * 1000 := Nat.mul_le_mul (by omega) hb
  obtain ⟨v', w', hr, h2, h3, _, h5⟩ := run_append_own_at (P := Tryd.prog) w B T o.type e i0 z 1 bytes hT hi q0 q1 q2 hz1 (by decide) v xs.length xs hown ⟨q, 0, none⟩ 1 1 [u] rfl hnews (by simpa using hu) (by unfold maxLen; omega) (by omega) hB
  unfold Oper.wp execOp
  simp only [ho, resolve, invoke, builtin, Sem.run_bind, Sem.run_pure, Result.andThen_ok, List.map_toArray, List.map_cons, List.map_nil, hs, hx, hr]
  refine hK _ _ (h v' w' (by rw [List.length_append]; exact h2) ((Kept.refl _ _).grown h3 fun k hk => Or.inl (by simp [hk])) h5)

section
variable {W W' : World} {B bb : Nat} {vb vo : Value} {D : Nat → Option MB} {SD : List Nat} {L1 L2 : List Value} {a turn done used : Int}
theorem BkS.on {T : List Nat} (P : BkS W B bb vb vo D SD L1 L2 a turn done used) (k : Kept T W W') (hd : ∀ x, x ∈ footB bb vb vo SD → x ∉ T) : BkS W' B bb vb vo D SD L1 L2 a turn done used :=
  ⟨k.heap P.box (hd bb (by simp [footB])), owns_on P.own k (fun b hb => hd b (by simp [footB, hb])), owns_on P.owo k (fun b hb => hd b (by simp [footB, hb])), P.blk.kept k (fun x hx => hd x (by simp [footB, hx])), P.low, P.n1, P.n2, P.n3⟩
theorem BkS.lt (P : BkS W B bb vb vo D SD L1 L2 a turn done used) : ∀ x, x ∈ footB bb vb vo SD → B ≤ x ∧ x < W.heap.size := by
  intro x hx
  rcases List.mem_cons.1 hx with e | e
  · rw [e]; exact ⟨P.low, lt_of_block P.box⟩
  · rcases List.mem_append.1 e with e | e
    · rcases List.mem_append.1 e with e | e
      · exact World.ownsRow.lt P.own x (by simpa using e)
      · exact World.ownsRow.lt P.owo x (by simpa using e)
    · exact P.blk.rng x e
theorem BkS.ne1 (P : BkS W B bb vb vo D SD L1 L2 a turn done used) : ∀ g, vb.ownBlock = some g → g ≠ bb := fun g hg e => by
  obtain ⟨cur, h⟩ := owns_row P.own hg
  rw [e, P.box] at h
  injection h with h
  injection h with _ h2 _
  exact absurd h2 (by decide)
theorem BkS.ne2 (P : BkS W B bb vb vo D SD L1 L2 a turn done used) : ∀ g, vo.ownBlock = some g → g ≠ bb := fun g hg e => by
  obtain ⟨cur, h⟩ := owns_row P.owo hg
  rw [e, P.box] at h
  injection h with h
  injection h with _ h2 _
  exact absurd h2 (by decide)
theorem BkS.ne3 (P : BkS W B bb vb vo D SD L1 L2 a turn done used) : ∀ g, vb.ownBlock = some g → vo.ownBlock ≠ some g := fun g hg e => by
  obtain ⟨cur, h⟩ := owns_row P.own hg
  obtain ⟨cur2, h2⟩ := owns_row P.owo e
  rw [h] at h2
  injection h2 with h2
  injection h2 with _ h3 _
  exact absurd h3 (by decide)
theorem BkS.num (P : BkS W B bb vb vo D SD L1 L2 a turn done used) (i : Nat) (v : Value) {a' turn' done' used' : Int} (hb : (bookC vb vo a turn done used).setIfInBounds i v = bookC vb vo a' turn' done' used') : BkS (W.setCell ⟨bb, i, none⟩ v) B bb vb vo D SD L1 L2 a' turn' done' used' := by
  have k : Kept [bb] W (W.setCell ⟨bb, i, none⟩ v) := (Kept.refl [bb] W).setCell (p := ⟨bb, i, none⟩) (Or.inl (by simp)) _
  refine ⟨?_, owns_on P.own k (fun g hg => by simpa using P.ne1 g hg), owns_on P.owo k (fun g hg => by simpa using P.ne2 g hg), P.blk.kept k (fun x hx e => P.n1 (by rw [← List.mem_singleton.1 e]; exact hx)), P.low, P.n1, P.n2, P.n3⟩
  have h := heap_setCell_same W bb i _ _ v P.box
  rw [hb] at h
  exact h
theorem BkS.pushB (P : BkS W B bb vb vo D SD L1 L2 a turn done used) {o : Obj} {u v' : Value} {W2 : World} (h2 : W2.ownsRow B 25 1 v' (L1 ++ [u]).length (L1 ++ [u])) (k : Kept vb.ownBlock.toList (W.alloc o) W2) (hat : v'.ownBlock = vb.ownBlock ∨ v'.ownBlock = some (W.alloc o).heap.size) :
    BkS (W2.setCell ⟨bb, 0, none⟩ v') B bb v' vo D SD (L1 ++ [u]) L2 a turn done used ∧ Kept (footB bb vb vo SD) W (W2.setCell ⟨bb, 0, none⟩ v') ∧ (∀ x, x ∈ footB bb v' vo SD → x ∈ footB bb vb vo SD ∨ W.heap.size ≤ x) := by
  have hl := P.lt
  have hbb := (hl bb (by simp [footB])).2
  rw [World.size_alloc] at hat
  have k1 : Kept vb.ownBlock.toList W W2 := (((Kept.refl [] W).alloc o).more (by simp)).then k
  have k2 : Kept [bb] W2 (W2.setCell ⟨bb, 0, none⟩ v') := (Kept.refl [bb] W2).setCell (p := ⟨bb, 0, none⟩) (Or.inl (by simp)) _
  have hv : ∀ g, v'.ownBlock = some g → vb.ownBlock = some g ∨ W.heap.size ≤ g := fun g hg => by
    rcases hat with e | e
    · left; rw [← e]; exact hg
    · right; rw [e] at hg; injection hg with h; omega
  have hn : ∀ g, v'.ownBlock = some g → g ≠ bb := fun g hg => by
    rcases hv g hg with e | e
    · exact P.ne1 g e
    · omega
  have hbx : W2.heap[bb]? = some (.cells (bookC vb vo a turn done used) 54 (0, 0)) := k1.heap P.box (fun e => P.ne1 bb (by simpa using e) rfl)
  refine ⟨⟨?_, owns_on h2 k2 (fun g hg => by simpa using hn g hg), owns_on (owns_on P.owo k1 (fun g hg e => P.ne3 g (by simpa using e) hg)) k2 (fun g hg => by simpa using P.ne2 g hg), (P.blk.kept k1 (fun x hx e => P.n2 x (by simpa using e) hx)).kept k2 (fun x hx e => P.n1 (by rw [← List.mem_singleton.1 e]; exact hx)), P.low, P.n1, fun g hg => ?_, P.n3⟩, ?_, fun x hx => ?_⟩
  · have h := heap_setCell_same W2 bb 0 _ _ v' hbx
    exact h
  · rcases hv g hg with e | e
    · exact P.n2 g e
    · intro h
      have := (P.blk.rng g h).2
      omega
  · exact (k1.more (fun x hx => by simp only [footB, List.mem_cons, List.mem_append]; exact Or.inr (Or.inl (Or.inl hx)))).then (k2.more (by simp [footB]))
  · rcases List.mem_cons.1 hx with e | e
    · exact Or.inl (by simp [footB, e])
    · rcases List.mem_append.1 e with e | e
      · rcases List.mem_append.1 e with e | e
        · rcases hv x (by simpa using e) with e | e
          · exact Or.inl (by simp [footB, e])
          · exact Or.inr (by omega)
        · exact Or.inl (by simp only [footB, List.mem_cons, List.mem_append]; exact Or.inr (Or.inl (Or.inr e)))
      · exact Or.inl (by simp only [footB, List.mem_cons, List.mem_append]; exact Or.inr (Or.inr e))
theorem BkS.pushO (P : BkS W B bb vb vo D SD L1 L2 a turn done used) {o : Obj} {u v' : Value} {W2 : World} (h2 : W2.ownsRow B 3 1 v' (L2 ++ [u]).length (L2 ++ [u])) (k : Kept vo.ownBlock.toList (W.alloc o) W2) (hat : v'.ownBlock = vo.ownBlock ∨ v'.ownBlock = some (W.alloc o).heap.size) :
    BkS (W2.setCell ⟨bb, 1, none⟩ v') B bb vb v' D SD L1 (L2 ++ [u]) a turn done used ∧ Kept (footB bb vb vo SD) W (W2.setCell ⟨bb, 1, none⟩ v') ∧ (∀ x, x ∈ footB bb vb v' SD → x ∈ footB bb vb vo SD ∨ W.heap.size ≤ x) := by
  have hl := P.lt
  have hbb := (hl bb (by simp [footB])).2
  rw [World.size_alloc] at hat
  have k1 : Kept vo.ownBlock.toList W W2 := (((Kept.refl [] W).alloc o).more (by simp)).then k
  have k2 : Kept [bb] W2 (W2.setCell ⟨bb, 1, none⟩ v') := (Kept.refl [bb] W2).setCell (p := ⟨bb, 1, none⟩) (Or.inl (by simp)) _
  have hv : ∀ g, v'.ownBlock = some g → vo.ownBlock = some g ∨ W.heap.size ≤ g := fun g hg => by
    rcases hat with e | e
    · left; rw [← e]; exact hg
    · right; rw [e] at hg; injection hg with h; omega
  have hn : ∀ g, v'.ownBlock = some g → g ≠ bb := fun g hg => by
    rcases hv g hg with e | e
    · exact P.ne2 g e
    · omega
  have hbx : W2.heap[bb]? = some (.cells (bookC vb vo a turn done used) 54 (0, 0)) := k1.heap P.box (fun e => P.ne2 bb (by simpa using e) rfl)
  refine ⟨⟨?_, owns_on (owns_on P.own k1 (fun g hg e => P.ne3 g hg (by simpa using e))) k2 (fun g hg => by simpa using P.ne1 g hg), owns_on h2 k2 (fun g hg => by simpa using hn g hg), (P.blk.kept k1 (fun x hx e => P.n3 x (by simpa using e) hx)).kept k2 (fun x hx e => P.n1 (by rw [← List.mem_singleton.1 e]; exact hx)), P.low, P.n1, P.n2, fun g hg => ?_⟩, ?_, fun x hx => ?_⟩
  · have h := heap_setCell_same W2 bb 1 _ _ v' hbx
    exact h
  · rcases hv g hg with e | e
    · exact P.n3 g e
    · intro h
      have := (P.blk.rng g h).2
      omega
  · exact (k1.more (fun x hx => by simp only [footB, List.mem_cons, List.mem_append]; exact Or.inr (Or.inl (Or.inr hx)))).then (k2.more (by simp [footB]))
  · rcases List.mem_cons.1 hx with e | e
    · exact Or.inl (by simp [footB, e])
    · rcases List.mem_append.1 e with e | e
      · rcases List.mem_append.1 e with e | e
        · exact Or.inl (by simp only [footB, List.mem_cons, List.mem_append]; exact Or.inr (Or.inl (Or.inl e)))
        · rcases hv x (by simpa using e) with e | e
          · exact Or.inl (by simp [footB, e])
          · exact Or.inr (by omega)
      · exact Or.inl (by simp only [footB, List.mem_cons, List.mem_append]; exact Or.inr (Or.inr e))
/-- A list that is marked goes into the book's blocks. -/
theorem BkS.take (P : BkS W B bb vb vo D SD L1 L2 a turn done used) {v : Value} {m : Int} {n : Nat} (hv : OwnB W B v (marks m n)) (hg : ∀ g, v.ownBlock = some g → g ∉ footB bb vb vo SD) :
    ∃ D' SD', BkS W B bb vb vo D' SD' L1 L2 a turn done used ∧ EntIn D' ⟨v, m, n⟩ ∧ (∀ x, EntIn D x → EntIn D' x) ∧ (∀ x, x ∈ footB bb vb vo SD' → x ∈ footB bb vb vo SD ∨ v.ownBlock = some x) := by
  rcases hv.2 with ⟨h1, h2⟩ | ⟨g, cap, cur, h1, h2, h3, h4, h5, h6, h7⟩
  · rw [marks_len] at h2
    exact ⟨D, SD, P, Or.inl ⟨h1, h2⟩, fun _ h => h, fun _ h => Or.inl h⟩
  · rw [marks_len] at h1 h4 h7
    rw [Nat.mul_one] at h6 h7
    have hgb : v.ownBlock = some g := by rw [h1]; rfl
    have hgf := hg g hgb
    have hng : ∀ y b, D y = some b → y ≠ g := fun y b hy e => hgf (by rw [← e]; simp [footB, P.blk.dom y b hy])
    have hcell : ∀ i, i < n → cur[i]? = some (.int .u8 (atM m i)) := fun i hi => by
      have e : (cur.toList.take n)[i]? = some (.int .u8 (atM m i)) := by rw [h7, List.getElem?_map, marks_get _ _ _ hi]; rfl
      rw [List.getElem?_take_of_lt hi, show cur.toList[i]? = cur[i]? from Array.getElem?_toList] at e
      exact e
    have hf : ∀ x, x ∈ footB bb vb vo SD → x ≠ g := fun x hx e => hgf (by rw [← e]; exact hx)
    refine ⟨upd D g ⟨m, n, cap⟩, g :: SD, ⟨P.box, P.own, P.owo, ⟨fun y b hy => ?_, fun y hy => ?_, fun y b hy => ?_⟩, P.low, fun e => ?_, fun y hy e => ?_, fun y hy e => ?_⟩, Or.inr ⟨g, cap, n, h1, upd_same _ _ _, Nat.le_refl _⟩, fun x hx => ?_, fun x hx => ?_⟩
    · by_cases e : y = g
      · simp [e]
      · rw [upd_other D _ e] at hy
        exact List.mem_cons_of_mem _ (P.blk.dom y b hy)
    · rcases List.mem_cons.1 hy with e | e
      · rw [e]; exact ⟨h2, lt_of_block h3⟩
      · exact P.blk.rng y e
    · by_cases e : y = g
      · rw [e, upd_same] at hy
        cases hy
        rw [e]
        exact ⟨cur, h3, h6, h4, h5, hcell⟩
      · rw [upd_other D _ e] at hy
        exact P.blk.row y b hy
    · rcases List.mem_cons.1 e with e | e
      · exact hf bb (by simp [footB]) e
      · exact P.n1 e
    · rcases List.mem_cons.1 e with e | e
      · exact hf y (by simp [footB, hy]) e
      · exact P.n2 y hy e
    · rcases List.mem_cons.1 e with e | e
      · exact hf y (by simp [footB, hy]) e
      · exact P.n3 y hy e
    · rcases hx with e | ⟨y, c, x', e1, e2, e3⟩
      · exact Or.inl e
      · exact Or.inr ⟨y, c, x', e1, by rw [upd_other D _ (hng y _ e2)]; exact e2, e3⟩
    · simp only [footB, List.mem_cons, List.mem_append] at hx ⊢
      rcases hx with e | e | e | e
      · exact Or.inl (Or.inl e)
      · exact Or.inl (Or.inr (Or.inl e))
      · exact Or.inr (by rw [e]; exact hgb)
      · exact Or.inl (Or.inr (Or.inr e))
end
end Go.Proofs.YtlljiipmkjjhhaaDoor
