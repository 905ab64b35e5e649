/-
  LATE of satchellaw1 in memory; WALK: (*satchellaw1.Late).Add.
-/
import Derived.Test.YtldhbcppnoldiaaBk5
import Derived.Test.YtldhbcppnoldiaaFixB
import Derived.Deep.RegionLaw
namespace Go.Proofs.Ytldhbcppnoldiaa
open Go.RowKit

/-- An answer that waits: it, a copy of what it must hold, and that. -/
structure LEnt where
  got : Value
  want : Value
  ys : List Int
def LEnt.blks (x : LEnt) : List Nat := x.got.ownBlock.toList ++ x.want.ownBlock.toList
structure LaS (W : World) (B lb : Nat) (vg vw : Value) (L1 L2 : List Value) (gs : List LEnt) : Prop where
  box : W.heap[lb]? = some (.cells #[vg, vw, .slice none 0 0, .slice none 0 0] 52 (0, 0))
  own : W.ownsRow B 22 1 vg L1.length L1
  owo : W.ownsRow B 22 1 vw L2.length L2
  low : B ≤ lb
  ne : ∀ g, vg.ownBlock = some g → vw.ownBlock ≠ some g
  got : ∀ x, x ∈ gs → OwnB W B x.got x.ys
  wnt : ∀ x, x ∈ gs → BytesAt W x.want x.ys
  bl : ∀ x, x ∈ gs → ∀ b, b ∈ x.blks → b ≠ lb ∧ vg.ownBlock ≠ some b ∧ vw.ownBlock ≠ some b ∧ B ≤ b ∧ b < W.heap.size
  len : ∀ x, x ∈ gs → x.ys.length ≤ 100000000000
  pw : gs.Pairwise (fun x y => ∀ g, x.got.ownBlock = some g → y.got.ownBlock ≠ some g)
def footL (lb : Nat) (vg vw : Value) (gs : List LEnt) : List Nat := lb :: (vg.ownBlock.toList ++ vw.ownBlock.toList ++ gs.flatMap LEnt.blks)
theorem own_blk_eq (v : Value) : blkOf v = v.ownBlock := by cases v <;> rfl

section
variable {W W' : World} {B lb : Nat} {vg vw : Value} {L1 L2 : List Value} {gs : List LEnt}
theorem LaS.on {T : List Nat} (P : LaS W B lb vg vw L1 L2 gs) (k : Kept T W W') (hd : ∀ x, x ∈ footL lb vg vw gs → x ∉ T) : LaS W' B lb vg vw L1 L2 gs := by
  have hb : ∀ x, x ∈ gs → ∀ b, b ∈ x.blks → b ∉ T := fun x hx b hb => hd b (by simp only [footL, List.mem_cons, List.mem_append, List.mem_flatMap]; exact Or.inr (Or.inr ⟨x, hx, hb⟩))
  exact ⟨k.heap P.box (hd lb (by simp [footL])), owns_on P.own k (fun b h => hd b (by simp [footL, h])), owns_on P.owo k (fun b h => hd b (by simp [footL, h])), P.low, P.ne,
    fun x hx => OwnB.kept (P.got x hx) k (fun b h => hb x hx b (by simp [LEnt.blks, h])), fun x hx => (P.wnt x hx).kept k (fun b h => hb x hx b (by rw [own_blk_eq] at h; simp [LEnt.blks, h])),
    fun x hx b h => ⟨(P.bl x hx b h).1, (P.bl x hx b h).2.1, (P.bl x hx b h).2.2.1, (P.bl x hx b h).2.2.2.1, Nat.lt_of_lt_of_le (P.bl x hx b h).2.2.2.2 k.size⟩, P.len, P.pw⟩
theorem LaS.lt (P : LaS W B lb vg vw L1 L2 gs) : ∀ x, x ∈ footL lb vg vw gs → B ≤ x ∧ x < W.heap.size := by
  intro x hx
  simp only [footL, List.mem_cons, List.mem_append, List.mem_flatMap] at hx
  rcases hx with e | (e | e) | ⟨y, hy, e⟩
  · rw [e]; exact ⟨P.low, lt_of_block P.box⟩
  · exact World.ownsRow.lt P.own x (by simpa using e)
  · exact World.ownsRow.lt P.owo x (by simpa using e)
  · exact (P.bl y hy x e).2.2.2
theorem LaS.ne1 (P : LaS W B lb vg vw L1 L2 gs) : ∀ g, vg.ownBlock = some g → g ≠ lb := fun g hg e => by
  obtain ⟨cur, h⟩ := owns_row P.own hg
  rw [e, P.box] at h
  injection h with h
  injection h with _ h2 _
  exact absurd h2 (by decide)
theorem LaS.ne2 (P : LaS W B lb vg vw L1 L2 gs) : ∀ g, vw.ownBlock = some g → g ≠ lb := fun g hg e => by
  obtain ⟨cur, h⟩ := owns_row P.owo hg
  rw [e, P.box] at h
  injection h with h
  injection h with _ h2 _
  exact absurd h2 (by decide)
theorem LaS.cells (P : LaS W B lb vg vw L1 L2 gs) : W.cell? ⟨lb, 0, none⟩ = some vg ∧ W.cell? ⟨lb, 1, none⟩ = some vw ∧ W.cell? ⟨lb, 2, none⟩ = some (.slice none 0 0) ∧ W.cell? ⟨lb, 3, none⟩ = some (.slice none 0 0) ∧ ∀ o, W.frozen? ⟨lb, o, none⟩ = false := by
  obtain ⟨h1, h2, _⟩ := own_facts P.box
  exact ⟨h1 0, h1 1, h1 2, h1 3, h2⟩
/-- One of the two rows grows. -/
theorem LaS.push (P : LaS W B lb vg vw L1 L2 gs) {o : Obj} {i : Nat} {vg' vw' v v' : Value} {L1' L2' : List Value} {W2 : World} (hv : v = vg ∨ v = vw) (k : Kept v.ownBlock.toList (W.alloc o) W2) (hat : v'.ownBlock = v.ownBlock ∨ v'.ownBlock = some (W.alloc o).heap.size)
    (hc : (#[vg, vw, .slice none 0 0, .slice none 0 0] : Array Value).setIfInBounds i v' = #[vg', vw', .slice none 0 0, .slice none 0 0])
    (h1 : (v = vg ∧ vg' = v' ∧ vw' = vw ∧ W2.ownsRow B 22 1 v' L1'.length L1' ∧ L2' = L2) ∨ (v = vw ∧ vw' = v' ∧ vg' = vg ∧ W2.ownsRow B 22 1 v' L2'.length L2' ∧ L1' = L1)) :
    LaS (W2.setCell ⟨lb, i, none⟩ v') B lb vg' vw' L1' L2' gs ∧ Kept (footL lb vg vw gs) W (W2.setCell ⟨lb, i, none⟩ v') ∧ (∀ x, x ∈ footL lb vg' vw' gs → x ∈ footL lb vg vw gs ∨ W.heap.size ≤ x) := by
  have hl := P.lt
  have hlb := (hl lb (by simp [footL])).2
  rw [World.size_alloc] at hat
  have hvn : ∀ g, v.ownBlock = some g → g ≠ lb := fun g hg => by
    rcases hv with e | e
    · rw [e] at hg; exact P.ne1 g hg
    · rw [e] at hg; exact P.ne2 g hg
  have hvf : ∀ g, v.ownBlock = some g → g ∈ footL lb vg vw gs := fun g hg => by
    rcases hv with e | e
    · rw [e] at hg; simp [footL, hg]
    · rw [e] at hg; simp [footL, hg]
  have hve : ∀ x, x ∈ gs → ∀ b, b ∈ x.blks → v.ownBlock ≠ some b := fun x hx b hb => by
    rcases hv with e | e
    · rw [e]; exact (P.bl x hx b hb).2.1
    · rw [e]; exact (P.bl x hx b hb).2.2.1
  have k1 : Kept v.ownBlock.toList W W2 := (((Kept.refl [] W).alloc o).more (by simp)).then k
  have k2 : Kept [lb] W2 (W2.setCell ⟨lb, i, none⟩ v') := (Kept.refl [lb] W2).setCell (p := ⟨lb, i, none⟩) (Or.inl (by simp)) _
  have kk : Kept (footL lb vg vw gs) W (W2.setCell ⟨lb, i, none⟩ v') := (k1.more (fun x hx => hvf x (by simpa using hx))).then (k2.more (by simp [footL]))
  have hv' : ∀ g, v'.ownBlock = some g → v.ownBlock = some g ∨ W.heap.size ≤ g := fun g hg => by
    rcases hat with e | e
    · left; rw [← e]; exact hg
    · right; rw [e] at hg; injection hg with h; omega
  have hvn' : ∀ g, v'.ownBlock = some g → g ≠ lb := fun g hg => by
    rcases hv' g hg with e | e
    · exact hvn g e
    · omega
  have hbx : W2.heap[lb]? = some (.cells #[vg, vw, .slice none 0 0, .slice none 0 0] 52 (0, 0)) := k1.heap P.box (fun e => hvn lb (by simpa using e) rfl)
  have hbox : (W2.setCell ⟨lb, i, none⟩ v').heap[lb]? = some (.cells #[vg', vw', .slice none 0 0, .slice none 0 0] 52 (0, 0)) := by
    have h := heap_setCell_same W2 lb i _ _ v' hbx
    rw [hc] at h
    exact h
  have kT : Kept (lb :: v.ownBlock.toList) W (W2.setCell ⟨lb, i, none⟩ v') := (k1.more (fun x hx => List.mem_cons_of_mem _ hx)).then (k2.more (by simp))
  have hgot : ∀ x, x ∈ gs → OwnB (W2.setCell ⟨lb, i, none⟩ v') B x.got x.ys := fun x hx => OwnB.kept (P.got x hx) kT (fun b h e => by
    have hb : b ∈ x.blks := by simp [LEnt.blks, h]
    rcases List.mem_cons.1 e with e | e
    · exact (P.bl x hx b hb).1 e
    · exact hve x hx b hb (by simpa using e))
  have hwnt : ∀ x, x ∈ gs → BytesAt (W2.setCell ⟨lb, i, none⟩ v') x.want x.ys := fun x hx => (P.wnt x hx).kept kT (fun b h e => by
    rw [own_blk_eq] at h
    have hb : b ∈ x.blks := by simp [LEnt.blks, h]
    rcases List.mem_cons.1 e with e | e
    · exact (P.bl x hx b hb).1 e
    · exact hve x hx b hb (by simpa using e))
  have hble : ∀ x, x ∈ gs → ∀ b, b ∈ x.blks → v'.ownBlock ≠ some b := fun x hx b hb e => by
    rcases hv' b e with h | h
    · exact hve x hx b hb h
    · have := (P.bl x hx b hb).2.2.2.2; omega
  have hsz := kk.size
  rcases h1 with ⟨e1, e2, e3, e4, e5⟩ | ⟨e1, e2, e3, e4, e5⟩
  · subst e2 e3 e5 e1
    refine ⟨⟨hbox, owns_on e4 k2 (fun g hg => by simpa using hvn' g hg), owns_on (owns_on P.owo k1 (fun g hg e => P.ne g (by simpa using e) hg)) k2 (fun g hg => by simpa using P.ne2 g hg), P.low, fun g hg => ?_, hgot, hwnt, fun x hx b hb => ⟨(P.bl x hx b hb).1, hble x hx b hb, (P.bl x hx b hb).2.2.1, (P.bl x hx b hb).2.2.2.1, by have := (P.bl x hx b hb).2.2.2.2; omega⟩, P.len, P.pw⟩, kk, fun x hx => ?_⟩
    · rcases hv' g hg with h | h
      · exact P.ne g h
      · intro e; have := (hl g (by simp [footL, e])).2; omega
    · simp only [footL, List.mem_cons, List.mem_append] at hx ⊢
      rcases hx with h | (h | h) | h
      · exact Or.inl (Or.inl h)
      · rcases hv' x (by simpa using h) with h | h
        · exact Or.inl (Or.inr (Or.inl (Or.inl (by simpa using h))))
        · exact Or.inr h
      · exact Or.inl (Or.inr (Or.inl (Or.inr h)))
      · exact Or.inl (Or.inr (Or.inr h))
  · subst e2 e3 e5 e1
    refine ⟨⟨hbox, owns_on (owns_on P.own k1 (fun g hg e => P.ne g hg (by simpa using e))) k2 (fun g hg => by simpa using P.ne1 g hg), owns_on e4 k2 (fun g hg => by simpa using hvn' g hg), P.low, fun g hg e => ?_, hgot, hwnt, fun x hx b hb => ⟨(P.bl x hx b hb).1, (P.bl x hx b hb).2.1, hble x hx b hb, (P.bl x hx b hb).2.2.2.1, by have := (P.bl x hx b hb).2.2.2.2; omega⟩, P.len, P.pw⟩, kk, fun x hx => ?_⟩
    · rcases hv' g e with h | h
      · exact P.ne g hg h
      · have := (hl g (by simp [footL, hg])).2; omega
    · simp only [footL, List.mem_cons, List.mem_append] at hx ⊢
      rcases hx with h | (h | h) | h
      · exact Or.inl (Or.inl h)
      · exact Or.inl (Or.inr (Or.inl (Or.inl h)))
      · rcases hv' x (by simpa using h) with h | h
        · exact Or.inl (Or.inr (Or.inl (Or.inr (by simpa using h))))
        · exact Or.inr h
      · exact Or.inl (Or.inr (Or.inr h))
end
theorem step_append_1 {ops : Array Oper} {o : Oper} {a : Act} {w : World} {K : Act → World → Prop} {Q : Exit → Act → World → Prop} {E : Prop} (hgd : o.guard = none) (s x : Operand)
    (ho : o.op = .call { callee := .builtin .append, args := #[s, x], argTypes := #[36, 36] }) {B : Nat} {v : Value} {xs : List Value} (hs : a.eval s = v) (hown : w.ownsRow B 22 1 v xs.length xs)
    {q : Nat} {u : Value} (hx : a.eval x = .slice (some ⟨q, 0, none⟩) 1 1) (hc : w.cell? ⟨q, 0, none⟩ = some u) (hu : u.oneCell' = true) (hl : xs.length ≤ 1000000) (hB : B ≤ w.heap.size)
    (h : ∀ v' w', w'.ownsRow B 22 1 v' (xs ++ [u]).length (xs ++ [u]) → Kept v.ownBlock.toList w w' → (v'.ownBlock = v.ownBlock ∨ v'.ownBlock = some w.heap.size) → K (a.put o.dst v') w') : if Region.wanted o (yielded ops a.tmps) = true then Oper.wp Try.prog o a w K Q else E := by
  have hw : Region.wanted o (yielded ops a.tmps) = true := by simp [Region.wanted, hgd]
  rw [if_pos hw]
  obtain ⟨i0, hi, q0, q1, q2⟩ := info_three Try.info_bytes
  have hnews : ∀ j t, [u][j]? = some t → w.cell? ((⟨q, 0, none⟩ : Addr).add j) = some t := by
    intro j t ht
    cases j with
    | zero => simp only [List.getElem?_cons_zero, Option.some.injEq] at ht; subst ht; rw [Addr.add_mid]; exact hc
    | succ j => simp at ht
  obtain ⟨v', w', hr, h2, h3, _, h5⟩ := run_append_own_at (P := Try.prog) w B _ o.type _ i0 (.slice none 0 0) 1 24 Try.underlying36 hi q0 q1 q2 rfl (by decide) v xs.length xs hown ⟨q, 0, none⟩ 1 1 [u] rfl hnews (by simpa using hu) (by unfold maxLen; omega) (by omega) hB
  unfold Oper.wp execOp
  simp only [ho, resolve, invoke, builtin, Sem.run_bind, Sem.run_pure, Result.andThen_ok, List.map_toArray, List.map_cons, List.map_nil, hs, hx, hr]
  exact h v' w' (by rw [List.length_append]; exact h2) ((Kept.refl _ _).grown h3 fun k hk => Or.inl (by simp [hk])) h5
end Go.Proofs.Ytldhbcppnoldiaa
