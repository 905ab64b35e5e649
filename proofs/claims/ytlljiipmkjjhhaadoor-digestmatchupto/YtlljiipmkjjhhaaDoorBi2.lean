/-
  THE BOOK in memory where it holds lists of ids alone.
-/
import Derived.Test.YtlljiipmkjjhhaaDoorBi1
import Derived.Test.YtlljiipmkjjhhaaDoorBk2
namespace Go.Proofs.YtlljiipmkjjhhaaDoor
open Go.RowKit

/-- The Book's cells where it holds lists of ids alone. -/
def bookI (vb vo : Value) (a turn done used : Int) : Array Value := #[.slice none 0 0, .slice none 0 0, .int .i64 0, .slice none 0 0, .slice none 0 0, .int .i64 0, vb, vo, .int .i64 a, .slice none 0 0, .slice none 0 0, .int .i64 0, .slice none 0 0, .slice none 0 0, .int .i64 0, .slice none 0 0, .slice none 0 0, .int .i64 0, .slice none 0 0, .slice none 0 0, .int .i64 0, .slice none 0 0, .slice none 0 0, .int .i64 0, .slice none 0 0, .slice none 0 0, .int .i64 0, .slice none 0 0, .slice none 0 0, .int .i64 0, .slice none 0 0, .slice none 0 0, .int .i64 0, .int .i64 turn, .int .i64 done, .int .i64 used]
structure BkI (W : World) (B bb : Nat) (vb vo : Value) (D : Nat → Option MB) (SD : List Nat) (L1 L2 : List Value) (a turn done used : Int) : Prop where
  box : W.heap[bb]? = some (.cells (bookI vb vo a turn done used) 54 (0, 0))
  own : W.ownsRow B 22 1 vb L1.length L1
  owo : W.ownsRow B 3 1 vo L2.length L2
  blk : BlksI W B D SD
  low : B ≤ bb
  n1 : bb ∉ SD
  n2 : ∀ g, vb.ownBlock = some g → g ∉ SD
  n3 : ∀ g, vo.ownBlock = some g → g ∉ SD
section
variable {W W' : World} {B bb : Nat} {vb vo : Value} {D : Nat → Option MB} {SD : List Nat} {L1 L2 : List Value} {a turn done used : Int}
theorem BkI.on {T : List Nat} (P : BkI W B bb vb vo D SD L1 L2 a turn done used) (k : Kept T W W') (hd : ∀ x, x ∈ footB bb vb vo SD → x ∉ T) : BkI W' B bb vb vo D SD L1 L2 a turn done used :=
  ⟨k.heap P.box (hd bb (by simp [footB])), owns_on P.own k (fun b hb => hd b (by simp [footB, hb])), owns_on P.owo k (fun b hb => hd b (by simp [footB, hb])), P.blk.kept k (fun x hx => hd x (by simp [footB, hx])), P.low, P.n1, P.n2, P.n3⟩
theorem BkI.lt (P : BkI W B bb vb vo D SD L1 L2 a turn done used) : ∀ x, x ∈ footB bb vb vo SD → B ≤ x ∧ x < W.heap.size := by
  intro x hx
  rcases List.mem_cons.1 hx with e | e
  · rw [e]; exact ⟨P.low, lt_of_block P.box⟩
  · rcases List.mem_append.1 e with e | e
    · rcases List.mem_append.1 e with e | e
      · exact World.ownsRow.lt P.own x (by simpa using e)
      · exact World.ownsRow.lt P.owo x (by simpa using e)
    · exact P.blk.rng x e
theorem BkI.ne1 (P : BkI W B bb vb vo D SD L1 L2 a turn done used) : ∀ g, vb.ownBlock = some g → g ≠ bb := fun g hg e => by
  obtain ⟨cur, h⟩ := owns_row P.own hg
  rw [e, P.box] at h
  injection h with h
  injection h with _ h2 _
  exact absurd h2 (by decide)
theorem BkI.ne2 (P : BkI W B bb vb vo D SD L1 L2 a turn done used) : ∀ g, vo.ownBlock = some g → g ≠ bb := fun g hg e => by
  obtain ⟨cur, h⟩ := owns_row P.owo hg
  rw [e, P.box] at h
  injection h with h
  injection h with _ h2 _
  exact absurd h2 (by decide)
theorem BkI.ne3 (P : BkI W B bb vb vo D SD L1 L2 a turn done used) : ∀ g, vb.ownBlock = some g → vo.ownBlock ≠ some g := fun g hg e => by
  obtain ⟨cur, h⟩ := owns_row P.own hg
  obtain ⟨cur2, h2⟩ := owns_row P.owo e
  rw [h] at h2
  injection h2 with h2
  injection h2 with _ h3 _
  exact absurd h3 (by decide)
theorem BkI.num (P : BkI W B bb vb vo D SD L1 L2 a turn done used) (i : Nat) (v : Value) {a' turn' done' used' : Int} (hb : (bookI vb vo a turn done used).setIfInBounds i v = bookI vb vo a' turn' done' used') : BkI (W.setCell ⟨bb, i, none⟩ v) B bb vb vo D SD L1 L2 a' turn' done' used' := by
  have k : Kept [bb] W (W.setCell ⟨bb, i, none⟩ v) := (Kept.refl [bb] W).setCell (p := ⟨bb, i, none⟩) (Or.inl (by simp)) _
  refine ⟨?_, owns_on P.own k (fun g hg => by simpa using P.ne1 g hg), owns_on P.owo k (fun g hg => by simpa using P.ne2 g hg), P.blk.kept k (fun x hx e => P.n1 (by rw [← List.mem_singleton.1 e]; exact hx)), P.low, P.n1, P.n2, P.n3⟩
  have h := heap_setCell_same W bb i _ _ v P.box
  rw [hb] at h
  exact h
theorem BkI.pushB (P : BkI W B bb vb vo D SD L1 L2 a turn done used) {o : Obj} {u v' : Value} {W2 : World} (h2 : W2.ownsRow B 22 1 v' (L1 ++ [u]).length (L1 ++ [u])) (k : Kept vb.ownBlock.toList (W.alloc o) W2) (hat : v'.ownBlock = vb.ownBlock ∨ v'.ownBlock = some (W.alloc o).heap.size) :
    BkI (W2.setCell ⟨bb, 6, none⟩ v') B bb v' vo D SD (L1 ++ [u]) L2 a turn done used ∧ Kept (footB bb vb vo SD) W (W2.setCell ⟨bb, 6, none⟩ v') ∧ (∀ x, x ∈ footB bb v' vo SD → x ∈ footB bb vb vo SD ∨ W.heap.size ≤ x) := by
  have hl := P.lt
  have hbb := (hl bb (by simp [footB])).2
  rw [World.size_alloc] at hat
  have k1 : Kept vb.ownBlock.toList W W2 := (((Kept.refl [] W).alloc o).more (by simp)).then k
  have k2 : Kept [bb] W2 (W2.setCell ⟨bb, 6, none⟩ v') := (Kept.refl [bb] W2).setCell (p := ⟨bb, 6, none⟩) (Or.inl (by simp)) _
  have hv : ∀ g, v'.ownBlock = some g → vb.ownBlock = some g ∨ W.heap.size ≤ g := fun g hg => by
    rcases hat with e | e
    · left; rw [← e]; exact hg
    · right; rw [e] at hg; injection hg with h; omega
  have hn : ∀ g, v'.ownBlock = some g → g ≠ bb := fun g hg => by
    rcases hv g hg with e | e
    · exact P.ne1 g e
    · omega
  have hbx : W2.heap[bb]? = some (.cells (bookI vb vo a turn done used) 54 (0, 0)) := k1.heap P.box (fun e => P.ne1 bb (by simpa using e) rfl)
  refine ⟨⟨?_, owns_on h2 k2 (fun g hg => by simpa using hn g hg), owns_on (owns_on P.owo k1 (fun g hg e => P.ne3 g (by simpa using e) hg)) k2 (fun g hg => by simpa using P.ne2 g hg), (P.blk.kept k1 (fun x hx e => P.n2 x (by simpa using e) hx)).kept k2 (fun x hx e => P.n1 (by rw [← List.mem_singleton.1 e]; exact hx)), P.low, P.n1, fun g hg => ?_, P.n3⟩, ?_, fun x hx => ?_⟩
  · have h := heap_setCell_same W2 bb 6 _ _ v' hbx
    exact h
  · rcases hv g hg with e | e
    · exact P.n2 g e
    · intro h
      have := (P.blk.rng g h).2
      omega
  · exact (k1.more (fun x hx => by simp only [footB, List.mem_cons, List.mem_append]; exact Or.inr (Or.inl (Or.inl hx)))).then (k2.more (by simp [footB]))
  · rcases List.mem_cons.1 hx with e | e
    · exact Or.inl (by simp [footB, e])
    · rcases List.mem_append.1 e with e | e
      · rcases List.mem_append.1 e with e | e
        · rcases hv x (by simpa using e) with e | e
          · exact Or.inl (by simp [footB, e])
          · exact Or.inr (by omega)
        · exact Or.inl (by simp only [footB, List.mem_cons, List.mem_append]; exact Or.inr (Or.inl (Or.inr e)))
      · exact Or.inl (by simp only [footB, List.mem_cons, List.mem_append]; exact Or.inr (Or.inr e))
theorem BkI.pushO (P : BkI W B bb vb vo D SD L1 L2 a turn done used) {o : Obj} {u v' : Value} {W2 : World} (h2 : W2.ownsRow B 3 1 v' (L2 ++ [u]).length (L2 ++ [u])) (k : Kept vo.ownBlock.toList (W.alloc o) W2) (hat : v'.ownBlock = vo.ownBlock ∨ v'.ownBlock = some (W.alloc o).heap.size) :
    BkI (W2.setCell ⟨bb, 7, none⟩ v') B bb vb v' D SD L1 (L2 ++ [u]) a turn done used ∧ Kept (footB bb vb vo SD) W (W2.setCell ⟨bb, 7, none⟩ v') ∧ (∀ x, x ∈ footB bb vb v' SD → x ∈ footB bb vb vo SD ∨ W.heap.size ≤ x) := by
  have hl := P.lt
  have hbb := (hl bb (by simp [footB])).2
  rw [World.size_alloc] at hat
  have k1 : Kept vo.ownBlock.toList W W2 := (((Kept.refl [] W).alloc o).more (by simp)).then k
  have k2 : Kept [bb] W2 (W2.setCell ⟨bb, 7, none⟩ v') := (Kept.refl [bb] W2).setCell (p := ⟨bb, 7, none⟩) (Or.inl (by simp)) _
  have hv : ∀ g, v'.ownBlock = some g → vo.ownBlock = some g ∨ W.heap.size ≤ g := fun g hg => by
    rcases hat with e | e
    · left; rw [← e]; exact hg
    · right; rw [e] at hg; injection hg with h; omega
  have hn : ∀ g, v'.ownBlock = some g → g ≠ bb := fun g hg => by
    rcases hv g hg with e | e
    · exact P.ne2 g e
    · omega
  have hbx : W2.heap[bb]? = some (.cells (bookI vb vo a turn done used) 54 (0, 0)) := k1.heap P.box (fun e => P.ne2 bb (by simpa using e) rfl)
  refine ⟨⟨?_, owns_on (owns_on P.own k1 (fun g hg e => P.ne3 g hg (by simpa using e))) k2 (fun g hg => by simpa using P.ne1 g hg), owns_on h2 k2 (fun g hg => by simpa using hn g hg), (P.blk.kept k1 (fun x hx e => P.n3 x (by simpa using e) hx)).kept k2 (fun x hx e => P.n1 (by rw [← List.mem_singleton.1 e]; exact hx)), P.low, P.n1, P.n2, fun g hg => ?_⟩, ?_, fun x hx => ?_⟩
  · have h := heap_setCell_same W2 bb 7 _ _ v' hbx
    exact h
  · rcases hv g hg with e | e
    · exact P.n3 g e
    · intro h
      have := (P.blk.rng g h).2
      omega
  · exact (k1.more (fun x hx => by simp only [footB, List.mem_cons, List.mem_append]; exact Or.inr (Or.inl (Or.inr hx)))).then (k2.more (by simp [footB]))
  · rcases List.mem_cons.1 hx with e | e
    · exact Or.inl (by simp [footB, e])
    · rcases List.mem_append.1 e with e | e
      · rcases List.mem_append.1 e with e | e
        · exact Or.inl (by simp only [footB, List.mem_cons, List.mem_append]; exact Or.inr (Or.inl (Or.inl e)))
        · rcases hv x (by simpa using e) with e | e
          · exact Or.inl (by simp [footB, e])
          · exact Or.inr (by omega)
      · exact Or.inl (by simp only [footB, List.mem_cons, List.mem_append]; exact Or.inr (Or.inr e))
/-- A list that is marked, in a block of its own. -/
def MarkedI (W : World) (B : Nat) (v : Value) (m : Int) (n : Nat) : Prop := (v = .slice none 0 0 ∧ n = 0) ∨ ∃ g cap, v = .slice (some ⟨g, 0, none⟩) n cap ∧ B ≤ g ∧ IdIn W g cap (List.replicate n (idM m))
/-- It goes into the book's blocks. -/
theorem BkI.take (P : BkI W B bb vb vo D SD L1 L2 a turn done used) {v : Value} {m : Int} {n : Nat} (hv : MarkedI W B v m n) (hn : n ≤ 1000000000000) (hg : ∀ g, v.ownBlock = some g → g ∉ footB bb vb vo SD) :
    ∃ D' SD', BkI W B bb vb vo D' SD' L1 L2 a turn done used ∧ EntIn D' ⟨v, m, n⟩ ∧ (∀ x, EntIn D x → EntIn D' x) ∧ (∀ x, x ∈ footB bb vb vo SD' → x ∈ footB bb vb vo SD ∨ v.ownBlock = some x) := by
  rcases hv with ⟨h1, h2⟩ | ⟨g, cap, h1, h2, h3⟩
  · exact ⟨D, SD, P, Or.inl ⟨h1, h2⟩, fun _ h => h, fun _ h => Or.inl h⟩
  · have hgb : v.ownBlock = some g := by rw [h1]; rfl
    have hgf := hg g hgb
    have hng : ∀ y b, D y = some b → y ≠ g := fun y b hy e => hgf (by rw [← e]; simp [footB, P.blk.dom y b hy])
    have hf : ∀ x, x ∈ footB bb vb vo SD → x ≠ g := fun x hx e => hgf (by rw [← e]; exact hx)
    refine ⟨upd D g ⟨m, n, cap⟩, g :: SD, ⟨P.box, P.own, P.owo, ⟨fun y b hy => ?_, fun y hy => ?_, fun y b hy => ?_⟩, P.low, fun e => ?_, fun y hy e => ?_, fun y hy e => ?_⟩, Or.inr ⟨g, cap, n, h1, upd_same _ _ _, Nat.le_refl _⟩, fun x hx => ?_, fun x hx => ?_⟩
    · by_cases e : y = g
      · simp [e]
      · rw [upd_other D _ e] at hy
        exact List.mem_cons_of_mem _ (P.blk.dom y b hy)
    · rcases List.mem_cons.1 hy with e | e
      · rw [e]; exact ⟨h2, h3.lt⟩
      · exact P.blk.rng y e
    · by_cases e : y = g
      · rw [e, upd_same] at hy
        cases hy
        rw [e]
        exact ⟨h3, hn⟩
      · rw [upd_other D _ e] at hy
        exact P.blk.row y b hy
    · rcases List.mem_cons.1 e with e | e
      · exact hf bb (by simp [footB]) e
      · exact P.n1 e
    · rcases List.mem_cons.1 e with e | e
      · exact hf y (by simp [footB, hy]) e
      · exact P.n2 y hy e
    · rcases List.mem_cons.1 e with e | e
      · exact hf y (by simp [footB, hy]) e
      · exact P.n3 y hy e
    · rcases hx with e | ⟨y, c, x', e1, e2, e3⟩
      · exact Or.inl e
      · exact Or.inr ⟨y, c, x', e1, by rw [upd_other D _ (hng y _ e2)]; exact e2, e3⟩
    · simp only [footB, List.mem_cons, List.mem_append] at hx ⊢
      rcases hx with e | e | e | e
      · exact Or.inl (Or.inl e)
      · exact Or.inl (Or.inr (Or.inl e))
      · exact Or.inr (by rw [e]; exact hgb)
      · exact Or.inl (Or.inr (Or.inr e))
end
end Go.Proofs.YtlljiipmkjjhhaaDoor
