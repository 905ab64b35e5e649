/-
  A BOXED LIST OF RULES that grows; strings.FieldsFuncSeq; what a range over words keeps.
-/
import Derived.Test.YtbdkalicgpdbkaaDoorRr8
import Derived.Test.YtbdkalicgpdbkaaDoorRr13
import Derived.Test.YtbdkalicgpdbkaaDoorRr15
import Derived.Test.YtbdkalicgpdbkaaDoorFnA
import Derived.Test.YtbdkalicgpdbkaaDoorRgN
namespace Go.Proofs.YtbdkalicgpdbkaaDoor
open Go.RowKit Go.Shelf

/-- The box in block bx holds a list of rules of one's own, from block B on. -/
structure RuleBox (W : World) (B bx : Nat) (v : Value) (R : List RuleL) : Prop where
  box : W.heap[bx]? = some (.cells #[v] 22 (0, 0))
  own : RuleOwn W B v R
theorem RuleBox.on {W W' : World} {B bx : Nat} {v : Value} {R : List RuleL} (h : RuleBox W B bx v R) (k : Kept [] W W') : RuleBox W' B bx v R := ⟨k.heap h.box (by simp), ownsK_on h.own k (fun _ _ => by simp)⟩
theorem RuleBox.turns {W W' : World} {B B' bx : Nat} {v : Value} {R : List RuleL} {row : Option Nat} (h : RuleBox W B bx v R) (ht : TurnsNone B' W W' row) : RuleBox W' B bx v R := ⟨ht.cells h.box, ht.owns h.own⟩
theorem RuleBox.cell {W : World} {B bx : Nat} {v : Value} {R : List RuleL} (h : RuleBox W B bx v R) : W.cell? ⟨bx, 0, none⟩ = some v := by rw [cell_of_row _ _ _ _ _ _ h.box]; rfl
theorem RuleOwn.blk {W : World} {B : Nat} {v : Value} {R : List RuleL} (h : RuleOwn W B v R) {g : Nat} (hg : v.ownBlock = some g) : B ≤ g ∧ ∃ c, W.heap[g]? = some (.cells c 37 (0, 0)) := by
  obtain ⟨_, ⟨hv, _⟩ | ⟨g', _, c, hv, hB, hc, _⟩⟩ := h
  · rw [hv] at hg
    cases hg
  · rw [hv] at hg
    cases hg
    exact ⟨hB, c, hc⟩
/-- One more is laid behind the others, and the box is set. -/
theorem RuleBox.push {W W5 w6 : World} {B bx : Nat} {v v6 : Value} {R R' : List RuleL} (h : RuleBox W B bx v R) (hB : bx < B) (k5 : Kept [] W W5) (hown : RuleOwn w6 B v6 R') (k6 : Kept v.ownBlock.toList W5 w6) :
    w6.cell? ⟨bx, 0, none⟩ = some v ∧ w6.frozen? ⟨bx, 0, none⟩ = false ∧ RuleBox (w6.setCell ⟨bx, 0, none⟩ v6) B bx v6 R' ∧
      ∃ S, Kept S W (w6.setCell ⟨bx, 0, none⟩ v6) ∧ (∀ y, y ∈ S → y = bx ∨ B ≤ y) ∧ ∀ y, y ∈ S → ∃ c t fr, W.heap[y]? = some (.cells c t fr) := by
  have hS : ∀ y, y ∈ v.ownBlock.toList → B ≤ y ∧ ∃ c, W.heap[y]? = some (.cells c 37 (0, 0)) := fun y hy => h.own.blk (by simpa using hy)
  have hbS : bx ∉ v.ownBlock.toList := fun hm => by have := (hS bx hm).1; omega
  have hbox6 : w6.heap[bx]? = some (.cells #[v] 22 (0, 0)) := k6.heap (k5.heap h.box (by simp)) hbS
  have k7 : Kept [bx] w6 (w6.setCell ⟨bx, 0, none⟩ v6) := (Kept.refl _ _).setCell (p := ⟨bx, 0, none⟩) (Or.inl (by simp)) _
  refine ⟨by rw [cell_of_row _ _ _ _ _ _ hbox6]; rfl, frozen_of_row _ _ _ _ _ hbox6, ⟨set_box hbox6 _, ?_⟩, bx :: v.ownBlock.toList, ((k5.more (by simp)).trans k6 (fun y hy => Or.inl (by simp [hy]))).trans k7 (fun y hy => Or.inl (by simp at hy; simp [hy])), fun y hy => ?_, fun y hy => ?_⟩
  · exact ownsK_on hown k7 (fun q hq => by
      have h1 := (hown.blk hq).1
      simp
      omega)
  · rcases List.mem_cons.1 hy with rfl | hy
    · exact .inl rfl
    · exact .inr (hS y hy).1
  · rcases List.mem_cons.1 hy with rfl | hy
    · exact ⟨_, _, _, h.box⟩
    · obtain ⟨c, hc⟩ := (hS y hy).2
      exact ⟨_, _, _, hc⟩
/-- strings.FieldsFuncSeq: two boxes. -/
theorem Fields_any (S : ByteArray) (w : World) : Calls Tryd.prog 30 #[.string S, .func (.func 31) #[] #[]] w fun e w' => e = .returned (.func (.func 47) #[] #[.pointer (some ⟨w.heap.size, 0, none⟩), .pointer (some ⟨w.heap.size + 1, 0, none⟩)]) ∧ w' = (w.alloc (.cells #[.string S] 9)).alloc (.cells #[.func (.func 31) #[] #[]] 60) := by
  go_enter Tryd.func30, Tryd.ntmps30
  go_wp2
  go_ret
  exact ⟨rfl, rfl⟩
theorem mapM_bad : ∀ {L : List (List Int)} {p : List Int}, p ∈ L → readL p = none → L.mapM readL = none
  | [], _, h, _ => by cases h
  | q :: L, p, h, hp => by
    rw [List.mapM_cons]
    rcases List.mem_cons.1 h with rfl | h
    · rw [hp]
      rfl
    · rw [mapM_bad h hp]
      cases readL q <;> rfl
theorem mapM_len : ∀ {L : List (List Int)} {R : List RuleL}, L.mapM readL = some R → R.length = L.length
  | [], R, h => by
    injection h with h
    subst h
    rfl
  | q :: L, R, h => by
    rw [List.mapM_cons] at h
    cases hq : readL q with
    | none => rw [hq] at h; cases h
    | some r =>
      rw [hq] at h
      cases hL : L.mapM readL with
      | none => rw [hL] at h; cases h
      | some T =>
        rw [hL] at h
        injection h with h
        subst h
        rw [List.length_cons, List.length_cons, mapM_len hL]
/-- Words of which one is no rule, or that are too many. -/
def BadW (pre : List (List Int)) : Prop := (∃ p, p ∈ pre ∧ readL p = none) ∨ 64 < pre.length
theorem BadW.none {xs : List Int} {k : Nat} (h : BadW ((wordsL [] xs).take k)) : parseL xs = none := by
  unfold parseL
  rcases h with ⟨p, hp, hr⟩ | h
  · rw [mapM_bad (List.mem_of_mem_take hp) hr]
  · cases hL : (wordsL [] xs).mapM readL with
    | none => rfl
    | some R =>
      have h1 := mapM_len hL
      simp at h
      show (if R.length ≤ 64 then some R else Option.none) = Option.none
      rw [if_neg (by omega)]
theorem parse_all {xs : List Int} {R : List RuleL} (h : (wordsL [] xs).mapM readL = some R) (hn : R.length ≤ 64) : parseL xs = some R := by
  unfold parseL
  rw [h]
  show (if R.length ≤ 64 then some R else Option.none) = some R
  rw [if_pos hn]
/-- What stands between two rounds of refs.ParseRules. -/
structure PrI (w : World) (B : Nat) (pre : List (List Int)) (v : Value) (R : List RuleL) (W : World) : Prop where
  box : RuleBox W B (w.heap.size + 1 + 1) v R
  out : W.heap[w.heap.size]? = some (.cells #[.slice none 0 0] 22 (0, 0))
  num : W.heap[w.heap.size + 1]? = some (.cells #[.int .i64 0] 33 (0, 0))
  kept : Kept [] w W
  size : B ≤ W.heap.size
  read : pre.mapM readL = some R
  few : R.length ≤ 64
theorem PrI.on {w W W' : World} {B : Nat} {pre : List (List Int)} {v : Value} {R : List RuleL} (h : PrI w B pre v R W) (k : Kept [] W W') : PrI w B pre v R W' :=
  ⟨h.box.on k, k.heap h.out (by simp), k.heap h.num (by simp), h.kept.then k, Nat.le_trans h.size k.size, h.read, h.few⟩
theorem PrI.turns {w W W' : World} {B B' : Nat} {pre : List (List Int)} {v : Value} {R : List RuleL} {row : Option Nat} (h : PrI w B pre v R W) (ht : TurnsNone B' W W' row) (hB : w.heap.size ≤ B') : PrI w B pre v R W' :=
  ⟨h.box.turns ht, ht.cells h.out, ht.cells h.num, ht.kept h.kept hB, Nat.le_trans h.size ht.1.size, h.read, h.few⟩
/-- What stands there when a word was bad. -/
structure PrX (w W : World) : Prop where
  out : W.heap[w.heap.size]? = some (.cells #[.slice none 0 0] 22 (0, 0))
  num : W.heap[w.heap.size + 1]? = some (.cells #[.int .i64 141] 33 (0, 0))
  kept : Kept [] w W
theorem PrX.turns {w W W' : World} {B' : Nat} {row : Option Nat} (h : PrX w W) (ht : TurnsNone B' W W' row) (hB : w.heap.size ≤ B') : PrX w W' := ⟨ht.cells h.out, ht.cells h.num, ht.kept h.kept hB⟩
/-- A bad word: the answer is set. -/
theorem PrI.spoil {w W W3 : World} {B : Nat} {pre : List (List Int)} {v : Value} {R : List RuleL} (hI : PrI w B pre v R W) (k : Kept [] W W3) (b : Nat) :
    KeepsFrom b W ((W3.setCell ⟨w.heap.size, 0, none⟩ (.slice none 0 0)).setCell ⟨w.heap.size + 1, 0, none⟩ (.int .i64 141)) ∧ PrX w ((W3.setCell ⟨w.heap.size, 0, none⟩ (.slice none 0 0)).setCell ⟨w.heap.size + 1, 0, none⟩ (.int .i64 141)) := by
  have h3 := hI.on k
  have kA : Kept [w.heap.size] W3 (W3.setCell ⟨w.heap.size, 0, none⟩ (.slice none 0 0)) := kept_setBox _ _ _
  have kB : Kept [w.heap.size + 1] (W3.setCell ⟨w.heap.size, 0, none⟩ (.slice none 0 0)) ((W3.setCell ⟨w.heap.size, 0, none⟩ (.slice none 0 0)).setCell ⟨w.heap.size + 1, 0, none⟩ (.int .i64 141)) := kept_setBox _ _ _
  have kAll : Kept [w.heap.size, w.heap.size + 1] W ((W3.setCell ⟨w.heap.size, 0, none⟩ (.slice none 0 0)).setCell ⟨w.heap.size + 1, 0, none⟩ (.int .i64 141)) := ((k.more (by simp)).trans kA (fun y hy => Or.inl (by simp at hy; simp [hy]))).trans kB (fun y hy => Or.inl (by simp at hy; simp [hy]))
  refine ⟨kAll.others (fun y hy => ?_) b, ⟨kB.heap (set_box h3.out _) (by simp), set_box (kA.heap h3.num (by simp)) _, kept_box (kept_box h3.kept kA (Nat.le_refl _)) kB (by omega)⟩⟩
  simp at hy
  rcases hy with rfl | rfl
  · exact ⟨_, _, _, hI.out⟩
  · exact ⟨_, _, _, hI.num⟩
/-- A good word: one more rule. -/
theorem PrI.next {w W W4 w6 : World} {B : Nat} {pre : List (List Int)} {v v6 : Value} {R : List RuleL} {x : List Int} {r : RuleL} (hI : PrI w B pre v R W) (hB : w.heap.size + 5 ≤ B) (k : Kept [] W W4) (hr : readL x = some r) (hlt : R.length < 64)
    (hown : RuleOwn w6 B v6 (R ++ [r])) (k6 : Kept v.ownBlock.toList W4 w6) :
    w6.cell? ⟨w.heap.size + 1 + 1, 0, none⟩ = some v ∧ w6.frozen? ⟨w.heap.size + 1 + 1, 0, none⟩ = false ∧ PrI w B (pre ++ [x]) v6 (R ++ [r]) (w6.setCell ⟨w.heap.size + 1 + 1, 0, none⟩ v6) ∧
      (∀ b, KeepsFrom b W (w6.setCell ⟨w.heap.size + 1 + 1, 0, none⟩ v6)) ∧ ∀ s, w.heap.size + 2 < s → s < B → (w6.setCell ⟨w.heap.size + 1 + 1, 0, none⟩ v6).heap[s]? = W.heap[s]? := by
  obtain ⟨h1, h2, h3, S, kS, hS1, hS2⟩ := hI.box.push (by omega) k hown k6
  refine ⟨h1, h2, ⟨h3, kS.heap hI.out (fun hm => ?_), kS.heap hI.num (fun hm => ?_), hI.kept.trans kS (fun y hy => Or.inr ?_), Nat.le_trans hI.size kS.size, ?_, by simp; omega⟩, fun b => kS.others hS2 b, fun s hs1 hs2 => kS.block s (Nat.lt_of_lt_of_le hs2 hI.size) (fun hm => ?_)⟩
  · rcases hS1 _ hm with e | e <;> omega
  · rcases hS1 _ hm with e | e <;> omega
  · rcases hS1 _ hy with e | e <;> omega
  · rw [mapM_snoc, hI.read, hr]
  · rcases hS1 _ hm with e | e <;> omega
end Go.Proofs.YtbdkalicgpdbkaaDoor
