/-
  What satchellaw1.CodeFresh keeps between its calls.
-/
import Derived.Test.YtmambfdfkobjgaaFr0
import Derived.Test.YtmambfdfkobjgaaCWa
import Derived.Test.YtmambfdfkobjgaaRdBy
import Derived.Test.YtmambfdfkobjgaaEyG3
namespace Go.Proofs.Ytmambfdfkobjgaa
open Go.RowKit

/-- All blocks that are none of the book's and of Late's. -/
def cfA (o r g eb : Nat) (F Xs Y : List Nat) : List Nat := o :: r :: g :: eb :: (F ++ (Xs ++ Y))
theorem cfA_sub {o r g eb : Nat} {F F' Xs Xs' Y Y' : List Nat} {P : Nat → Prop} (h1 : ∀ x, x ∈ F' → x ∈ F ∨ P x) (hX : ∀ x, x ∈ Xs' → x ∈ Xs ∨ P x) (h2 : ∀ x, x ∈ Y' → x ∈ Y ∨ P x) : ∀ x, x ∈ cfA o r g eb F' Xs' Y' → x ∈ cfA o r g eb F Xs Y ∨ P x := by
  intro x hx
  simp only [cfA, List.mem_cons, List.mem_append] at hx ⊢
  rcases hx with h | h | h | h | h | h | h
  · exact Or.inl (Or.inl h)
  · exact Or.inl (Or.inr (Or.inl h))
  · exact Or.inl (Or.inr (Or.inr (Or.inl h)))
  · exact Or.inl (Or.inr (Or.inr (Or.inr (Or.inl h))))
  · exact (h1 x h).imp (fun a => Or.inr (Or.inr (Or.inr (Or.inr (Or.inl a))))) id
  · exact (hX x h).imp (fun a => Or.inr (Or.inr (Or.inr (Or.inr (Or.inr (Or.inl a)))))) id
  · exact (h2 x h).imp (fun a => Or.inr (Or.inr (Or.inr (Or.inr (Or.inr (Or.inr a)))))) id
section
variable {o r g eb : Nat} {F Xs Y : List Nat}
theorem cfA_o : o ∈ cfA o r g eb F Xs Y := by simp [cfA]
theorem cfA_r : r ∈ cfA o r g eb F Xs Y := by simp [cfA]
theorem cfA_g : g ∈ cfA o r g eb F Xs Y := by simp [cfA]
theorem cfA_e : eb ∈ cfA o r g eb F Xs Y := by simp [cfA]
theorem cfA_F {x : Nat} (h : x ∈ F) : x ∈ cfA o r g eb F Xs Y := by simp [cfA, h]
theorem cfA_X {x : Nat} (h : x ∈ Xs) : x ∈ cfA o r g eb F Xs Y := by simp [cfA, h]
theorem cfA_Y {x : Nat} (h : x ∈ Y) : x ∈ cfA o r g eb F Xs Y := by simp [cfA, h]
theorem cfA_noY {x : Nat} (h : x ∈ cfA o r g eb F Xs []) : x ∈ cfA o r g eb F Xs Y := (cfA_sub (P := fun _ => False) (fun _ h => Or.inl h) (fun _ h => Or.inl h) (fun _ h => by simp at h) x h).elim id False.elim
end
/-- The script's box, the Writer with its list, the Reader, the document's own Reader, the book and Late: each in memory of its own. X: the box of the step at hand; Y: blocks that were handed out just now. -/
structure CF (w wr : World) (sc : Array Value) (bb lb wb r g eb : Nat) (ao : Option Addr) (cap : Nat) (v : Value) (zs xs : List Int) (S : List Nat) (pr fr pe fe T G : Nat) (X : List (Nat × Array Value)) (Y : List Nat) : Prop where
  sb : wr.heap[w.heap.size]? = some (.cells sc 26 (0, 0))
  duo : Duo wr wb (w.heap.size + 1) v zs S
  rd : Rdr wr r g xs pr fr
  eye : EyeG wr eb ao cap xs pe fe
  fr' : Fr w wr bb lb T G (cfA w.heap.size r g eb (foot v S) (X.map (·.1)) Y)
  n1 : r ∉ foot v S
  n2 : g ∉ foot v S
  n3 : eb ∉ foot v S
  n4 : r ≠ eb
  n5 : g ≠ eb
  n6 : w.heap.size < r
  n7 : w.heap.size < g
  n8 : w.heap.size < eb
  n9 : xs ≠ [] → ∀ k, blkOf (.slice ao xs.length cap) = some k → k < w.heap.size
  bx : ∀ p, p ∈ X → wr.heap[p.1]? = some (.cells p.2 55 (0, 0)) ∧ p.1 ∉ foot v S ∧ p.1 ≠ r ∧ p.1 ≠ eb
section
variable {w wr w' : World} {sc : Array Value} {bb lb wb r g eb : Nat} {ao : Option Addr} {cap : Nat} {v : Value} {zs xs : List Int} {S : List Nat} {pr fr pe fe T G : Nat} {X : List (Nat × Array Value)} {Y : List Nat}
theorem CF.kept (C : CF w wr sc bb lb wb r g eb ao cap v zs xs S pr fr pe fe T G X Y) : Kept [] w wr := C.fr'.kept
theorem CF.low (C : CF w wr sc bb lb wb r g eb ao cap v zs xs S pr fr pe fe T G X Y) : w.heap.size ∉ foot v S := fun h => by have := (C.duo.lt _ h).1; omega
theorem CF.on0 (C : CF w wr sc bb lb wb r g eb ao cap v zs xs S pr fr pe fe T G X Y) (k : Kept [] wr w') {Y' : List Nat} (hY : ∀ x, x ∈ Y' → x ∈ Y ∨ (wr.heap.size ≤ x ∧ x < w'.heap.size)) : CF w w' sc bb lb wb r g eb ao cap v zs xs S pr fr pe fe T G X Y' :=
  ⟨k.heap C.sb (by simp), C.duo.box k, C.rd.kept k (by simp) (by simp), C.eye.kept0 k, C.fr'.fresh k (cfA_sub (fun _ h => Or.inl h) (fun _ h => Or.inl h) hY), C.n1, C.n2, C.n3, C.n4, C.n5, C.n6, C.n7, C.n8, C.n9, fun p hp => ⟨k.heap (C.bx p hp).1 (by simp), (C.bx p hp).2⟩⟩
/-- The step's box is forgotten. -/
theorem CF.drop (C : CF w wr sc bb lb wb r g eb ao cap v zs xs S pr fr pe fe T G X Y) {T2 G2 : Nat} (hT : T ≤ T2) (hG : G ≤ G2) : CF w wr sc bb lb wb r g eb ao cap v zs xs S pr fr pe fe T2 G2 [] [] :=
  ⟨C.sb, C.duo, C.rd, C.eye, (C.fr'.fresh (Kept.refl _ _) (cfA_sub (fun _ h => Or.inl h) (fun _ h => by simp at h) (fun _ h => by simp at h))).mono hT hG, C.n1, C.n2, C.n3, C.n4, C.n5, C.n6, C.n7, C.n8, C.n9, fun p hp => by simp at hp⟩
/-- A step's box. -/
theorem CF.boxed (C : CF w wr sc bb lb wb r g eb ao cap v zs xs S pr fr pe fe T G [] []) (c : Array Value) : CF w (wr.alloc (.cells c 55)) sc bb lb wb r g eb ao cap v zs xs S pr fr pe fe T G [(wr.heap.size, c)] [] := by
  have k : Kept [] wr (wr.alloc (.cells c 55)) := (Kept.refl _ _).alloc _
  refine ⟨k.heap C.sb (by simp), C.duo.box k, C.rd.kept k (by simp) (by simp), C.eye.kept0 k, C.fr'.fresh k (cfA_sub (fun _ h => Or.inl h) (fun x h => Or.inr ?_) (fun _ h => Or.inl h)), C.n1, C.n2, C.n3, C.n4, C.n5, C.n6, C.n7, C.n8, C.n9, fun p hp => ?_⟩
  · simp at h
    subst h
    simp
  · obtain rfl := List.mem_singleton.1 hp
    have h1 := lt_of_block C.rd.blk
    have h2 := lt_of_block C.eye.blk
    exact ⟨heap_alloc_new _ _, fun e => by have := (C.duo.lt _ e).2; omega, by dsimp only; omega, by dsimp only; omega⟩
/-- A step of the Writer and its list. -/
theorem CF.wrote (C : CF w wr sc bb lb wb r g eb ao cap v zs xs S pr fr pe fe T G X Y) {v' : Value} {zs' : List Int} {S' : List Nat} (h : DuoTo wr w' wb (w.heap.size + 1) v S v' zs' S') : CF w w' sc bb lb wb r g eb ao cap v' zs' xs S' pr fr pe fe T G X Y := by
  have hr := lt_of_block C.rd.blk
  have hg := lt_of_block C.rd.row
  have he := lt_of_block C.eye.blk
  have hlt := C.duo.lt
  have hlt' := h.duo.lt
  have hn : ∀ x, x ∉ foot v S → x < wr.heap.size → x ∉ foot v' S' := fun x h1 h2 h3 => by
    rcases h.new x h3 with h4 | h4
    · exact h1 h4
    · omega
  refine ⟨h.kept.heap C.sb C.low, h.duo, C.rd.kept h.kept C.n1 C.n2, C.eye.kept h.kept C.n3 (fun hne k hk e => ?_), C.fr'.step h.kept (fun x hx => ⟨cfA_F hx, by have := (hlt x hx).1; omega⟩) (cfA_sub (fun x hx => ?_) (fun _ h => Or.inl h) (fun _ h => Or.inl h)), hn r C.n1 hr, hn g C.n2 hg, hn eb C.n3 he, C.n4, C.n5, C.n6, C.n7, C.n8, C.n9, fun p hp => ?_⟩
  · have := C.n9 hne k hk
    have := (hlt k e).1
    omega
  · rcases h.new x hx with h2 | h2
    · exact Or.inl h2
    · exact Or.inr ⟨h2, (hlt' x hx).2⟩
  · obtain ⟨b1, b2, b3⟩ := C.bx p hp
    exact ⟨h.kept.heap b1 b2, hn _ b2 (lt_of_block b1), b3⟩
/-- A step of the Reader, that hands out the block q. -/
theorem CF.read (C : CF w wr sc bb lb wb r g eb ao cap v zs xs S pr fr pe fe T G X []) {pr2 fr2 q : Nat} (h : Rdr w' r g xs pr2 fr2) (k : Kept [r] wr w') (hq : wr.heap.size ≤ q) (hq2 : q < w'.heap.size) : CF w w' sc bb lb wb r g eb ao cap v zs xs S pr2 fr2 pe fe T G X [q] ∧ (∀ x, x ∈ cfA w.heap.size r g eb (foot v S) (X.map (·.1)) [] → x ≠ q) := by
  refine ⟨⟨k.heap C.sb (by simp; have := C.n6; omega), C.duo.kept k (fun x hx e => C.n1 (by rw [← List.mem_singleton.1 e]; exact hx)), h, C.eye.kept k (by simpa using fun e => C.n4 e.symm) (fun hne y hy e => ?_), C.fr'.step k (fun x hx => by rw [List.mem_singleton.1 hx]; exact ⟨cfA_r, by have := C.n6; omega⟩) (cfA_sub (fun _ h => Or.inl h) (fun _ h => Or.inl h) (fun x hx => Or.inr (by rw [List.mem_singleton.1 hx]; exact ⟨hq, hq2⟩))), C.n1, C.n2, C.n3, C.n4, C.n5, C.n6, C.n7, C.n8, C.n9, fun p hp => ⟨k.heap (C.bx p hp).1 (by simpa using (C.bx p hp).2.2.1), (C.bx p hp).2⟩⟩, fun x hx e => ?_⟩
  · have h1 := C.n9 hne y hy
    have h2 := C.n6
    have h3 := List.mem_singleton.1 e
    omega
  · have := C.fr'.lt x hx
    omega
/-- The Writer hands out the block q. -/
theorem CF.out (C : CF w wr sc bb lb wb r g eb ao cap v zs xs S pr fr pe fe T G X []) {q : Nat} (k : Kept [] wr w') (hq : wr.heap.size ≤ q) (hq2 : q < w'.heap.size) : CF w w' sc bb lb wb r g eb ao cap v zs xs S pr fr pe fe T G X [q] ∧ (∀ x, x ∈ cfA w.heap.size r g eb (foot v S) (X.map (·.1)) [] → x ≠ q) :=
  ⟨C.on0 k (fun x hx => Or.inr (by rw [List.mem_singleton.1 hx]; exact ⟨hq, hq2⟩)), fun x hx e => by have := C.fr'.lt x hx; omega⟩
/-- The block of a list, if it has an element. -/
def ub (u : Value) (ys : List Int) : List Nat := if ys = [] then [] else u.ownBlock.toList
/-- A step of the document's own Reader, that hands out u. -/
theorem CF.eyed (C : CF w wr sc bb lb wb r g eb ao cap v zs xs S pr fr pe fe T G X Y) {pe2 fe2 : Nat} {u : Value} {ys : List Int} (h : EyeG w' eb ao cap xs pe2 fe2) (k : Kept [eb] wr w') (hu : BytesAt w' u ys) (hf : ∀ k, blkOf u = some k → wr.heap.size ≤ k) : CF w w' sc bb lb wb r g eb ao cap v zs xs S pr fr pe2 fe2 T G X (Y ++ ub u ys) := by
  refine ⟨k.heap C.sb (by simp; have := C.n8; omega), C.duo.kept k (fun x hx e => C.n3 (by rw [← List.mem_singleton.1 e]; exact hx)), C.rd.kept k (by simpa using C.n4) (by simpa using C.n5), h, C.fr'.step k (fun x hx => by rw [List.mem_singleton.1 hx]; exact ⟨cfA_e, by have := C.n8; omega⟩) (cfA_sub (fun _ h => Or.inl h) (fun _ h => Or.inl h) (fun x hx => ?_)), C.n1, C.n2, C.n3, C.n4, C.n5, C.n6, C.n7, C.n8, C.n9, fun p hp => ⟨k.heap (C.bx p hp).1 (by simpa using (C.bx p hp).2.2.2), (C.bx p hp).2⟩⟩
  rcases List.mem_append.1 hx with h1 | h1
  · exact Or.inl h1
  · unfold ub at h1
    split at h1
    · simp at h1
    · next hne =>
      have h2 : blkOf u = some x := by rw [own_blk_eq]; simpa using h1
      exact Or.inr ⟨hf x h2, hu.blk_lt hne x h2⟩
/-- The book or Late has turned. -/
theorem CF.booked (C : CF w wr sc bb lb wb r g eb ao cap v zs xs S pr fr pe fe T G X Y) {T2 G2 : Nat} {Y2 : List Nat} (h : FrTo w wr w' bb lb T2 G2 (cfA w.heap.size r g eb (foot v S) (X.map (·.1)) Y2)) : CF w w' sc bb lb wb r g eb ao cap v zs xs S pr fr pe fe T2 G2 X Y2 := by
  obtain ⟨S9, k9, s9, a9⟩ := h.kept
  refine ⟨k9.heap C.sb (a9 _ cfA_o), C.duo.kept k9 (fun x hx => a9 x (cfA_F hx)), C.rd.kept k9 (a9 r cfA_r) (a9 g cfA_g), C.eye.kept k9 (a9 eb cfA_e) (fun hne y hy e => ?_), h.fr, C.n1, C.n2, C.n3, C.n4, C.n5, C.n6, C.n7, C.n8, C.n9, fun p hp => ⟨k9.heap (C.bx p hp).1 (a9 _ (cfA_X (List.mem_map_of_mem hp))), (C.bx p hp).2⟩⟩
  have h1 := C.n9 hne y hy
  have h2 := s9 y e
  omega
/-- An answer goes to Late. -/
theorem CF.add (C : CF w wr sc bb lb wb r g eb ao cap v zs xs S pr fr pe fe T G X Y) {q : Nat} {ys : List Int} {u : Value} (hqY : q ∈ Y) (hq : wr.heap[q]? = some (.cells (ys.map (Value.int .u8)).toArray 5 (0, 0))) (hqn : ∀ x, x ∈ cfA w.heap.size r g eb (foot v S) (X.map (·.1)) [] → x ≠ q) (hql : w.heap.size ≤ q) (hu : BytesAt wr u ys) (hul : ys ≠ [] → ∀ x, u.ownBlock = some x → x ∈ foot v S ∨ x ∈ Y) (ho : Octs ys) (hy : ys.length ≤ 100000000000) (hG : G ≤ 1000) :
    Calls Try.prog 10 #[.pointer (some ⟨lb, 0, none⟩), .slice (some ⟨q, 0, none⟩) ys.length ys.length, u] wr fun e w' => e = .returned (.tuple #[]) ∧ CF w w' sc bb lb wb r g eb ao cap v zs xs S pr fr pe fe (T + 1) (G + 1) X [] := by
  have how : OwnB wr w.heap.size (.slice (some ⟨q, 0, none⟩) ys.length ys.length) ys := by
    refine ⟨by simp, Or.inr ⟨q, ys.length, _, rfl, hql, hq, Nat.le_refl _, by unfold maxLen; omega, by simp, ?_⟩⟩
    rw [Nat.mul_one]
    exact List.take_of_length_le (by simp)
  have hqd : ∀ y, (Value.slice (some ⟨q, 0, none⟩) ys.length ys.length).ownBlock = some y → y = q := fun y hy => by simpa [Value.ownBlock, eq_comm] using hy
  refine (add_fr (A2 := cfA w.heap.size r g eb (foot v S) (X.map (·.1)) []) C.fr' how (fun y hy => by
    rw [hqd y hy]
    exact ⟨cfA_Y hqY, fun e => hqn q e rfl⟩) hu (fun hne y hy => Or.inl ((hul hne y hy).elim cfA_F cfA_Y)) (fun x hx => cfA_noY hx) ho hy hG).mono ?_
  rintro e w1 ⟨rfl, h⟩
  exact ⟨rfl, C.booked h⟩
theorem CF.settle (C : CF w wr sc bb lb wb r g eb ao cap v zs xs S pr fr pe fe T G X Y) (n : Nat) (hT : T ≤ 5000) :
    Calls Try.prog 16 #[.pointer (some ⟨lb, 0, none⟩), .pointer (some ⟨bb, 0, none⟩), .int .i64 n] wr fun e w' => e = .returned (.bool true) ∧ CF w w' sc bb lb wb r g eb ao cap v zs xs S pr fr pe fe T (n - 1) X Y := by
  refine (settle_fr C.fr' n hT).mono ?_
  rintro e w1 ⟨rfl, h⟩
  exact ⟨rfl, C.booked h⟩
theorem CF.look (C : CF w wr sc bb lb wb r g eb ao cap v zs xs S pr fr pe fe T G X Y) (hT : T ≤ 5000) :
    Calls Try.prog 17 #[.pointer (some ⟨bb, 0, none⟩)] wr fun e w' => e = .returned (.bool true) ∧ CF w w' sc bb lb wb r g eb ao cap v zs xs S pr fr pe fe T G X Y := by
  refine (look_fr C.fr' hT).mono ?_
  rintro e w1 ⟨rfl, h⟩
  exact ⟨rfl, C.booked h⟩
theorem EyeG.mk1 {w : World} {ao : Option Addr} {cap : Nat} {ds : List Int} (hd : BytesAt w (.slice ao ds.length cap) ds) (ho : Octs ds) (hs : ds.length ≤ 140737488355328) :
    EyeG (w.alloc (.cells #[.slice ao ds.length cap, .int .i64 0, .int .i64 0] 34)) w.heap.size ao cap ds 0 0 :=
  ⟨heap_alloc_new w _, hd.kept (S := []) ((Kept.refl _ _).alloc _) (fun _ _ => by simp), fun hne k hk => Nat.ne_of_lt (hd.blk_lt hne k hk), Nat.zero_le _, hs, ho, Nat.zero_le _⟩
end
end Go.Proofs.Ytmambfdfkobjgaa
