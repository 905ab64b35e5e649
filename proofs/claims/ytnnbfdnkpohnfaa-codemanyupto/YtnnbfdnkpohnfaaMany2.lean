/-
  What lies between the steps of a round of satchellaw1.CodeMany's first loop; the crowd's beginning; lists of lists as they lie in memory.
-/
import Derived.Test.YtnnbfdnkpohnfaaMany1
namespace Go.Proofs.Ytnnbfdnkpohnfaa
open Go.RowKit

theorem BytesAt.blkBelow {w : World} {v : Value} {ys : List Int} (h : BytesAt w v ys) (hn : ys ≠ []) : ∀ b, blkOf v = some b → b < w.heap.size := by
  obtain ⟨ao, cap, rfl, _, _, hcell⟩ := h
  intro b hb
  obtain ⟨b', off, rfl, hh⟩ := hcell hn
  have e : b' = b := by simpa [blkOf] using hb
  subst e
  have hl : 0 < ys.length := List.length_pos_iff.2 hn
  exact World.block_lt_of_cell? w _ (hh 0 ys[0] (List.getElem?_eq_getElem hl))

/-- One list of a list of lists: its slice and the bytes that it holds. -/
structure BL where
  ao : Option Addr
  cap : Nat
  b : List Int
structure BL.Good (x : BL) (w : World) : Prop where
  at' : BytesAt w (.slice x.ao x.b.length x.cap) x.b
  oct : Octs x.b
  small : x.b.length ≤ 140737488351232
def ListsAt (w : World) (ao : Option Addr) (ls : List BL) : Prop := ls ≠ [] → ∃ b off, ao = some ⟨b, off, none⟩ ∧ ∀ (i : Nat) (x : BL), ls[i]? = some x → w.cell? ⟨b, off + i, none⟩ = some (.slice x.ao x.b.length x.cap)
def sumL (ls : List BL) : Nat := (ls.map fun x => x.b.length).sum

theorem sumL_take (ls : List BL) (k : Nat) (x : BL) (h : ls[k]? = some x) : sumL (ls.take (k + 1)) = sumL (ls.take k) + x.b.length ∧ sumL (ls.take k) + x.b.length ≤ sumL ls := by
  have hlt : k < ls.length := (List.getElem?_eq_some_iff.1 h).1
  have ho : ls[k] = x := (List.getElem?_eq_some_iff.1 h).2
  have e1 : sumL (ls.take (k + 1)) = sumL (ls.take k) + x.b.length := by
    rw [List.take_succ_eq_append_getElem hlt, ho]
    simp [sumL]
  have e2 : sumL ls = sumL (ls.take (k + 1)) + sumL (ls.drop (k + 1)) := by
    unfold sumL
    rw [← List.sum_append, ← List.map_append, List.take_append_drop]
  exact ⟨e1, by omega⟩
theorem sumL_le (ls : List BL) (k : Nat) : sumL (ls.take k) ≤ sumL ls := by
  have e2 : sumL ls = sumL (ls.take k) + sumL (ls.drop k) := by
    unfold sumL
    rw [← List.sum_append, ← List.map_append, List.take_append_drop]
  omega

theorem Crowd.start (w : World) (sc : Array Value) : Crowd w (w.alloc (.cells sc 42)) sc (.slice none 0 0) (.slice none 0 0) (.slice none 0 0) [] [] := by
  have F0 := (Fam.start (ι := MIx) w).put .sc (boxT w.heap.size sc 42) ((Kept.refl _ _).alloc _) (heap_alloc_new w _) (fun b hb => by
    have e : b = w.heap.size := by simpa [boxT] using hb
    subst e
    exact ⟨Or.inr (Nat.le_refl _), by simp⟩)
  have nb : ∀ (e : TypeId) b, b ∈ (rowT e w.heap.size (.slice none 0 0) []).F → False := fun e b hb => by simp [rowT, Value.ownBlock] at hb
  have F1 := F0.put .pv (rowT 27 w.heap.size (.slice none 0 0) []) (Kept.refl _ _) (World.ownsRow_nil _ _ _ _) (fun b hb => (nb _ b hb).elim)
  have F2 := F1.put .hv (rowT 22 w.heap.size (.slice none 0 0) []) (Kept.refl _ _) (World.ownsRow_nil _ _ _ _) (fun b hb => (nb _ b hb).elim)
  have F3 := F2.put .rv (rowT 50 w.heap.size (.slice none 0 0) []) (Kept.refl _ _) (World.ownsRow_nil _ _ _ _) (fun b hb => (nb _ b hb).elim)
  refine F3.congr fun i => ?_
  cases i <;> simp [fset, famOf]

section
variable {w wr w1 w2 : World} {sc : Array Value} {pv hv rv pv' : Value} {L : List Rec} {R : List RRec}

theorem Crowd.own_pv (C : Crowd w wr sc pv hv rv L R) {w' : World} (k : Kept [] wr w') : w'.ownsRow w.heap.size 27 1 pv (L.map fun x => ptrOf x.r).length (L.map fun x => ptrOf x.r) := owns_kept (C.holds .pv) k (by simp)
theorem Crowd.own_rv (C : Crowd w wr sc pv hv rv L R) {w' : World} (k : Kept [] wr w') : w'.ownsRow w.heap.size 50 1 rv (R.map fun x => ptrOf x.r).length (R.map fun x => ptrOf x.r) := owns_kept (C.holds .rv) k (by simp)

theorem Crowd.low_pv (C : Crowd w wr sc pv hv rv L R) : ∀ b, pv.ownBlock = some b → b < wr.heap.size := fun b hb => (C.low .pv b (show b ∈ pv.ownBlock.toList by simp [hb])).2
theorem Crowd.low_hv (C : Crowd w wr sc pv hv rv L R) : ∀ b, hv.ownBlock = some b → b < wr.heap.size := fun b hb => (C.low .hv b (show b ∈ hv.ownBlock.toList by simp [hb])).2
theorem Crowd.apart (C : Crowd w wr sc pv hv rv L R) : ∀ b, hv.ownBlock = some b → b ∉ pv.ownBlock.toList := fun b hb => C.dis .hv .pv (by simp) b (show b ∈ hv.ownBlock.toList by simp [hb])

/-- Behind the first append: the other list is as it was. -/
theorem Crowd.mid_hv (C : Crowd w wr sc pv hv rv L R) (k1 : Kept [] wr w1) (k2 : Kept pv.ownBlock.toList w1 w2) {w' : World} (k : Kept [] w2 w') : w'.ownsRow w.heap.size 22 1 hv (L.map Rec.v).length (L.map Rec.v) :=
  owns_kept (owns_kept (owns_kept (C.holds .hv) k1 (by simp)) k2 C.apart) k (by simp)
/-- Behind the second: the first list, and the new Writer. -/
theorem Crowd.mid_pv (C : Crowd w wr sc pv hv rv L R) (k1 : Kept [] wr w1) (a2 : ∀ b, pv'.ownBlock = some b → pv.ownBlock = some b ∨ w1.heap.size ≤ b) {xs : List Value} (p2 : w2.ownsRow w.heap.size 27 1 pv' xs.length xs) {w3 : World} (k3 : Kept hv.ownBlock.toList w2 w3) :
    w3.ownsRow w.heap.size 27 1 pv' xs.length xs :=
  owns_kept p2 k3 fun b hb hm => by
    have hm : hv.ownBlock = some b := by simpa using hm
    rcases a2 b hb with h | h
    · exact C.apart b hm (by simp [h])
    · exact absurd (C.low_hv b hm) (by have := k1.size; omega)
theorem Crowd.mid_wr (C : Crowd w wr sc pv hv rv L R) {B : Nat} (hA : WAt w1 wr.heap.size B [] [wr.heap.size]) (k2 : Kept pv.ownBlock.toList w1 w2) {w3 : World} (k3 : Kept hv.ownBlock.toList w2 w3) : WAt w3 wr.heap.size B [] [wr.heap.size] :=
  (hA.kept k2 fun b hb hm => by
    have e : b = wr.heap.size := by simpa using hb
    have := C.low_pv b (by simpa using hm)
    omega).kept k3 fun b hb hm => by
    have e : b = wr.heap.size := by simpa using hb
    have := C.low_hv b (by simpa using hm)
    omega

/-- Behind both appends. -/
theorem Crowd.after3 (C : Crowd w wr sc pv hv rv L R) {k : Nat} (hkl : L.length = k) (hA : WAt w1 wr.heap.size w.heap.size [] [wr.heap.size]) (k1 : Kept [] wr w1) (k2 : Kept pv.ownBlock.toList w1 w2) (a2 : ∀ b, pv'.ownBlock = some b → pv.ownBlock = some b ∨ w1.heap.size ≤ b)
    (p2 : w2.ownsRow w.heap.size 27 1 pv' (L.map (fun x => ptrOf x.r) ++ [ptrOf wr.heap.size]).length (L.map (fun x => ptrOf x.r) ++ [ptrOf wr.heap.size])) {o : Obj} {w3 : World} {hv' : Value}
    (hp3 : w3.ownsRow w.heap.size 22 1 hv' (L.map Rec.v ++ [Value.slice none 0 0]).length (L.map Rec.v ++ [Value.slice none 0 0])) (hk3 : Kept hv.ownBlock.toList (w2.alloc o) w3) (ha3 : hv'.ownBlock = hv.ownBlock ∨ hv'.ownBlock = some (w2.alloc o).heap.size) :
    ∃ gh ch gp cp, hv' = .slice (some ⟨gh, 0, none⟩) (k + 1) ch ∧ pv' = .slice (some ⟨gp, 0, none⟩) (k + 1) cp ∧ k + 1 ≤ ch ∧ ch ≤ 9223372036854775807 ∧ k + 1 ≤ cp ∧ cp ≤ 9223372036854775807 ∧ gh < w3.heap.size ∧ gp < w3.heap.size ∧ gh ≠ wr.heap.size ∧
      (hv.ownBlock = some gh ∨ w2.heap.size ≤ gh) ∧ w3.cell? ⟨gp, k, none⟩ = some (.pointer (some ⟨wr.heap.size, 0, none⟩)) ∧ WAt w3 wr.heap.size w.heap.size [] [wr.heap.size] ∧ Kept hv.ownBlock.toList w2 w3 ∧ w.heap.size ≤ w3.heap.size := by
  have hl3 : (L.map Rec.v ++ [Value.slice none 0 0]).length = k + 1 := by rw [List.length_append, List.length_map, hkl]; rfl
  have hl2 : (L.map (fun x => ptrOf x.r) ++ [ptrOf wr.heap.size]).length = k + 1 := by rw [List.length_append, List.length_map, hkl]; rfl
  have k3 : Kept hv.ownBlock.toList w2 w3 := ((Kept.refl _ _).alloc _).then hk3
  rw [hl3] at hp3
  obtain ⟨gh, ch, rfl, q1, q2, q3, q4, q5, q6⟩ := owns_at hp3 (by omega)
  have hA3 : hv.ownBlock = some gh ∨ w2.heap.size ≤ gh := by
    rcases ha3 with h | h
    · exact Or.inl (by rw [← h]; simp [Value.ownBlock])
    · have e : gh = (w2.alloc o).heap.size := by simpa [Value.ownBlock] using h
      exact Or.inr (by rw [e, World.size_alloc]; omega)
  have hpw := C.mid_pv k1 a2 p2 k3
  rw [hl2] at hpw
  obtain ⟨gp, cp, rfl, p1, p2, p3, p4, p5, p6⟩ := owns_at hpw (by omega)
  refine ⟨gh, ch, gp, cp, rfl, rfl, q1, q2, p1, p2, q4, p4, ?_, hA3, ?_, C.mid_wr hA k2 k3, k3, Nat.le_trans C.kept.size (Nat.le_trans k1.size (Nat.le_trans k2.size k3.size))⟩
  · have z1 := (hA.lt wr.heap.size (by simp)).2
    have z2 := k2.size
    rcases hA3 with h | h
    · have := C.low_hv gh h; omega
    · omega
  · rw [p5 k (by omega), List.getElem?_append_right (by rw [List.length_map, hkl]; omega), List.length_map, hkl, Nat.sub_self]
    rfl

/-- At the round's last step. -/
theorem Crowd.after5 (C : Crowd w wr sc pv hv rv L R) {k : Nat} (hkl : L.length = k) (hA : WAt w1 wr.heap.size w.heap.size [] [wr.heap.size]) (k1 : Kept [] wr w1) (k2 : Kept pv.ownBlock.toList w1 w2) (a2 : ∀ b, pv'.ownBlock = some b → pv.ownBlock = some b ∨ w1.heap.size ≤ b)
    (p2 : w2.ownsRow w.heap.size 27 1 pv' (L.map (fun x => ptrOf x.r) ++ [ptrOf wr.heap.size]).length (L.map (fun x => ptrOf x.r) ++ [ptrOf wr.heap.size])) {w3 w4 w5 : World} {gh ch : Nat} {u : Value} {us : List Int}
    (hp3 : w3.ownsRow w.heap.size 22 1 (.slice (some ⟨gh, 0, none⟩) (k + 1) ch) (L.map Rec.v ++ [Value.slice none 0 0]).length (L.map Rec.v ++ [Value.slice none 0 0])) (k3 : Kept hv.ownBlock.toList w2 w3) (a3 : hv.ownBlock = some gh ∨ w2.heap.size ≤ gh) (hne : gh ≠ wr.heap.size)
    (hW : Wrote w3 w4 wr.heap.size w.heap.size us [wr.heap.size]) (k5 : Kept [] w4 w5) (hu : OwnB w5 w4.heap.size u us) :
    (∃ t, w5.cell? ⟨gh, k, none⟩ = some t) ∧ w5.frozen? ⟨gh, k, none⟩ = false ∧ ∃ S', Crowd w (w5.setCell ⟨gh, k, none⟩ u) sc pv' (.slice (some ⟨gh, 0, none⟩) (k + 1) ch) rv (L ++ [⟨wr.heap.size, u, us, S'⟩]) R := by
  have hl3 : (L.map Rec.v ++ [Value.slice none 0 0]).length = k + 1 := by rw [List.length_append, List.length_map, hkl]; rfl
  have h5 := owns_kept (owns_kept hp3 hW.k (fun b hb hm => hne (by
    have e1 : gh = b := by simpa [Value.ownBlock] using hb
    have e2 : b = wr.heap.size := by simpa using hm
    omega))) k5 (by simp)
  rw [hl3] at h5
  refine ⟨?_, World.ownsRow.frozenAt h5 k, ?_⟩
  · rw [World.ownsRow.cellAt h5 k (by omega)]
    exact ⟨_, List.getElem?_eq_getElem (by rw [hl3]; omega)⟩
  · have hG := C.grow (gh := gh) (ch := ch) hA k1 p2 k2 a2 (by rw [hkl]; exact hp3) k3 a3 hW k5 hu
    rw [hkl] at hG
    exact hG

/-- A Writer has been laid to, its list not yet: what else is as it was. -/
theorem Crowd.between (C : Crowd w wr sc pv hv rv L R) {j : Nat} {x : Rec} (hj : L[j]? = some x) {gh ch : Nat} (hh : hv = .slice (some ⟨gh, 0, none⟩) L.length ch) (k : Kept x.S wr w1) :
    w.heap.size < w1.heap.size ∧ (∀ o, w1.cell? ⟨w.heap.size, o, none⟩ = sc[o]?) ∧ w1.cell? ⟨gh, j, none⟩ = some x.v ∧ OwnB w1 w.heap.size x.v x.zs ∧ Kept [] w w1 := by
  have e : famOf w.heap.size sc pv hv rv L R (.du j) = duoT w.heap.size x := by simp [famOf, hj]
  have kf : Kept (famOf w.heap.size sc pv hv rv L R (.du j)).F wr w1 := by rw [e]; exact k.more fun b hb => mem_foot.2 (Or.inl hb)
  have hsc : w1.heap[w.heap.size]? = some (.cells sc 42 (0, 0)) := (famOf w.heap.size sc pv hv rv L R .sc).st _ _ _ (C.holds .sc) kf fun b hb => C.dis .sc (.du j) (by simp) b hb
  have hrow : w1.ownsRow w.heap.size 22 1 hv (L.map Rec.v).length (L.map Rec.v) := (famOf w.heap.size sc pv hv rv L R .hv).st _ _ _ (C.holds .hv) kf fun b hb => C.dis .hv (.du j) (by simp) b hb
  rw [List.length_map, hh] at hrow
  refine ⟨lt_of_block hsc, fun o => cell_of_row _ _ _ _ _ _ hsc, ?_, (C.duo hj).own.kept k (C.duo hj).dis, C.kept.trans kf fun b hb => Or.inr (C.low (.du j) b hb).1⟩
  have hlt : j < L.length := (List.getElem?_eq_some_iff.1 hj).1
  rw [World.ownsRow.cellAt hrow j (by omega), List.getElem?_map, hj]
  rfl

theorem Crowd.wcell {g n c : Nat} (C : Crowd w wr sc (.slice (some ⟨g, 0, none⟩) n c) hv rv L R) {j : Nat} {x : Rec} (hj : L[j]? = some x) : wr.cell? ⟨g, j, none⟩ = some (.pointer (some ⟨x.r, 0, none⟩)) := by
  have hlt : j < L.length := (List.getElem?_eq_some_iff.1 hj).1
  obtain ⟨g', c', e, _, _, _, _, h, _⟩ := C.writers (by omega)
  injection e with e1 e2 e3
  injection e1 with e1
  injection e1 with e1
  subst e1
  exact h j x hj
theorem Crowd.lcell {g n c : Nat} (C : Crowd w wr sc pv (.slice (some ⟨g, 0, none⟩) n c) rv L R) {j : Nat} {x : Rec} (hj : L[j]? = some x) : wr.cell? ⟨g, j, none⟩ = some x.v := by
  have hlt : j < L.length := (List.getElem?_eq_some_iff.1 hj).1
  obtain ⟨g', c', e, _, _, _, _, h, _⟩ := C.lists (by omega)
  injection e with e1 e2 e3
  injection e1 with e1
  injection e1 with e1
  subst e1
  exact h j x hj
theorem Crowd.rcell {g n c : Nat} (C : Crowd w wr sc pv hv (.slice (some ⟨g, 0, none⟩) n c) L R) {j : Nat} {x : RRec} (hj : R[j]? = some x) : wr.cell? ⟨g, j, none⟩ = some (.pointer (some ⟨x.r, 0, none⟩)) := by
  have hlt : j < R.length := (List.getElem?_eq_some_iff.1 hj).1
  obtain ⟨g', c', e, _, _, _, _, h, _⟩ := C.readers (by omega)
  injection e with e1 e2 e3
  injection e1 with e1
  injection e1 with e1
  subst e1
  exact h j x hj

theorem Crowd.betweenP {g n c : Nat} (C : Crowd w wr sc (.slice (some ⟨g, 0, none⟩) n c) hv rv L R) {j : Nat} {x : Rec} (hj : L[j]? = some x) (k : Kept x.S wr w1) : w1.cell? ⟨g, j, none⟩ = some (.pointer (some ⟨x.r, 0, none⟩)) := by
  have e : famOf w.heap.size sc (.slice (some ⟨g, 0, none⟩) n c) hv rv L R (.du j) = duoT w.heap.size x := by simp [famOf, hj]
  refine k.cell (C.wcell hj) fun hm => C.dis .pv (.du j) (by simp) g ?_ ?_
  · show g ∈ (Value.slice (some ⟨g, 0, none⟩) n c).ownBlock.toList
    simp [Value.ownBlock]
  · rw [e]
    exact mem_foot.2 (Or.inl hm)

/-- A Writer has been laid to, then its list, then the list is put back. -/
theorem Crowd.laid {gh n ch : Nat} (C : Crowd w wr sc pv (.slice (some ⟨gh, 0, none⟩) n ch) rv L R) (hn : L.length = n) {j : Nat} {x : Rec} (hj : L[j]? = some x) {us : List Int} {w3 w4 : World} {v' : Value} (hw : Wrote wr.drew w1 x.r w.heap.size us x.S) (k3 : Kept [] w1 w3) (ha : Appended w3 w4 w.heap.size x.v v' us) :
    w4.cell? ⟨gh, j, none⟩ = some x.v ∧ w4.frozen? ⟨gh, j, none⟩ = false ∧ (∃ a c, v' = .slice a us.length c) ∧ ∃ S', Crowd w (w4.setCell ⟨gh, j, none⟩ v') sc pv (.slice (some ⟨gh, 0, none⟩) n ch) rv (L.set j ⟨x.r, v', us, S'⟩) R := by
  have kd : Kept [] wr wr.drew := (Kept.refl _ _).drew
  obtain ⟨S', hT⟩ := ((C.duo hj).box kd).lay hw k3 ha
  obtain ⟨c, f, h⟩ := C.step hj (DuoTo.ahead kd hT) (gh := gh) (ch := ch) (by rw [hn])
  exact ⟨c, f, own_shape ha.own, S', h⟩
end
end Go.Proofs.Ytnnbfdnkpohnfaa
