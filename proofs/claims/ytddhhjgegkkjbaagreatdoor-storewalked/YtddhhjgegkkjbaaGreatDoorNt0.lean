/-
  A STORE OF ENCODINGS: each entry is what object.Parse takes, under its own digest.
  A BOXED LIST OF IDS that grows: what a range's round keeps of it; what all ranges over one store share.
-/
import Derived.Test.YtddhhjgegkkjbaaGreatDoorBack0
import Derived.Test.YtddhhjgegkkjbaaGreatDoorGp5
import Derived.Test.YtddhhjgegkkjbaaGreatDoorAll1
import Derived.Test.YtddhhjgegkkjbaaGreatDoorCom3
import Derived.Test.YtddhhjgegkkjbaaGreatDoorRgO
namespace Go.Proofs.YtddhhjgegkkjbaaGreatDoor
open Go.RowKit Go.WideMaps

theorem par_ne [TabC] {xs : List Int} (h : parErr xs = 0) : xs ≠ [] := fun e => by
  subst e
  have := (parErr_zero h).2.1
  simp [xAt] at this
structure Fl [TabC] (w : World) (s b n : Nat) (D : DataW Unit) : Prop where
  st : St w s b n D
  good : ∀ kl, Maps.has D kl = true → ∃ g c xs, D.atKey kl .nil = slD g xs.length c ∧ kl = idKey (digL xs) ∧ parErr xs = 0 ∧ Octs xs ∧ BytesAt w (.slice (some ⟨g, 0, none⟩) xs.length c) xs
section
variable {w w' : World} {s b n : Nat} {D : DataW Unit}
theorem Fl.on [TabC] (h : Fl w s b n D) (k : Kept [] w w') : Fl w' s b n D :=
  ⟨h.st.on k, fun kl hk => by
    obtain ⟨g, c, xs, h1, h2, h3, h4, h5⟩ := h.good kl hk
    exact ⟨g, c, xs, h1, h2, h3, h4, h5.kept' k (fun _ _ _ => by simp)⟩⟩
theorem Fl.non [TabC] (h : Fl w s b n D) : NonE D := fun kl g m c hk he => by
  obtain ⟨g', c', xs, h1, _, h3, _⟩ := h.good kl hk
  obtain ⟨_, rfl, _⟩ := slD_inj (he.symm.trans h1)
  exact fun e => par_ne h3 (List.eq_nil_of_length_eq_zero e)
theorem Fl.start [TabC] (h : St w s b 0 (.map [])) : Fl w s b 0 (.map []) := ⟨h, fun kl hk => by cases hk⟩
/-- Entries that stay are as they were where the map alone is written to. -/
theorem Fl.off [TabC] (h : Fl w s b n D) (k : Kept [b] w w') {kl : Lit} (hk : Maps.has D kl = true) : ∃ g c xs, D.atKey kl .nil = slD g xs.length c ∧ kl = idKey (digL xs) ∧ parErr xs = 0 ∧ Octs xs ∧ BytesAt w' (.slice (some ⟨g, 0, none⟩) xs.length c) xs := by
  obtain ⟨g, c, xs, h1, h2, h3, h4, h5⟩ := h.good kl hk
  refine ⟨g, c, xs, h1, h2, h3, h4, h5.kept' k (fun _ x hx hm => ?_)⟩
  obtain ⟨g', c', xs', q1, q2, _⟩ := h.st.lists kl hk
  obtain ⟨rfl, _, _⟩ := slD_inj (h1.symm.trans q1)
  obtain rfl : g = x := by simpa [blkOf] using hx
  exact q2 (by simpa using hm)
theorem Fl.put [TabC] (h : Fl w s b n D) (k : Kept [b] w w') {g c : Nat} {xs : List Int} (hs : St w' s b (n + 1) (D.put (idKey (digL xs)) (slD g xs.length c))) (hp : parErr xs = 0) (ho : Octs xs) (hb : BytesAt w' (.slice (some ⟨g, 0, none⟩) xs.length c) xs) : Fl w' s b (n + 1) (D.put (idKey (digL xs)) (slD g xs.length c)) :=
  ⟨hs, fun kl hk => by
    by_cases e : kl = idKey (digL xs)
    · subst e
      exact ⟨g, c, xs, Maps.atKey_put_same h.st.own.isMap (idKey_lit _) _ _, rfl, hp, ho, hb⟩
    · rw [Maps.has_put_other e] at hk
      rw [Maps.atKey_put_other e]
      exact h.off k hk⟩
theorem Fl.del [TabC] (h : Fl w s b n D) (k : Kept [b] w w') {kl : Lit} (hs : St w' s b n (D.del kl)) : Fl w' s b n (D.del kl) :=
  ⟨hs, fun q hq => by
    by_cases e : q = kl
    · subst e
      rw [Maps.has_del_same] at hq
      cases hq
    · rw [Maps.has_del_other e] at hq
      rw [Maps.atKey_del_other e]
      exact h.off k hq⟩
end
/-- The same, and each entry's block is one of bytes. -/
structure FlT [TabC] (w : World) (s b n : Nat) (D : DataW Unit) : Prop extends Fl w s b n D where
  ty : ∀ kl g m c, Maps.has D kl = true → D.atKey kl .nil = slD g m c → ∃ q fr, w.heap[g]? = some (.cells q 5 fr)
section
variable {w w' : World} {s b n : Nat} {D : DataW Unit}
theorem FlT.on [TabC] (h : FlT w s b n D) (k : Kept [] w w') : FlT w' s b n D := ⟨h.toFl.on k, fun kl g m c hk he => by
  obtain ⟨q, fr, e⟩ := h.ty kl g m c hk he
  exact ⟨q, fr, k.heap e (by simp)⟩⟩
theorem FlT.start [TabC] (h : St w s b 0 (.map [])) : FlT w s b 0 (.map []) := ⟨Fl.start h, fun kl _ _ _ hk => by cases hk⟩
theorem FlT.tyOff [TabC] (h : FlT w s b n D) (k : Kept [b] w w') {kl : Lit} {g m c : Nat} (hk : Maps.has D kl = true) (he : D.atKey kl .nil = slD g m c) : ∃ q fr, w'.heap[g]? = some (.cells q 5 fr) := by
  obtain ⟨q, fr, e⟩ := h.ty kl g m c hk he
  refine ⟨q, fr, k.heap e (fun hm => ?_)⟩
  obtain ⟨es, clock, hb, _⟩ := h.st.own
  rw [List.mem_singleton.1 hm, hb] at e
  cases e
theorem FlT.put [TabC] (h : FlT w s b n D) (k : Kept [b] w w') {g c : Nat} {xs : List Int} (hs : St w' s b (n + 1) (D.put (idKey (digL xs)) (slD g xs.length c))) (hp : parErr xs = 0) (ho : Octs xs) (hb : BytesAt w' (.slice (some ⟨g, 0, none⟩) xs.length c) xs) (ht : ∃ q, w'.heap[g]? = some (.cells q 5 (0, 0))) : FlT w' s b (n + 1) (D.put (idKey (digL xs)) (slD g xs.length c)) :=
  ⟨h.toFl.put k hs hp ho hb, fun kl g' m' c' hk he => by
    by_cases e : kl = idKey (digL xs)
    · subst e
      rw [Maps.atKey_put_same h.st.own.isMap (idKey_lit _)] at he
      obtain ⟨rfl, _, _⟩ := slD_inj he
      obtain ⟨q, hq⟩ := ht
      exact ⟨q, _, hq⟩
    · rw [Maps.has_put_other e] at hk
      rw [Maps.atKey_put_other e] at he
      exact h.tyOff k hk he⟩
theorem FlT.del [TabC] (h : FlT w s b n D) (k : Kept [b] w w') {kl : Lit} (hs : St w' s b n (D.del kl)) : FlT w' s b n (D.del kl) :=
  ⟨h.toFl.del k hs, fun q g m c hq he => by
    by_cases e : q = kl
    · subst e
      rw [Maps.has_del_same] at hq
      cases hq
    · rw [Maps.has_del_other e] at hq
      rw [Maps.atKey_del_other e] at he
      exact h.tyOff k hq he⟩
end
theorem row_one {w : World} {o : ObjL} (h : ObjL.Good w o) : o.row.toArray.size = 76 ∧ o.row.toArray.all (·.oneCell') = true := ⟨by rw [List.size_toArray]; exact objL_len h.com.tree.1 h.tag.target.1, objL_one h⟩
/-- object.Parse, of any bytes, as Put sees it. -/
theorem Parse_put [TabC] (v : Value) (xs : List Int) (w : World) (hv : BytesAt w v xs) (ho : Octs xs) (hT : Tabs w) : Calls Tryz.prog 23 #[v] w fun e w' => ∃ br : Array Value, e = .returned (.tuple #[.agg br, .int .i64 (parErr xs)]) ∧ br.size = 76 ∧ br.all (·.oneCell') = true ∧ Kept [] w w' :=
  (Parse_any v xs w hv ho hT).mono fun _ _ ⟨_, h1, h2, h3, _⟩ => ⟨_, h1, (row_one h2).1, (row_one h2).2, h3⟩
end Go.Proofs.YtddhhjgegkkjbaaGreatDoor

namespace Go.Proofs.YtddhhjgegkkjbaaGreatDoor
open Go.RowKit Go.Shelf Go.WideMaps

/-- The box in block bx holds a list of one's own, from block B on. -/
structure IdBox (W : World) (B bx : Nat) (ao : Option Addr) (cap : Nat) (L : List (List Int)) : Prop where
  box : W.heap[bx]? = some (.cells #[.slice ao L.length cap] 32 (0, 0))
  own : IdOwn W B (.slice ao L.length cap) L
theorem IdBox.start {W : World} {B bx : Nat} (h : W.heap[bx]? = some (.cells #[.slice none 0 0] 32 (0, 0))) : IdBox W B bx none 0 [] := ⟨h, ⟨rfl, Or.inl ⟨rfl, rfl⟩⟩⟩
theorem IdBox.on {W W' : World} {B bx : Nat} {ao : Option Addr} {cap : Nat} {L : List (List Int)} (h : IdBox W B bx ao cap L) (k : Kept [] W W') : IdBox W' B bx ao cap L := ⟨k.heap h.box (by simp), ownsK_on h.own k (fun _ _ => by simp)⟩
theorem IdBox.turns {W W' : World} {B B' bx : Nat} {ao : Option Addr} {cap : Nat} {L : List (List Int)} {row : Option Nat} (h : IdBox W B bx ao cap L) (ht : TurnsNone B' W W' row) : IdBox W' B bx ao cap L := ⟨ht.cells h.box, ht.owns h.own⟩
theorem IdBox.cell {W : World} {B bx : Nat} {ao : Option Addr} {cap : Nat} {L : List (List Int)} (h : IdBox W B bx ao cap L) : W.cell? ⟨bx, 0, none⟩ = some (.slice ao L.length cap) := by rw [cell_of_row _ _ _ _ _ _ h.box]; rfl
theorem IdBox.at {W : World} {B bx : Nat} {ao : Option Addr} {cap : Nat} {L : List (List Int)} (h : IdBox W B bx ao cap L) (hg : ∀ id, id ∈ L → GoodID id) (hn : L.length ≤ 140737488351232) : IdsAt W (.slice ao L.length cap) L := h.own.at hg hn
/-- The list's block is of ids, and not the box. -/
theorem IdBox.blk {W : World} {B bx : Nat} {ao : Option Addr} {cap : Nat} {L : List (List Int)} (h : IdBox W B bx ao cap L) {g : Nat} (hg : (Value.slice ao L.length cap).ownBlock = some g) : B ≤ g ∧ g ≠ bx ∧ ∃ c, W.heap[g]? = some (.cells c 36 (0, 0)) := by
  obtain ⟨_, ⟨hv, _⟩ | ⟨g', _, c, hv, hB, hc, _⟩⟩ := h.own
  · rw [hv] at hg
    cases hg
  · rw [hv] at hg
    cases hg
    refine ⟨hB, fun e => ?_, c, hc⟩
    have := h.box
    rw [← e, hc] at this
    injection this with this
    injection this with _ this _
    exact absurd this (by decide)
/-- One more is laid behind the others, and the box is set. -/
theorem IdBox.push {W W5 w6 : World} {B bx : Nat} {ao : Option Addr} {cap : Nat} {L : List (List Int)} (h : IdBox W B bx ao cap L) {x : List Int} {v6 : Value} (k5 : Kept [] W W5)
    (hown : w6.ownsRow B 36 32 v6 (L.length + 1) ((L.map fun id => id.map (Value.int .u8)).flatten ++ x.map (Value.int .u8))) (hgr : W5.grownBy w6 (Value.slice ao L.length cap).ownBlock) :
    ∃ g6 cap6, v6 = .slice (some ⟨g6, 0, none⟩) (L.length + 1) cap6 ∧ w6.cell? ⟨bx, 0, none⟩ = some (.slice ao L.length cap) ∧ w6.frozen? ⟨bx, 0, none⟩ = false ∧
      IdBox (w6.setCell ⟨bx, 0, none⟩ v6) B bx (some ⟨g6, 0, none⟩) cap6 (L ++ [x]) ∧ (∀ U, Kept [] U W → U.heap.size ≤ bx → U.heap.size ≤ B → Kept [] U (w6.setCell ⟨bx, 0, none⟩ v6)) ∧
      (∀ b, KeepsFrom b W (w6.setCell ⟨bx, 0, none⟩ v6)) ∧ (∀ G : Nat → Prop, (∀ y, G y → y < bx ∧ y < B ∧ y < W.heap.size) → KpS G W (w6.setCell ⟨bx, 0, none⟩ v6)) := by
  obtain ⟨g6, cap6, rfl⟩ := own_succ hown
  have k6 : ∃ S, Kept S W5 w6 ∧ ∀ y, y ∈ S → (Value.slice ao L.length cap).ownBlock = some y := by
    cases hb : (Value.slice ao L.length cap).ownBlock with
    | none =>
      rw [hb] at hgr
      exact ⟨[], (Kept.refl _ _).grown hgr (fun _ e => by cases e), fun y hy => by cases hy⟩
    | some g =>
      rw [hb] at hgr
      exact ⟨[g], (Kept.refl _ _).grown hgr (fun k e => Or.inl (by cases e; simp)), fun y hy => by rw [List.mem_singleton.1 hy]⟩
  obtain ⟨S, k6, hS⟩ := k6
  have hbS : bx ∉ S := fun hm => (h.blk (hS bx hm)).2.1 rfl
  have hbox6 : w6.heap[bx]? = some (.cells #[.slice ao L.length cap] 32 (0, 0)) := k6.heap (k5.heap h.box (by simp)) hbS
  have hg6 : g6 ≠ bx := fun e => by
    obtain ⟨_, ⟨hv, _⟩ | ⟨g', _, c, hv, _, hc, _⟩⟩ := hown
    · cases hv
    · injection hv with hv _ _
      injection hv with hv
      injection hv with hv _ _
      rw [← hv, e, hbox6] at hc
      injection hc with hc
      injection hc with _ hc _
      exact absurd hc (by decide)
  have k7 : Kept [bx] w6 (w6.setCell ⟨bx, 0, none⟩ (.slice (some ⟨g6, 0, none⟩) (L.length + 1) cap6)) := (Kept.refl _ _).setCell (p := ⟨bx, 0, none⟩) (Or.inl (by simp)) _
  have kAll : Kept (bx :: S) W (w6.setCell ⟨bx, 0, none⟩ (.slice (some ⟨g6, 0, none⟩) (L.length + 1) cap6)) := ((k5.more (by simp)).trans k6 (fun y hy => Or.inl (by simp [hy]))).trans k7 (fun y hy => Or.inl (by simp at hy; simp [hy]))
  refine ⟨g6, cap6, rfl, by rw [cell_of_row _ _ _ _ _ _ hbox6]; rfl, frozen_of_row _ _ _ _ _ hbox6, ⟨?_, ?_⟩, fun U hU h1 h2 => hU.trans kAll (fun y hy => Or.inr ?_), fun b => kAll.others (fun y hy => ?_) b, fun G hG => KpS.of_kept kAll (fun y hy c hc => ?_) (fun y hy hGy => ?_) (fun y hGy => (hG y hGy).2.2)⟩
  · rw [List.length_append, List.length_singleton]
    exact setCell_box hbox6 _
  · have h := ownsK_on hown k7 (fun q hq => by
      have : q = g6 := by simpa [Value.ownBlock] using hq.symm
      rw [this]
      simpa using hg6)
    unfold IdOwn
    rw [List.length_append, List.length_singleton, List.map_append, List.flatten_append]
    simp only [List.map_cons, List.map_nil, List.flatten_cons, List.flatten_nil, List.append_nil]
    exact h
  · rcases List.mem_cons.1 hy with rfl | hy
    · exact h1
    · exact Nat.le_trans h2 (h.blk (hS y hy)).1
  · rcases List.mem_cons.1 hy with rfl | hy
    · exact ⟨_, _, _, h.box⟩
    · obtain ⟨c, hc⟩ := (h.blk (hS y hy)).2.2
      exact ⟨_, _, _, hc⟩
  · rcases List.mem_cons.1 hy with rfl | hy
    · rw [h.box] at hc
      injection hc with hc
      injection hc with _ hc _
      exact absurd hc (by decide)
    · obtain ⟨c', hc'⟩ := (h.blk (hS y hy)).2.2
      rw [hc'] at hc
      injection hc with hc
      injection hc with _ hc _
      exact absurd hc (by decide)
  · have := hG y hGy
    rcases List.mem_cons.1 hy with rfl | hy
    · omega
    · have := (h.blk (hS y hy)).1
      omega
/-- What the list that a round is handed says. -/
def EncOf (kl : Lit) (ys : List Int) : Prop := kl = idKey (digL ys) ∧ Octs ys
theorem Fl.encOf [TabC] {w : World} {s b n : Nat} {D : DataW Unit} (h : Fl w s b n D) : ∀ kl g m c ys, Maps.has D kl = true → D.atKey kl .nil = slD g m c → BytesAt w (.slice (some ⟨g, 0, none⟩) m c) ys → EncOf kl ys := fun kl g m c ys hk he hb => by
  obtain ⟨g', c', zs, h1, h2, _, h4, h5⟩ := h.good kl hk
  obtain ⟨rfl, h6, rfl⟩ := slD_inj (he.symm.trans h1)
  subst h6
  obtain rfl : zs = ys := h5.uniq hb
  exact ⟨h2, h4⟩
theorem GvS.keeps {Qp : Lit → List Int → Prop} {x : RowE} {A B : World} (h : GvS Qp x A B) (b : Nat) : KeepsFrom b A B := h.1.others (by simp) b
theorem KpS.putObj {G : Nat → Prop} {b : Nat} (hG : ∀ y, G y → y < b) (W : World) (l : Nat) (o o' : Obj) (hl : b ≤ l) (ho : W.heap[l]? = some o) (hc : o.isCells = false) : KpS G W (W.putObj l o') := by
  refine ⟨fun k c hk => ?_, fun k hk => ?_⟩
  · refine World.putObj_heap_other (fun e => ?_)
    rw [e, ho] at hk
    injection hk with hk
    subst hk
    cases hc
  · exact World.putObj_heap_other (fun e => by have := hG k hk; omega)
theorem TellsAll.eq {w : World} {s b n : Nat} {D : DataW Unit} (hst : St w s b n D) {xs : List RowE} (h : TellsAll D xs) {ids : List (List Int)} (hof : IdsOf D ids) : xs.map (·.xs) = ids := (hof.uniq (h.ids hst) (fun _ => rfl)).symm
theorem TellsSome.front {w : World} {s b n : Nat} {D : DataW Unit} (hst : St w s b n D) {q : List RowE} {y : RowE} (h : TellsSome D (q ++ [y])) {ids : List (List Int)} (hof : IdsOf D ids) : q.map (·.xs) = ids.take q.length ∧ q.length + 1 ≤ ids.length := by
  obtain ⟨L, k, hL, hs, he⟩ := h
  have e1 : L.map (·.xs) = ids := TellsAll.eq hst ⟨L, hL, hs, rfl⟩ hof
  rw [List.map_take, e1] at he
  have hl : q.length + 1 = (ids.take k).length := by rw [← he]; simp
  rw [List.length_take] at hl
  refine ⟨?_, by omega⟩
  have e2 : q.map (·.xs) = ((q ++ [y]).map (·.xs)).take q.length := by rw [List.map_append, List.take_left' (by simp)]
  rw [e2, he, List.take_take, Nat.min_eq_left (by omega)]
end Go.Proofs.YtddhhjgegkkjbaaGreatDoor
