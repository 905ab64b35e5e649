/-
  WALK: (*store.Store).Copy.
  A STORE AND ITS COPY: what a law over both keeps.
  WALK: satchellaw4.StoreCopies.
  A STORE THAT IS CHANGED within a range over it: what of it stays; Put of bytes at hand.
-/
import Derived.Test.YtddhhjgegkkjbaaGreatDoorRw2
import Derived.Test.YtddhhjgegkkjbaaGreatDoorAll1
import Derived.Test.YtddhhjgegkkjbaaGreatDoorNt0
import Derived.Test.YtddhhjgegkkjbaaGreatDoorCl0
import Derived.Test.YtddhhjgegkkjbaaGreatDoorCom3
import Derived.Test.YtddhhjgegkkjbaaGreatDoorFl1
import Derived.Test.YtddhhjgegkkjbaaGreatDoorHdS
namespace Go.Proofs.YtddhhjgegkkjbaaGreatDoor
open Go.RowKit Go.WideMaps

/-- An entry, and what a copy holds in its place. -/
structure Twins (w : World) (D D2 : DataW Unit) (kl : Lit) (g c g2 c2 : Nat) (xs : List Int) : Prop where
  at1 : D.atKey kl .nil = slD g xs.length c
  at2 : D2.atKey kl .nil = slD g2 xs.length c2
  b1 : BytesAt w (.slice (some ⟨g, 0, none⟩) xs.length c) xs
  b2 : BytesAt w (.slice (some ⟨g2, 0, none⟩) xs.length c2) xs
end Go.Proofs.YtddhhjgegkkjbaaGreatDoor

namespace Go.Proofs.YtddhhjgegkkjbaaGreatDoor
open Go.RowKit Go.WideMaps

/-- A map is no cells: no list lies in its block. -/
theorem St.map_ne {w : World} {s b n : Nat} {D : DataW Unit} (h : St w s b n D) {g c : Nat} {xs : List Int} (hb : BytesAt w (.slice (some ⟨g, 0, none⟩) xs.length c) xs) (hne : xs ≠ []) : g ≠ b := fun e => by
  obtain ⟨ao, cap, hv, _, _, hc⟩ := hb
  obtain ⟨b', off, rfl, hh⟩ := hc hne
  injection hv with hv _ _
  injection hv with hv
  injection hv with h1 h2 _
  subst h1 h2
  obtain ⟨x, r, rfl⟩ : ∃ x r, xs = x :: r := by cases xs with | nil => exact absurd rfl hne | cons x r => exact ⟨x, r, rfl⟩
  have h3 := hh 0 x rfl
  obtain ⟨es, clock, hm, _⟩ := h.own
  subst e
  simp [World.cell?, hm] at h3
theorem St.box_ne {w : World} {s b n : Nat} {D : DataW Unit} (h : St w s b n D) {s2 b2 n2 : Nat} {D2 : DataW Unit} (h2 : St w s2 b2 n2 D2) : s2 ≠ b := fun e => by
  obtain ⟨es, clock, hm, _⟩ := h.own
  have := h2.blk
  rw [e, hm] at this
  cases this
/-- Another store's map is written to. -/
theorem Fl.keepR [TabC] {w w' : World} {s b n r : Nat} {D : DataW Unit} (h : Fl w s b n D) (k : Kept [r] w w') (hs : s ≠ r) (hb : b ≠ r) (hl : ∀ g c xs, xs ≠ [] → BytesAt w (.slice (some ⟨g, 0, none⟩) xs.length c) xs → g ≠ r) : Fl w' s b n D := by
  refine ⟨h.st.keepR k hs hb (fun kl g m c hk he => ?_), fun kl hk => ?_⟩
  · obtain ⟨g', c', xs, h1, _, h3, _, h5⟩ := h.good kl hk
    obtain ⟨rfl, _, _⟩ := slD_inj (he.symm.trans h1)
    exact Or.inl (hl _ _ xs (par_ne h3) h5)
  · obtain ⟨g, c, xs, h1, h2, h3, h4, h5⟩ := h.good kl hk
    refine ⟨g, c, xs, h1, h2, h3, h4, h5.kept' k (fun hne x hx hm => ?_)⟩
    obtain rfl : g = x := by simpa [blkOf] using hx
    exact hl _ _ xs hne h5 (by simpa using hm)
/-- A store and a copy: of what the copy holds the store holds the same. -/
structure Duo [TabC] (w : World) (s b n : Nat) (D : DataW Unit) (s2 b2 n2 : Nat) (D2 : DataW Unit) : Prop where
  one : Fl w s b n D
  two : Fl w s2 b2 n2 D2
  ne : b ≠ b2
  tw : ∀ kl, Maps.has D2 kl = true → Maps.has D kl = true ∧ ∃ g c g2 c2 xs, Twins w D D2 kl g c g2 c2 xs ∧ parErr xs = 0
section
variable {w w' : World} {s b n : Nat} {D : DataW Unit} {s2 b2 n2 : Nat} {D2 : DataW Unit}
theorem Twins.on {kl : Lit} {g c g2 c2 : Nat} {xs : List Int} (h : Twins w D D2 kl g c g2 c2 xs) (k : Kept [] w w') : Twins w' D D2 kl g c g2 c2 xs := ⟨h.at1, h.at2, h.b1.kept' k (fun _ _ _ => by simp), h.b2.kept' k (fun _ _ _ => by simp)⟩
theorem Duo.on [TabC] (h : Duo w s b n D s2 b2 n2 D2) (k : Kept [] w w') : Duo w' s b n D s2 b2 n2 D2 :=
  ⟨h.one.on k, h.two.on k, h.ne, fun kl hk => by
    obtain ⟨h1, g, c, g2, c2, xs, h2, h3⟩ := h.tw kl hk
    exact ⟨h1, g, c, g2, c2, xs, h2.on k, h3⟩⟩
/-- What Copy answers. -/
theorem Duo.start [TabC] (h : Fl w s b n D) (h2 : St w s2 b2 n2 D2) (hne : b ≠ b2) (hh : ∀ kl, Maps.has D2 kl = Maps.has D kl) (ht : ∀ kl, Maps.has D kl = true → ∃ g c g2 c2 xs, Twins w D D2 kl g c g2 c2 xs) : Duo w s b n D s2 b2 n2 D2 := by
  have key : ∀ kl, Maps.has D2 kl = true → ∃ g c g2 c2 xs, Twins w D D2 kl g c g2 c2 xs ∧ kl = idKey (digL xs) ∧ parErr xs = 0 ∧ Octs xs := fun kl hk => by
    rw [hh] at hk
    obtain ⟨g, c, g2, c2, xs, t⟩ := ht kl hk
    obtain ⟨g', c', xs', q1, q2, q3, q4, q5⟩ := h.good kl hk
    obtain ⟨rfl, hl, rfl⟩ := slD_inj (t.at1.symm.trans q1)
    have hb := t.b1
    rw [hl] at hb
    obtain rfl : xs = xs' := hb.uniq q5
    exact ⟨g, c, g2, c2, xs, t, q2, q3, q4⟩
  refine ⟨h, ⟨h2, fun kl hk => ?_⟩, hne, fun kl hk => ?_⟩
  · obtain ⟨g, c, g2, c2, xs, t, q2, q3, q4⟩ := key kl hk
    exact ⟨g2, c2, xs, t.at2, q2, q3, q4, t.b2⟩
  · obtain ⟨g, c, g2, c2, xs, t, _, q3, _⟩ := key kl hk
    rw [hh] at hk
    exact ⟨hk, g, c, g2, c2, xs, t, q3⟩
/-- One more is put into the store. -/
theorem Duo.put [TabC] (h : Duo w s b n D s2 b2 n2 D2) (k : Kept [b] w w') {g c : Nat} {xs : List Int} (hnew : Maps.has D (idKey (digL xs)) = false) (hf : Fl w' s b (n + 1) (D.put (idKey (digL xs)) (slD g xs.length c))) : Duo w' s b (n + 1) (D.put (idKey (digL xs)) (slD g xs.length c)) s2 b2 n2 D2 := by
  refine ⟨hf, h.two.keepR k (h.one.st.box_ne h.two.st) (fun e => h.ne e.symm) (fun _ _ _ hne hb => h.one.st.map_ne hb hne), h.ne, fun kl hk => ?_⟩
  obtain ⟨h1, g', c', g2, c2, ys, t, h3⟩ := h.tw kl hk
  have hkl : kl ≠ idKey (digL xs) := fun e => by
    rw [e, hnew] at h1
    cases h1
  refine ⟨by rw [Maps.has_put_other hkl]; exact h1, g', c', g2, c2, ys, ⟨by rw [Maps.atKey_put_other hkl]; exact t.at1, t.at2, t.b1.kept' k (fun hne x hx hm => ?_), t.b2.kept' k (fun hne x hx hm => ?_)⟩, h3⟩
  · obtain rfl : g' = x := by simpa [blkOf] using hx
    exact h.one.st.map_ne t.b1 hne (by simpa using hm)
  · obtain rfl : g2 = x := by simpa [blkOf] using hx
    exact h.one.st.map_ne t.b2 hne (by simpa using hm)
end
end Go.Proofs.YtddhhjgegkkjbaaGreatDoor

namespace Go.Proofs.YtddhhjgegkkjbaaGreatDoor
open Go.RowKit Go.WideMaps

theorem parErr_blob [TabC] {ys : List Int} (h : ys.length < 65536) : parErr (1 :: ys) = 0 := by
  have e : xAt (1 :: ys) 0 = 1 := rfl
  have g : gOk (1 :: ys) = true := by
    unfold gOk guessO
    rw [e, if_pos rfl]
    simp [faultO, encO, kindO, encB]
    rfl
  unfold parErr
  rw [if_neg (by simp; omega), e, if_neg (by decide), if_pos g]
end Go.Proofs.YtddhhjgegkkjbaaGreatDoor

namespace Go.Proofs.YtddhhjgegkkjbaaGreatDoor
open Go.RowKit Go.WideMaps

theorem BytesAt.turns {W W' : World} {B : Nat} {row : Option Nat} (ht : TurnsNone B W W' row) {v : Value} {ys : List Int} (h : BytesAt W v ys) : BytesAt W' v ys := by
  obtain ⟨ao, cap, hv, h1, h2, h3⟩ := h
  refine ⟨ao, cap, hv, h1, h2, fun hne => ?_⟩
  obtain ⟨b, off, hb, hc⟩ := h3 hne
  refine ⟨b, off, hb, fun i u hu => ?_⟩
  have h4 := hc i u hu
  have h5 : ∃ c t fr, W.heap[b]? = some (.cells c t fr) := by
    unfold World.cell? at h4
    split at h4
    · exact ⟨_, _, _, by assumption⟩
    · cases h4
  obtain ⟨c, t, fr, h5⟩ := h5
  exact (World.cell?_of_block (w := W) (a := ⟨b, off + i, none⟩) ((ht.cells h5).trans h5.symm)).trans h4
/-- A law's own book-keeping does not touch the store. -/
theorem Fl.turns [TabC] {W W' : World} {B : Nat} {row : Option Nat} (ht : TurnsNone B W W' row) {s b n : Nat} {D : DataW Unit} (h : Fl W s b n D) (hb : b < B) : Fl W' s b n D := by
  obtain ⟨es, clock, hm, rest⟩ := h.st.own
  have hm2 : W'.heap[b]? = some (.map es clock) := (ht.1.block b h.st.lt.2 (fun e => by
    have := (ht.2 b e.symm).1
    omega)).trans hm
  refine ⟨⟨ht.cells h.st.blk, ⟨es, clock, hm2, rest⟩, h.st.ne, fun kl hk => ?_⟩, fun kl hk => ?_⟩
  · obtain ⟨g, c, xs, h1, h2, h3, h4, h5⟩ := h.st.lists kl hk
    exact ⟨g, c, xs, h1, h2, h3, h4, h5.turns ht⟩
  · obtain ⟨g, c, xs, h1, h2, h3, h4, h5⟩ := h.good kl hk
    exact ⟨g, c, xs, h1, h2, h3, h4, h5.turns ht⟩
/-- No entry lies in block r. -/
def Off (D : DataW Unit) (r : Nat) : Prop := ∀ kl g m c, Maps.has D kl = true → D.atKey kl .nil = slD g m c → g ≠ r
theorem Fl.off_new [TabC] {W : World} {s b n : Nat} {D : DataW Unit} (h : Fl W s b n D) {r : Nat} (hr : W.heap.size ≤ r) : Off D r := fun kl g m c hk he => by
  obtain ⟨g', c', xs, h1, _, h3, _, _⟩ := h.good kl hk
  obtain ⟨rfl, rfl, rfl⟩ := slD_inj (he.symm.trans h1)
  rcases h.st.below hr kl _ _ _ hk he with e | e
  · exact e
  · exact absurd (List.eq_nil_of_length_eq_zero e) (par_ne h3)
/-- A list that is none of the store's is written to. -/
theorem Fl.write [TabC] {W W' : World} {s b n r : Nat} {D : DataW Unit} (h : Fl W s b n D) (k : Kept [r] W W') (hs : s ≠ r) (hb : b ≠ r) (ho : Off D r) : Fl W' s b n D := by
  refine ⟨h.st.keepR k hs hb (fun kl g m c hk he => Or.inl (ho kl g m c hk he)), fun kl hk => ?_⟩
  obtain ⟨g, c, xs, h1, h2, h3, h4, h5⟩ := h.good kl hk
  refine ⟨g, c, xs, h1, h2, h3, h4, h5.kept' k (fun _ x hx hm => ?_)⟩
  obtain rfl : g = x := by simpa [blkOf] using hx
  exact ho kl g _ c hk h1 (by simpa using hm)
theorem FlT.turns [TabC] {W W' : World} {B : Nat} {row : Option Nat} (ht : TurnsNone B W W' row) {s b n : Nat} {D : DataW Unit} (h : FlT W s b n D) (hb : b < B) : FlT W' s b n D := ⟨h.toFl.turns ht hb, fun kl g m c hk he => by
  obtain ⟨q, fr, e⟩ := h.ty kl g m c hk he
  exact ⟨q, fr, ht.cells e⟩⟩
theorem FlT.write [TabC] {W W' : World} {s b n r : Nat} {D : DataW Unit} (h : FlT W s b n D) (k : Kept [r] W W') (hs : s ≠ r) (hb : b ≠ r) (ho : Off D r) : FlT W' s b n D := ⟨h.toFl.write k hs hb ho, fun kl g m c hk he => by
  obtain ⟨q, fr, e⟩ := h.ty kl g m c hk he
  exact ⟨q, fr, k.heap e (by simpa using ho kl g m c hk he)⟩⟩
/-- Blocks of ids and of lists of ids alone are written to. -/
theorem FlT.idsOnly [TabC] {W W' : World} {S : List Nat} {s b n : Nat} {D : DataW Unit} (h : FlT W s b n D) (k : Kept S W W') (hS : ∀ y, y ∈ S → (∃ c fr, W.heap[y]? = some (.cells c 36 fr)) ∨ ∃ c fr, W.heap[y]? = some (.cells c 32 fr)) : FlT W' s b n D := by
  have hs : s ∉ S := fun hm => by
    have hb := h.st.blk
    rcases hS s hm with ⟨c, fr, e⟩ | ⟨c, fr, e⟩
    · rw [e] at hb
      injection hb with hb
      injection hb with _ hb _
      exact absurd hb (by decide)
    · rw [e] at hb
      injection hb with hb
      injection hb with _ hb _
      exact absurd hb (by decide)
  have hbm : b ∉ S := fun hm => by
    obtain ⟨es, clock, hb, _⟩ := h.st.own
    rcases hS b hm with ⟨c, fr, e⟩ | ⟨c, fr, e⟩ <;> rw [e] at hb <;> cases hb
  have key : ∀ kl g m c, Maps.has D kl = true → D.atKey kl .nil = slD g m c → g ∉ S := fun kl g m c hk he hm => by
    obtain ⟨q, fr, e2⟩ := h.ty kl g m c hk he
    rcases hS g hm with ⟨c', fr', e⟩ | ⟨c', fr', e⟩
    · rw [e] at e2
      injection e2 with e2
      injection e2 with _ e2 _
      exact absurd e2 (by decide)
    · rw [e] at e2
      injection e2 with e2
      injection e2 with _ e2 _
      exact absurd e2 (by decide)
  obtain ⟨es, clock, hm, rest⟩ := h.st.own
  refine ⟨⟨⟨k.heap h.st.blk hs, ⟨es, clock, k.heap hm hbm, rest⟩, h.st.ne, fun kl hk => ?_⟩, fun kl hk => ?_⟩, fun kl g m c hk he => ?_⟩
  · obtain ⟨g, c, xs, h1, h2, h3, h4, h5⟩ := h.st.lists kl hk
    refine ⟨g, c, xs, h1, h2, h3, h4, h5.kept' k (fun _ x hx hm => ?_)⟩
    obtain rfl : g = x := by simpa [blkOf] using hx
    exact key kl g _ c hk h1 hm
  · obtain ⟨g, c, xs, h1, h2, h3, h4, h5⟩ := h.good kl hk
    refine ⟨g, c, xs, h1, h2, h3, h4, h5.kept' k (fun _ x hx hm => ?_)⟩
    obtain rfl : g = x := by simpa [blkOf] using hx
    exact key kl g _ c hk h1 hm
  · obtain ⟨q, fr, e⟩ := h.ty kl g m c hk he
    exact ⟨q, fr, k.heap e (key kl g m c hk he)⟩
/-- A byte of a row is written. -/
theorem setCell_byte {W : World} {g k : Nat} {cur : Array Value} {t : TypeId} {fr : Nat × Nat} (h : W.heap[g]? = some (.cells cur t fr)) (v : Value) : ∃ cur', (W.setCell ⟨g, k, none⟩ v).heap[g]? = some (.cells cur' t fr) ∧ cur'.size = cur.size := by
  rw [Go.Sort.setCell_eq]
  refine ⟨cur.setIfInBounds k v, ?_, by simp⟩
  show (W.heap.modify g _)[g]? = _
  rw [Array.getElem?_modify, if_pos rfl, h]
  rfl
/-- Put of an object that lies in memory of its own. -/
theorem Put_any [TabC] {W : World} {s b n : Nat} {D : DataW Unit} (h : FlT W s b n D) (hn : n ≤ 1000) {vb cap : Nat} {xs : List Int} (hp : parErr xs = 0) (ho : Octs xs) (hv : BytesAt W (.slice (some ⟨vb, 0, none⟩) xs.length cap) xs) (hV : Vars W) (hT : Tabs W) :
    Calls Tryz.prog 11 #[.pointer (some ⟨s, 0, none⟩), .slice (some ⟨vb, 0, none⟩) xs.length cap] W fun e w' => (∃ z nw er, e = .returned (.tuple #[.agg (idC z), .bool nw, .int .i64 er]) ∧ z.length = 32) ∧ Kept [b] W w' ∧ ∃ n' D', n' ≤ n + 1 ∧ FlT w' s b n' D' := by
  have hne : vb ≠ b := h.st.map_ne hv (par_ne hp)
  refine (Put_of h.st (by omega) vb 0 cap xs (par_ne hp) (fun W' q => ?_) hv hne ho (parErr_zero hp).1 hV).mono fun e w' hpa => ?_
  · have h2 := Parse_put (.slice (some ⟨vb, 0, none⟩) xs.length cap) xs W' (hv.kept' q (fun _ _ _ => by simp)) ho (hT.kept q)
    rw [hp] at h2
    exact h2
  · obtain ⟨z, nw, er, D2, n2, h1, h2, h3, h4, h5, _⟩ := put_cases h hn hp ho hpa
    exact ⟨⟨z, nw, er, h1, h2⟩, h5, n2, D2, h4, h3⟩
/-- An empty tree. -/
theorem parErr_tree0 [TabC] : parErr [2, 0] = 0 := by
  have e : xAt [2, 0] 0 = 2 := rfl
  have g : gOk [2, 0] = true := by
    unfold gOk guessO
    rw [e, if_neg (by decide), if_pos rfl]
    have h : gTree [2, 0] = [] := by rfl
    rw [h]
    simp [faultO, encO, kindO]
    exact ⟨rfl, rfl⟩
  unfold parErr
  rw [if_neg (by decide), e, if_neg (by decide), if_pos g]
end Go.Proofs.YtddhhjgegkkjbaaGreatDoor
