/-
  A STORE OF ENCODINGS: each entry is what object.Parse takes, under its own digest.
-/
import Derived.Test.YtbphibolgckmnaaGreatDoorObj0
import Derived.Test.YtbphibolgckmnaaGreatDoorLk0
import Derived.Test.YtbphibolgckmnaaGreatDoorAll1
namespace Go.Proofs.YtbphibolgckmnaaGreatDoor
open Go.RowKit Go.WideMaps

theorem par_ne [TabC] {xs : List Int} (h : parErr xs = 0) : xs ≠ [] := fun e => by
  subst e
  have := (parErr_zero h).2.1
  simp [xAt] at this
structure Fl [TabC] (w : World) (s b n : Nat) (D : DataW Unit) : Prop where
  st : St w s b n D
  good : ∀ kl, Maps.has D kl = true → ∃ g c xs, D.atKey kl .nil = slD g xs.length c ∧ kl = idKey (digL xs) ∧ parErr xs = 0 ∧ Octs xs ∧ BytesAt w (.slice (some ⟨g, 0, none⟩) xs.length c) xs
section
variable {w w' : World} {s b n : Nat} {D : DataW Unit}
theorem Fl.on [TabC] (h : Fl w s b n D) (k : Kept [] w w') : Fl w' s b n D :=
  ⟨h.st.on k, fun kl hk => by
    obtain ⟨g, c, xs, h1, h2, h3, h4, h5⟩ := h.good kl hk
    exact ⟨g, c, xs, h1, h2, h3, h4, h5.kept' k (fun _ _ _ => by simp)⟩⟩
theorem Fl.non [TabC] (h : Fl w s b n D) : NonE D := fun kl g m c hk he => by
  obtain ⟨g', c', xs, h1, _, h3, _⟩ := h.good kl hk
  obtain ⟨_, rfl, _⟩ := slD_inj (he.symm.trans h1)
  exact fun e => par_ne h3 (List.eq_nil_of_length_eq_zero e)
theorem Fl.start [TabC] (h : St w s b 0 (.map [])) : Fl w s b 0 (.map []) := ⟨h, fun kl hk => by cases hk⟩
/-- Entries that stay are as they were where the map alone is written to. -/
theorem Fl.off [TabC] (h : Fl w s b n D) (k : Kept [b] w w') {kl : Lit} (hk : Maps.has D kl = true) : ∃ g c xs, D.atKey kl .nil = slD g xs.length c ∧ kl = idKey (digL xs) ∧ parErr xs = 0 ∧ Octs xs ∧ BytesAt w' (.slice (some ⟨g, 0, none⟩) xs.length c) xs := by
  obtain ⟨g, c, xs, h1, h2, h3, h4, h5⟩ := h.good kl hk
  refine ⟨g, c, xs, h1, h2, h3, h4, h5.kept' k (fun _ x hx hm => ?_)⟩
  obtain ⟨g', c', xs', q1, q2, _⟩ := h.st.lists kl hk
  obtain ⟨rfl, _, _⟩ := slD_inj (h1.symm.trans q1)
  obtain rfl : g = x := by simpa [blkOf] using hx
  exact q2 (by simpa using hm)
theorem Fl.put [TabC] (h : Fl w s b n D) (k : Kept [b] w w') {g c : Nat} {xs : List Int} (hs : St w' s b (n + 1) (D.put (idKey (digL xs)) (slD g xs.length c))) (hp : parErr xs = 0) (ho : Octs xs) (hb : BytesAt w' (.slice (some ⟨g, 0, none⟩) xs.length c) xs) : Fl w' s b (n + 1) (D.put (idKey (digL xs)) (slD g xs.length c)) :=
  ⟨hs, fun kl hk => by
    by_cases e : kl = idKey (digL xs)
    · subst e
      exact ⟨g, c, xs, Maps.atKey_put_same h.st.own.isMap (idKey_lit _) _ _, rfl, hp, ho, hb⟩
    · rw [Maps.has_put_other e] at hk
      rw [Maps.atKey_put_other e]
      exact h.off k hk⟩
theorem Fl.del [TabC] (h : Fl w s b n D) (k : Kept [b] w w') {kl : Lit} (hs : St w' s b n (D.del kl)) : Fl w' s b n (D.del kl) :=
  ⟨hs, fun q hq => by
    by_cases e : q = kl
    · subst e
      rw [Maps.has_del_same] at hq
      cases hq
    · rw [Maps.has_del_other e] at hq
      rw [Maps.atKey_del_other e]
      exact h.off k hq⟩
end
theorem row_one {w : World} {o : ObjL} (h : ObjL.Good w o) : o.row.toArray.size = 76 ∧ o.row.toArray.all (·.oneCell') = true := ⟨by rw [List.size_toArray]; exact objL_len h.com.tree.1 h.tag.target.1, objL_one h⟩
/-- object.Parse, of any bytes, as Put sees it. -/
theorem Parse_put [TabC] (v : Value) (xs : List Int) (w : World) (hv : BytesAt w v xs) (ho : Octs xs) (hT : Tabs w) : Calls Tryz.prog 35 #[v] w fun e w' => ∃ br : Array Value, e = .returned (.tuple #[.agg br, .int .i64 (parErr xs)]) ∧ br.size = 76 ∧ br.all (·.oneCell') = true ∧ Kept [] w w' :=
  (Parse_any v xs w hv ho hT).mono fun _ _ ⟨_, h1, h2, h3, _⟩ => ⟨_, h1, (row_one h2).1, (row_one h2).2, h3⟩
end Go.Proofs.YtbphibolgckmnaaGreatDoor
