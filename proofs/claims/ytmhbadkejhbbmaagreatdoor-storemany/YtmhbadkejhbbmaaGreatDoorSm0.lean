/-
  MANY STORES, each by itself, in a list: what a law over them keeps.
-/
import Derived.Test.YtmhbadkejhbbmaaGreatDoorIds1
import Derived.Test.YtmhbadkejhbbmaaGreatDoorSk5
namespace Go.Proofs.YtmhbadkejhbbmaaGreatDoor
open Go.RowKit Go.WideMaps

/-- The object that the i-th store is given. -/
def crowdX (sd : Int) (i : Nat) : List Int := [1, 99, sd, i]
def oneD (xs : List Int) (g c : Nat) : DataW Unit := (DataW.map []).put (idKey (digL xs)) (slD g xs.length c)
/-- A store of one object. -/
structure OneS (W : World) (s b g c : Nat) (xs : List Int) : Prop where
  st : St W s b 1 (oneD xs g c)
  bytes : BytesAt W (.slice (some ⟨g, 0, none⟩) xs.length c) xs
theorem oneD_has (xs : List Int) (g c : Nat) : Maps.has (oneD xs g c) (idKey (digL xs)) = true := Maps.has_put_same Maps.isMap_empty (idKey_lit _) _
theorem oneD_only {xs : List Int} {g c : Nat} {kl : Lit} (h : Maps.has (oneD xs g c) kl = true) : kl = idKey (digL xs) := by
  by_cases e : kl = idKey (digL xs)
  · exact e
  · unfold oneD at h
    rw [Maps.has_put_other e] at h
    cases h
theorem oneD_at (xs : List Int) (g c : Nat) : (oneD xs g c).atKey (idKey (digL xs)) .nil = slD g xs.length c := Maps.atKey_put_same Maps.isMap_empty (idKey_lit _) _ _
theorem oneD_size (xs : List Int) (g c : Nat) : Maps.size (oneD xs g c) = 1 := by
  unfold oneD
  rw [Maps.size_put Maps.tidy_empty]
  rfl
theorem oneD_non {xs : List Int} (hx : xs ≠ []) (g c : Nat) : NonE (oneD xs g c) := fun kl g' m c' hk he => by
  rw [oneD_only hk, oneD_at] at he
  obtain ⟨_, rfl, _⟩ := slD_inj he
  exact fun e => hx (List.eq_nil_of_length_eq_zero e)
theorem OneS.on {W W' : World} {s b g c : Nat} {xs : List Int} (h : OneS W s b g c xs) (k : Kept [] W W') : OneS W' s b g c xs := ⟨h.st.on k, h.bytes.kept' k (fun _ _ _ => by simp)⟩
theorem OneS.off {W W' : World} {s b g c r : Nat} {xs : List Int} (h : OneS W s b g c xs) (k : Kept [r] W W') (hs : s ≠ r) (hb : b ≠ r) (hg : g ≠ r) : OneS W' s b g c xs := by
  refine ⟨h.st.keepR k hs hb (fun kl g' m c' hk he => ?_), h.bytes.kept' k (fun _ x hx hm => ?_)⟩
  · rw [oneD_only hk, oneD_at] at he
    obtain ⟨rfl, _, _⟩ := slD_inj he
    exact Or.inl hg
  · obtain rfl : g = x := by simpa [blkOf] using hx
    exact hg (by simpa using hm)
/-- The stores' list. -/
structure Crowd (W : World) (B : Nat) (v : Value) (sd : Int) (ss : List Nat) : Prop where
  own : W.ownsRow B 26 1 v ss.length (ss.map fun s => Value.pointer (some ⟨s, 0, none⟩))
  all : ∀ (i s : Nat), ss[i]? = some s → ∃ b g c, OneS W s b g c (crowdX sd i)
  empty : ss = [] → v = .slice none 0 0
theorem Crowd.on {W W' : World} {B : Nat} {v : Value} {sd : Int} {ss : List Nat} (h : Crowd W B v sd ss) (k : Kept [] W W') : Crowd W' B v sd ss :=
  ⟨ownsK_on h.own k (fun _ _ => by simp), fun i s hs => by
    obtain ⟨b, g, c, h1⟩ := h.all i s hs
    exact ⟨b, g, c, h1.on k⟩, h.empty⟩
/-- One more store is laid behind the others. -/
theorem Crowd.push {W W' : World} {B : Nat} {v v' : Value} {sd : Int} {ss : List Nat} {s b g c : Nat} (h : Crowd W B v sd ss) (hn : OneS W s b g c (crowdX sd ss.length)) (ho : W'.ownsRow B 26 1 v' (ss.length + 1) ((ss.map fun s => Value.pointer (some ⟨s, 0, none⟩)) ++ [Value.pointer (some ⟨s, 0, none⟩)])) (k : Kept v.ownBlock.toList W W') : Crowd W' B v' sd (ss ++ [s]) := by
  have key : ∀ {s b g c i}, OneS W s b g c (crowdX sd i) → OneS W' s b g c (crowdX sd i) := fun {s b g c i} h1 => by
    obtain ⟨_, ⟨hv, _⟩ | ⟨r, cap, cur, hv, _, hc, hcap, _, _, htk⟩⟩ := h.own
    · rw [hv] at k
      exact h1.on k
    · have k' : Kept [r] W W' := by
        rw [hv] at k
        exact k
      refine h1.off k' (fun e => ?_) (fun e => ?_) (fun e => ?_)
      · have := h1.st.blk
        rw [e, hc] at this
        injection this with this
        injection this with _ this _
        exact absurd this (by decide)
      · obtain ⟨es, clock, hm, _⟩ := h1.st.own
        rw [e, hc] at hm
        cases hm
      · obtain ⟨ao, cp, he, _, _, hcell⟩ := h1.bytes
        obtain ⟨b', off, rfl, hc2⟩ := hcell (by simp [crowdX])
        injection he with he _ _
        injection he with he
        injection he with he1 he2 _
        have h2 := hc2 0 1 rfl
        rw [← he1, ← he2, e, cell_of_row _ _ _ _ _ _ hc] at h2
        cases hss : ss with
        | nil => rw [h.empty hss] at hv; cases hv
        | cons q qs =>
          rw [hss] at htk
          have h3 : cur.toList[0]? = some (Value.pointer (some ⟨q, 0, none⟩)) := by
            have h4 : (cur.toList.take ((q :: qs).length * 1))[0]? = cur.toList[0]? := List.getElem?_take_of_lt (by simp)
            rw [← h4, htk]
            rfl
          rw [Array.getElem?_toList] at h3
          rw [show (0 : Nat) + 0 = 0 from rfl] at h2
          rw [h3] at h2
          cases h2
  refine ⟨?_, fun i q hq => ?_, fun e => by simp at e⟩
  · rw [List.length_append, List.length_singleton, List.map_append, List.map_singleton]
    exact ho
  · rcases Nat.lt_or_ge i ss.length with hi | hi
    · rw [List.getElem?_append_left hi] at hq
      obtain ⟨b', g', c', h1⟩ := h.all i q hq
      exact ⟨b', g', c', key h1⟩
    · rw [List.getElem?_append_right hi] at hq
      obtain rfl : i = ss.length := by
        have := (List.getElem?_eq_some_iff.1 hq).1
        simp at this
        omega
      have : s = q := by simpa using hq
      subst this
      exact ⟨b, g, c, key hn⟩
end Go.Proofs.YtmhbadkejhbbmaaGreatDoor
