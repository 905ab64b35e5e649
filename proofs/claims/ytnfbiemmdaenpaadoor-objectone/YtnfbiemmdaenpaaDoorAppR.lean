/-
  PLAIN: an encoding parses; no encoding but a blob's is a beginning of another.
  PLAIN: what two objects, or bytes, that say the same are written as.
  APPEND of a whole list of structs of k cells to a list of one's own.
-/
import Derived.Test.YtnfbiemmdaenpaaDoorGp5
import Derived.Test.YtnfbiemmdaenpaaDoorSame2
import Derived.Test.YtnfbiemmdaenpaaDoorAppK
import Derived.Laws.AppendOwnNone
namespace Go.Proofs.YtnfbiemmdaenpaaDoor
open Go.RowKit

theorem xAt_app {xs tl : List Int} (h : xs ≠ []) : xAt (xs ++ tl) 0 = xAt xs 0 := by
  cases xs with
  | nil => exact absurd rfl h
  | cons x xs => rfl
theorem xAt_take {xs : List Int} {k : Nat} (h : 0 < k) : xAt (xs.take k) 0 = xAt xs 0 := by
  cases xs with
  | nil => simp
  | cons x xs =>
    cases k with
    | zero => omega
    | succ k => rfl
theorem par_ne {xs : List Int} (h : parErr xs = 0) : xs ≠ [] := fun e => by
  subst e
  have := (parErr_zero h).2.1
  exact absurd this (by decide)
theorem par_gok {xs : List Int} (h : parErr xs = 0) : gOk xs = true := by
  obtain ⟨h1, h2, h3⟩ := parErr_zero h
  rw [parErr_kind (by omega) ⟨h2, h3⟩] at h
  split at h
  · assumption
  · exact absurd h (by decide)
theorem par_nil : parErr [] = 30 := by
  unfold parErr
  rw [if_neg (by decide), if_pos (by decide)]
theorem par_blob {xs : List Int} (hl : xs.length ≤ 65536) (hk : xAt xs 0 = 1) (hne : xs ≠ []) : parErr xs = 0 := by
  rw [parErr_kind (by omega) ⟨by omega, by omega⟩, if_pos (gok_blob hk hne)]
theorem gTree_good {xs : List Int} (ho : Octs xs) (hl : xs.length ≤ 65536) : ∀ e, e ∈ gTree xs → e.Good := fun e he => gEnts_good ho hl _ _ e he
/-- Of two encodings the one that begins with the other is it, unless it is a blob's. -/
theorem par_free {xs tl : List Int} (ho : Octs xs) (h1 : parErr xs = 0) (h2 : parErr (xs ++ tl) = 0) (hk : xAt xs 0 ≠ 1) : tl = [] := by
  have hne := par_ne h1
  have g1 := par_gok h1
  have g2 := par_gok h2
  obtain ⟨hl, k1, k4⟩ := parErr_zero h1
  have ek : xAt (xs ++ tl) 0 = xAt xs 0 := xAt_app hne
  have key : xs ++ tl = xs → tl = [] := fun h => by
    have := congrArg List.length h
    rw [List.length_append] at this
    exact List.eq_nil_of_length_eq_zero (by omega)
  rcases (by omega : xAt xs 0 = 2 ∨ xAt xs 0 = 3 ∨ xAt xs 0 = 4) with h | h | h
  · obtain ⟨f1, e1⟩ := (gok_tree h).1 g1
    obtain ⟨f2, e2⟩ := (gok_tree (ek.trans h)).1 g2
    have hg := gTree_encT (gTree xs) (faultT_zero f1).1 (ents_fit (gTree_good ho hl) f1) tl
    rw [e1] at hg
    rw [hg, e1] at e2
    exact key e2.symm
  · obtain ⟨f1, e1⟩ := (gok_com h).1 g1
    obtain ⟨f2, e2⟩ := (gok_com (ek.trans h)).1 g2
    have hg := gCom_encT (gCom xs) (com_fit (gCom_good ho hl) f1) tl
    rw [e1] at hg
    rw [hg, e1] at e2
    exact key e2.symm
  · obtain ⟨f1, e1⟩ := (gok_tag h).1 g1
    obtain ⟨f2, e2⟩ := (gok_tag (ek.trans h)).1 g2
    have hg := gTag_encT (gTag xs) (tag_fit (gTag_good ho hl) f1) tl
    rw [e1] at hg
    rw [hg, e1] at e2
    exact key e2.symm
theorem par_take {xs : List Int} {k : Nat} (ho : Octs xs) (h : parErr xs = 0) (hk : xAt xs 0 ≠ 1) (hlt : k < xs.length) : parErr (xs.take k) ≠ 0 := fun h1 => by
  have hne := par_ne h1
  have h0 : 0 < k := by
    rcases Nat.eq_zero_or_pos k with e | e
    · subst e; exact absurd (List.take_zero) hne
    · exact e
  have := par_free (xs := xs.take k) (tl := xs.drop k) (fun u hu => ho u (List.mem_of_mem_take hu)) h1 (by rw [List.take_append_drop]; exact h) (by rw [xAt_take h0]; exact hk)
  have := congrArg List.length this
  rw [List.length_drop] at this
  exact absurd this (by show xs.length - k ≠ 0; omega)
theorem par_long {xs : List Int} {b : Int} (ho : Octs xs) (h : parErr xs = 0) (hk : xAt xs 0 ≠ 1) (hl : xs.length < 65536) : parErr (xs ++ [b]) = 37 := by
  have hne := par_ne h
  obtain ⟨_, k1, k4⟩ := parErr_zero h
  have ek : xAt (xs ++ [b]) 0 = xAt xs 0 := xAt_app hne
  rw [parErr_kind (by rw [List.length_append, List.length_singleton]; omega) (by rw [ek]; exact ⟨k1, k4⟩)]
  by_cases hg : gOk (xs ++ [b]) = true
  · have h2 : parErr (xs ++ [b]) = 0 := by rw [parErr_kind (by rw [List.length_append, List.length_singleton]; omega) (by rw [ek]; exact ⟨k1, k4⟩), if_pos hg]
    exact absurd (par_free ho h h2 hk) (by simp)
  · rw [if_neg hg]

theorem encB_at (b : List Int) : xAt (encB b) 0 = 1 ∧ encB b ≠ [] ∧ (encB b).drop 1 = b := by
  have e : fixedB 1 1 = [1] := fixedB_one 1 (by decide) (by decide)
  unfold encB
  rw [e]
  exact ⟨rfl, by simp, rfl⟩
theorem encT_at (es : List EntL) : xAt (encT es) 0 = 2 := by
  have e : fixedB 2 1 = [2] := fixedB_one 2 (by decide) (by decide)
  unfold encT
  rw [e]
  rfl
theorem encC_at (c : ComL) : xAt (encC c) 0 = 3 := by
  have e : fixedB 3 1 = [3] := fixedB_one 3 (by decide) (by decide)
  unfold encC
  rw [e]
  rfl
theorem encG_at (t : TagL) : xAt (encG t) 0 = 4 := by
  have e : fixedB 4 1 = [4] := fixedB_one 4 (by decide) (by decide)
  unfold encG
  rw [e]
  rfl
theorem errO_zero {o : ObjL} (h : errO o = 0) : faultO o = 0 ∧ (encO o).length ≤ 65536 := by
  unfold errO encErr at h
  split at h
  · contradiction
  · split at h
    · exact absurd h (by decide)
    · exact ⟨by omega, by omega⟩
/-- What belongs to its kind. -/
def onlyO (o : ObjL) (bv ev pv : Value) : ObjL :=
  if o.kind = 1 then { kindO 1 with bv := bv, blob := o.blob } else if o.kind = 2 then { kindO 2 with ev := ev, es := o.es }
  else if o.kind = 3 then { kindO 3 with com := o.com, pv := pv } else { kindO 4 with tag := o.tag }
theorem enc_kind {o : ObjL} (h : errO o = 0) : o.kind = 1 ∨ o.kind = 2 ∨ o.kind = 3 ∨ o.kind = 4 := by
  have hf := (errO_zero h).1
  unfold faultO at hf
  by_cases k1 : o.kind = 1
  · exact .inl k1
  · by_cases k2 : o.kind = 2
    · exact .inr (.inl k2)
    · by_cases k3 : o.kind = 3
      · exact .inr (.inr (.inl k3))
      · by_cases k4 : o.kind = 4
        · exact .inr (.inr (.inr k4))
        · rw [if_neg k1, if_neg k2, if_neg k3, if_neg k4] at hf
          exact absurd hf (by decide)
/-- An encoding, parsed. -/
theorem enc_par {w : World} {o : ObjL} (hg : ObjL.Good w o) (h : errO o = 0) : parErr (encO o) = 0 ∧ ∀ bv ev pv, guessO (encO o) bv ev pv = onlyO o bv ev pv := by
  obtain ⟨hf, hl⟩ := errO_zero h
  rcases enc_kind h with k | k | k | k
  · have ee : encO o = encB o.blob := by unfold encO; rw [if_pos k]
    rw [ee] at hl ⊢
    obtain ⟨a1, a2, a3⟩ := encB_at o.blob
    refine ⟨par_blob hl a1 a2, fun bv ev pv => ?_⟩
    rw [guessO_blob a1, a3]
    unfold onlyO
    rw [if_pos k]
  · have ee : encO o = encT o.es := by unfold encO; rw [if_neg (by omega), if_pos k]
    have ef : faultO o = faultT o.es := by unfold faultO; rw [if_neg (by omega), if_pos k]
    rw [ee] at hl ⊢
    rw [ef] at hf
    have a1 := encT_at o.es
    have hgt := gTree_enc o.es (faultT_zero hf).1 (ents_fit hg.es hf)
    refine ⟨?_, fun bv ev pv => ?_⟩
    · rw [parErr_kind (by omega) ⟨by omega, by omega⟩, if_pos ((gok_tree a1).2 (by rw [hgt]; exact ⟨hf, rfl⟩))]
    · rw [guessO_tree a1, hgt]
      unfold onlyO
      rw [if_neg (by omega), if_pos k]
  · have ee : encO o = encC o.com := by unfold encO; rw [if_neg (by omega), if_neg (by omega), if_pos k]
    have ef : faultO o = faultC o.com := by unfold faultO; rw [if_neg (by omega), if_neg (by omega), if_pos k]
    rw [ee] at hl ⊢
    rw [ef] at hf
    have a1 := encC_at o.com
    have hgt := gCom_enc o.com (com_fit hg.com hf)
    refine ⟨?_, fun bv ev pv => ?_⟩
    · rw [parErr_kind (by omega) ⟨by omega, by omega⟩, if_pos ((gok_com a1).2 (by rw [hgt]; exact ⟨hf, rfl⟩))]
    · rw [guessO_com a1, hgt]
      unfold onlyO
      rw [if_neg (by omega), if_neg (by omega), if_pos k]
  · have ee : encO o = encG o.tag := by unfold encO; rw [if_neg (by omega), if_neg (by omega), if_neg (by omega), if_pos k]
    have ef : faultO o = faultG o.tag := by unfold faultO; rw [if_neg (by omega), if_neg (by omega), if_neg (by omega), if_pos k]
    rw [ee] at hl ⊢
    rw [ef] at hf
    have a1 := encG_at o.tag
    have hgt := gTag_enc o.tag (tag_fit hg.tag hf)
    refine ⟨?_, fun bv ev pv => ?_⟩
    · rw [parErr_kind (by omega) ⟨by omega, by omega⟩, if_pos ((gok_tag a1).2 (by rw [hgt]; exact ⟨hf, rfl⟩))]
    · rw [guessO_tag a1, hgt]
      unfold onlyO
      rw [if_neg (by omega), if_neg (by omega), if_neg (by omega)]
theorem octs_varN (n : Nat) (h : n ≤ 140737488351232) : Octs (varB n) := varB_octs _ (by omega) (by omega)
theorem octs_encO {w : World} {o : ObjL} (hg : ObjL.Good w o) (h : errO o = 0) : Octs (encO o) := by
  rcases enc_kind h with k | k | k | k
  · rw [show encO o = encB o.blob by unfold encO; rw [if_pos k]]
    exact octs_app (fixedB_octs _ _) hg.blob.1
  · rw [show encO o = encT o.es by unfold encO; rw [if_neg (by omega), if_pos k]]
    have hl : o.es.length ≤ 140737488351232 := by obtain ⟨_, _, _, _, h, _⟩ := hg.ev.form; exact h
    refine octs_app (octs_app (fixedB_octs _ _) (octs_varN _ hl)) ?_
    intro u hu
    unfold entsB at hu
    obtain ⟨e, he, hu⟩ := List.mem_flatMap.1 hu
    have hge := hg.es e he
    exact (octs_app (octs_app (fixedB_octs _ _) (octs_app (octs_varN _ hge.name.2) hge.name.1)) hge.id.2 : Octs (entB e)) u hu
  · rw [show encO o = encC o.com by unfold encO; rw [if_neg (by omega), if_neg (by omega), if_pos k]]
    have hl : o.com.parents.length ≤ 140737488351232 := by obtain ⟨_, _, _, _, _, h, _⟩ := hg.pv; exact h
    have hpo : Octs o.com.parents.flatten := fun u hu => by
      obtain ⟨x, hx, hu⟩ := List.mem_flatten.1 hu
      exact (hg.com.parents x hx).2 u hu
    unfold encC
    exact octs_app (octs_app (octs_app (octs_app (octs_app (octs_app (octs_app (octs_app (fixedB_octs _ _) hg.com.tree.2) (octs_varN _ hl)) hpo) (octs_varN _ hg.com.who.2)) hg.com.who.1) (fixedB_octs _ _)) (octs_varN _ hg.com.text.2)) hg.com.text.1
  · rw [show encO o = encG o.tag by unfold encO; rw [if_neg (by omega), if_neg (by omega), if_neg (by omega), if_pos k]]
    unfold encG
    exact octs_app (octs_app (octs_app (octs_app (octs_app (octs_app (octs_app (octs_app (octs_app (fixedB_octs _ _) hg.tag.target.2) (fixedB_octs _ _)) (octs_varN _ hg.tag.name.2)) hg.tag.name.1) (octs_varN _ hg.tag.who.2)) hg.tag.who.1) (fixedB_octs _ _)) (octs_varN _ hg.tag.text.2)) hg.tag.text.1
end Go.Proofs.YtnfbiemmdaenpaaDoor

namespace Go.Proofs.YtnfbiemmdaenpaaDoor
open Go.RowKit

theorem com_ext {c d : ComL} (h1 : c.parents = d.parents) (h2 : c.tree = d.tree) (h3 : c.who = d.who) (h4 : c.time = d.time) (h5 : c.text = d.text) : c = d := by
  obtain ⟨a, b, e, f, g⟩ := c
  obtain ⟨a', b', e', f', g'⟩ := d
  simp only at h1 h2 h3 h4 h5
  subst h1 h2 h3 h4 h5
  rfl
theorem SameO.com {o p : ObjL} (h : SameO o p) : o.com = p.com := com_ext h.2.2.2.1 h.2.2.2.2.1 h.2.2.2.2.2.1 h.2.2.2.2.2.2.1 h.2.2.2.2.2.2.2.1
theorem SameO.enc {o p : ObjL} (h : SameO o p) : encO o = encO p := by
  unfold encO
  rw [h.1, h.2.1, h.2.2.1, h.com, h.2.2.2.2.2.2.2.2]
theorem sameO_of {o p : ObjL} (h1 : o.kind = p.kind) (h2 : o.blob = p.blob) (h3 : o.es = p.es) (h4 : o.com = p.com) (h5 : o.tag = p.tag) : SameO o p :=
  ⟨h1, h2, h3, by rw [h4], by rw [h4], by rw [h4], by rw [h4], by rw [h4], h5⟩
theorem only_places (o : ObjL) (b e p b' e' p' : Value) : SameO (onlyO o b e p) (onlyO o b' e' p') := by
  unfold onlyO
  split
  · exact sameO_of rfl rfl rfl rfl rfl
  · split
    · exact sameO_of rfl rfl rfl rfl rfl
    · split
      · exact sameO_of rfl rfl rfl rfl rfl
      · exact sameO_of rfl rfl rfl rfl rfl
theorem guess_places (xs : List Int) (b e p b' e' p' : Value) : SameO (guessO xs b e p) (guessO xs b' e' p') := by
  unfold guessO
  split
  · exact sameO_of rfl rfl rfl rfl rfl
  · split
    · exact sameO_of rfl rfl rfl rfl rfl
    · split
      · exact sameO_of rfl rfl rfl rfl rfl
      · exact sameO_of rfl rfl rfl rfl rfl
theorem SameO.trans {o p q : ObjL} (h : SameO o p) (g : SameO p q) : SameO o q :=
  sameO_of (h.1.trans g.1) (h.2.1.trans g.2.1) (h.2.2.1.trans g.2.2.1) (h.com.trans g.com) (h.2.2.2.2.2.2.2.2.trans g.2.2.2.2.2.2.2.2)
theorem enc_only {o : ObjL} (h : errO o = 0) (b e p : Value) : encO (onlyO o b e p) = encO o := by
  rcases enc_kind h with k | k | k | k
  · have e1 : onlyO o b e p = { kindO 1 with bv := b, blob := o.blob } := by unfold onlyO; rw [if_pos k]
    rw [e1]
    unfold encO
    rw [if_pos k]
    rfl
  · have e1 : onlyO o b e p = { kindO 2 with ev := e, es := o.es } := by unfold onlyO; rw [if_neg (by omega), if_pos k]
    rw [e1]
    unfold encO
    rw [if_neg (show ¬ o.kind = 1 by omega), if_pos k]
    rfl
  · have e1 : onlyO o b e p = { kindO 3 with com := o.com, pv := p } := by unfold onlyO; rw [if_neg (by omega), if_neg (by omega), if_pos k]
    rw [e1]
    unfold encO
    rw [if_neg (show ¬ o.kind = 1 by omega), if_neg (show ¬ o.kind = 2 by omega), if_pos k]
    rfl
  · have e1 : onlyO o b e p = { kindO 4 with tag := o.tag } := by unfold onlyO; rw [if_neg (by omega), if_neg (by omega), if_neg (by omega)]
    rw [e1]
    unfold encO
    rw [if_neg (show ¬ o.kind = 1 by omega), if_neg (show ¬ o.kind = 2 by omega), if_neg (show ¬ o.kind = 3 by omega), if_pos k]
    rfl
/-- One encoding each. -/
theorem only_iff {w : World} {A B : ObjL} (hA : ObjL.Good w A) (hB : ObjL.Good w B) (a0 : errO A = 0) (b0 : errO B = 0) (b e p b' e' p' : Value) : SameO (onlyO A b e p) (onlyO B b' e' p') ↔ encO A = encO B := by
  constructor
  · intro h
    rw [← enc_only a0 b e p, ← enc_only b0 b' e' p']
    exact h.enc
  · intro h
    have g1 := (enc_par hA a0).2 b e p
    have g2 := (enc_par hB b0).2 b' e' p'
    rw [← g1, ← g2, h]
    exact guess_places _ _ _ _ _ _ _
theorem guess_enc {xs : List Int} (h : parErr xs = 0) (b e p : Value) : encO (guessO xs b e p) = xs ∧ errO (guessO xs b e p) = 0 := by
  have hg := par_gok h
  obtain ⟨h1, h2⟩ := (gok_iff xs _ ⟨b, e, p, rfl⟩).1 hg
  refine ⟨h2, ?_⟩
  unfold errO encErr
  rw [h1, h2, if_neg (by decide), if_neg (by have := (parErr_zero h).1; omega)]
theorem guess_iff {xs ys : List Int} (hx : parErr xs = 0) (hy : parErr ys = 0) (b e p b' e' p' : Value) : SameO (guessO xs b e p) (guessO ys b' e' p') ↔ xs = ys := by
  constructor
  · intro h
    rw [← (guess_enc hx b e p).1, ← (guess_enc hy b' e' p').1]
    exact h.enc
  · rintro rfl
    exact guess_places _ _ _ _ _ _ _
end Go.Proofs.YtnfbiemmdaenpaaDoor

namespace Go.Proofs.YtnfbiemmdaenpaaDoor
open Go.RowKit

theorem wpList_append_rows {ops : Array Oper} {rest : List Oper} {o : Oper} {a : Act} {w : World} {Q : Exit → Act → World → Prop} (hgd : o.guard = none) (s x : Operand) (T e : TypeId) (z : Value) (k bytes : Nat)
    (hT : Tryd.prog.underlying T = some (.slice e)) (hinfo : (Tryd.prog.info? e).map (fun i => (i.zero, i.size, i.bytes)) = some (some z, k, bytes)) (hzk : z.cells.size = k) (hk : 0 < k)
    (ho : o.op = .call { callee := .builtin .append, args := #[s, x], argTypes := #[T, T] }) {B : Nat} {v : Value} {n : Nat} {xs : List Value} (hs : a.eval s = v) (hown : w.ownsRow B e k v n xs)
    {X : Value} {rows : List (List Value)} (hx : a.eval x = X) (hX : RowsAt w X k rows) (hr : ∀ r, r ∈ rows → r.length = k) (hu : ∀ r, r ∈ rows → ∀ u, u ∈ r → u.oneCell' = true) (hl : n + rows.length ≤ 1000000) (hb : bytes ≤ 1000) (hB : B ≤ w.heap.size)
    (h : ∀ v' w', w'.ownsRow B e k v' (n + rows.length) (xs ++ rows.flatten) → Kept v.ownBlock.toList w w' → wpList Tryd.prog ops Q rest (a.put o.dst v') w') : wpList Tryd.prog ops Q (o :: rest) a w := by
  refine wpList_plain hgd fun K hK => ?_
  obtain ⟨i0, hi, hez⟩ := Option.map_eq_some_iff.1 hinfo
  simp only [Prod.mk.injEq] at hez
  obtain ⟨q0, q1, q2⟩ := hez
  obtain ⟨ao, cap, rfl, hc, hnil, _, hcell⟩ := hX
  have hmul : (n + rows.length) * bytes ≤ 1000000 * 1000 := Nat.mul_le_mul hl hb
  have key : ∃ v' w', (Builtin.append_ #[T, T] o.type #[v, .slice ao rows.length cap]).run Tryd.prog w = .ok v' w' ∧ w'.ownsRow B e k v' (n + rows.length) (xs ++ rows.flatten) ∧ Kept v.ownBlock.toList w w' := by
    cases ao with
    | none =>
      obtain rfl : rows = [] := by
        by_cases hy : rows = []
        · exact hy
        · obtain ⟨b, off, hb, _⟩ := hcell hy; cases hb
      obtain rfl := hnil rfl
      exact ⟨v, w, run_append_owned_none (P := Tryd.prog) (w := w) B _ o.type e i0 k hT hi v _ _ hown, by rw [List.flatten_nil, List.append_nil]; exact hown, Kept.refl _ _⟩
    | some ad =>
      have hnews : ∀ j u, rows.flatten[j]? = some u → w.cell? (ad.add j) = some u := fun j u hj => by
        rw [flat_bind k hk rows hr] at hj
        obtain ⟨r, hr1, hj2⟩ := Option.bind_eq_some_iff.1 hj
        obtain ⟨b, off, hb, hh⟩ := hcell (by rintro rfl; simp at hr1)
        cases hb
        rw [Addr.add_mid]
        have h1 := hh (j / k) r hr1 (j % k) u hj2
        rw [show off + j / k * k + j % k = off + j by rw [Nat.add_assoc, Nat.mul_comm, Nat.div_add_mod]] at h1
        exact h1
      have hfl : rows.flatten.length = rows.length * k := flat_len k rows hr
      obtain ⟨v', w', hrun, h2, h3, _, _⟩ := run_append_own_at (P := Tryd.prog) w B T o.type e i0 z k bytes hT hi q0 q1 q2 hzk hk v n xs hown ad rows.length cap rows.flatten hfl hnews (fun u hm => by
        obtain ⟨r, hr1, hu1⟩ := List.mem_flatten.1 hm
        exact hu r hr1 u hu1) (by unfold maxLen; omega) (by omega) hB
      exact ⟨v', w', hrun, h2, (Kept.refl _ _).grown h3 fun k hk => Or.inl (by simp [hk])⟩
  obtain ⟨v', w', hrun, h2, h3⟩ := key
  unfold Oper.wp execOp
  simp only [ho, resolve, invoke, builtin, Sem.run_bind, Sem.run_pure, Result.andThen_ok, List.map_toArray, List.map_cons, List.map_nil, hs, hx, hrun]
  exact hK _ _ (h v' w' h2 h3)
theorem ownsK_blk {w : World} {B : Nat} {e : TypeId} {k : Nat} {v : Value} {n : Nat} {xs : List Value} (h : w.ownsRow B e k v n xs) : ∀ b, blkOf v = some b → B ≤ b := fun b hb => by
  obtain ⟨_, ⟨rfl, _⟩ | ⟨g, cap, cur, rfl, hB, _⟩⟩ := h
  · cases hb
  · obtain rfl : g = b := by simpa [blkOf] using hb
    exact hB
theorem IdsAt.rows {w : World} {v : Value} {ids : List (List Int)} : IdsAt w v ids ↔ RowsAt w v 32 (ids.map fun x => x.map (Value.int .u8)) := by
  constructor
  · rintro ⟨ao, cap, rfl, h1, h0, h2, hc⟩
    refine ⟨ao, cap, by rw [List.length_map], by rw [List.length_map]; exact h1, h0, by rw [List.length_map]; exact h2, fun hne => ?_⟩
    obtain ⟨b, off, hb, hh⟩ := hc (by simpa using hne)
    refine ⟨b, off, hb, fun i cs hi => ?_⟩
    rw [List.getElem?_map] at hi
    obtain ⟨x, hx, rfl⟩ := Option.map_eq_some_iff.1 hi
    exact hh i x hx
  · rintro ⟨ao, cap, rfl, h1, h0, h2, hc⟩
    rw [List.length_map] at h1 h2
    refine ⟨ao, cap, by rw [List.length_map], h1, h0, h2, fun hne => ?_⟩
    obtain ⟨b, off, hb, hh⟩ := hc (by simpa using hne)
    exact ⟨b, off, hb, fun i x hx => hh i _ (by rw [List.getElem?_map, hx]; rfl)⟩
end Go.Proofs.YtnfbiemmdaenpaaDoor
