/-
  PLAIN: what a tree, a tag are written as is read as just them.
-/
import Derived.Test.YtolnpdigacapkaaDoorBack0
import Derived.Test.YtolnpdigacapkaaDoorRead0
namespace Go.Proofs.YtolnpdigacapkaaDoor
open Go.RowKit

theorem drop_at {xs a b : List Int} {p : Nat} (h : xs.drop p = a ++ b) : xs.drop (p + a.length) = b := by
  rw [← List.drop_drop, h, List.drop_left]
theorem idOf_id {t : List Int} (h : t.length = 32) : idOf t = t := by
  unfold idOf
  rw [h, List.drop_eq_nil_of_le (by decide), List.append_nil]

/-- An entry that may be written. -/
structure EntL.Fit (e : EntL) : Prop where
  m0 : 0 ≤ e.mode
  m1 : e.mode ≤ 255
  name : e.name.length ≤ 255
  id : e.id.length = 32
theorem rdE_back (xs : List Int) (p : Nat) (e : EntL) (tl : List Int) (hf : e.Fit) (hd : xs.drop p = entB e ++ tl) : rdE xs p 0 = (e, p + (entB e).length, 0) := by
  have d0 : xs.drop p = fixedB e.mode 1 ++ (varB e.name.length ++ e.name ++ (e.id ++ tl)) := by rw [hd]; unfold entB; simp only [List.append_assoc]
  have t1 := back_fixed xs p 1 e.mode _ hf.m0 (by have := hf.m1; show e.mode < 256 ^ 1; omega) d0
  have d1 := drop_at d0
  rw [fixedB_len] at d1
  have t2 := back_bytes' xs (p + 1) e.name (e.id ++ tl) 255 (by have := hf.name; omega) (by have := hf.name; omega) d1
  have d2 := drop_at d1
  have t3 := back_raw xs _ e.id tl d2
  rw [hf.id] at t3
  have t1' : takeL xs p 0 0 1 0 = ⟨e.mode, [], p + 1, 0⟩ := t1
  have t3' : takeL xs (p + 1 + (varB e.name.length ++ e.name).length) 0 3 32 0 = ⟨0, e.id, p + 1 + (varB e.name.length ++ e.name).length + 32, 0⟩ := t3
  unfold rdE
  rw [t1']
  dsimp only
  rw [t2]
  dsimp only
  rw [t3']
  dsimp only
  rw [idOf_id hf.id]
  refine Prod.ext rfl (Prod.ext ?_ rfl)
  show p + 1 + (varB e.name.length ++ e.name).length + 32 = p + (entB e).length
  unfold entB
  simp only [List.length_append, fixedB_len, hf.id]
  omega
theorem rdEs_back (xs : List Int) (pl : Nat) (es : List EntL) (tl : List Int) (hf : ∀ e, e ∈ es → e.Fit) (hd : xs.drop pl = entsB es ++ tl) : ∀ k, k ≤ es.length → rdEs xs pl 0 k = (es.take k, pl + (entsB (es.take k)).length, 0) := by
  intro k
  induction k with
  | zero => intro _; simp [rdEs, entsB]
  | succ k ih =>
    intro hk
    have h := ih (by omega)
    obtain ⟨e, he⟩ : ∃ e, es[k]? = some e := ⟨_, List.getElem?_eq_getElem (by omega)⟩
    have hlt : k < es.length := by omega
    have hek : es[k] = e := (List.getElem?_eq_some_iff.1 he).2
    have hsp : entsB es = entsB (es.take k) ++ (entB e ++ entsB (es.drop (k + 1))) := by
      have e1 : es = es.take k ++ (e :: es.drop (k + 1)) := by rw [← hek, ← List.drop_eq_getElem_cons hlt, List.take_append_drop]
      unfold entsB
      conv => lhs; rw [e1]
      rw [List.flatMap_append, List.flatMap_cons]
    rw [hsp, List.append_assoc] at hd
    have hd2 := drop_at hd
    rw [List.append_assoc] at hd2
    have hr := rdE_back xs _ e _ (hf e (List.mem_of_getElem? he)) hd2
    unfold rdEs
    rw [h]
    dsimp only
    rw [hr, entsB_succ he, List.take_succ_eq_append_getElem hlt, hek, List.length_append, ← Nat.add_assoc]
/-- A tree's own encoding, read. -/
theorem tree_back (es : List EntL) (hn : es.length ≤ 1024) (hf : ∀ e, e ∈ es → e.Fit) : takeL (encT es) 0 0 0 1 0 = ⟨2, [], 1, 0⟩ ∧ takeL (encT es) 1 0 1 0 1024 = ⟨es.length, [], 1 + (varB es.length).length, 0⟩ ∧ rdEs (encT es) (1 + (varB es.length).length) 0 es.length = (es, (encT es).length, 0) := by
  have d0 : (encT es).drop 0 = fixedB 2 1 ++ (varB es.length ++ entsB es) := by rw [List.drop_zero]; unfold encT; rw [List.append_assoc]
  have t0 := back_fixed (encT es) 0 1 2 _ (by decide) (by decide) d0
  have d1 := drop_at d0
  rw [fixedB_len, Nat.zero_add] at d1
  have t1 := back_var' (encT es) 1 (es.length : Int) 1024 (entsB es) (by omega) (by omega) (by omega) d1
  have d2 := drop_at d1
  have t2 := rdEs_back (encT es) (1 + (varB es.length).length) es [] hf (by rw [d2, List.append_nil]) es.length (Nat.le_refl _)
  refine ⟨t0, t1, ?_⟩
  rw [t2, List.take_length]
  refine Prod.ext rfl (Prod.ext ?_ rfl)
  show 1 + (varB es.length).length + (entsB es).length = (encT es).length
  unfold encT
  simp only [List.length_append, fixedB_len]
end Go.Proofs.YtolnpdigacapkaaDoor
