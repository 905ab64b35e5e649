/-
  'append(l, b...)' at a step of a region that draws its order, and at a plain one: l a list of one's own, b any slice of bytes, nil too.
-/
import Derived.Test.YtpdlnmjnpodicaaDoorOwn0
import Derived.Maps.AppendAt
import Derived.Laws.AppendOwnNone
import Derived.Deep.RegionLaw
namespace Go.Proofs.YtpdlnmjnpodicaaDoor
open Go.RowKit

/-- What 'append' of bytes leaves: a list of one's own; nothing else has turned. -/
structure Appended (w w' : World) (B : Nat) (v v' : Value) (us : List Int) : Prop where
  own : OwnB w' B v' us
  keep : ∀ (a : World) (S : List Nat), Kept S a w → (∀ k, v.ownBlock = some k → k ∈ S ∨ a.heap.size ≤ k) → Kept S a w'
  at' : v'.ownBlock = v.ownBlock ∨ v'.ownBlock = some w.heap.size

theorem run_append_bytes {w : World} {B : Nat} {v : Value} {vs : List Int} (hown : OwnB w B v vs) {x : Value} {zs : List Int} (hx : BytesAt w x zs) (hl : vs.length + zs.length ≤ 140737488355328) (hB : B ≤ w.heap.size) (ty : TypeId) :
    ∃ v' w', (Builtin.append_ #[30, 30] ty #[v, x]).run Tryd.prog w = .ok v' w' ∧ Appended w w' B v v' (vs ++ zs) := by
  obtain ⟨i0, hi, hz0, hz1, hz2⟩ := info_parts Tryd.info_u8
  obtain ⟨ao, cap, rfl, hc, hnil, hcell⟩ := hx
  cases ao with
  | none =>
    obtain rfl : zs = [] := by
      by_cases hy : zs = []
      · exact hy
      · obtain ⟨b, off, hb, _⟩ := hcell hy; cases hb
    obtain rfl := hnil rfl
    exact ⟨v, w, run_append_owned_none (P := Tryd.prog) (w := w) B _ ty 5 i0 1 Tryd.underlying30 hi v _ _ hown, by rw [List.append_nil]; exact hown, fun _ _ h _ => h, Or.inl rfl⟩
  | some a =>
    have hnews : ∀ j u, (zs.map (Value.int .u8))[j]? = some u → w.cell? (a.add j) = some u := by
      intro j u hu
      simp only [List.getElem?_map, Option.map_eq_some_iff] at hu
      obtain ⟨z, hz, rfl⟩ := hu
      obtain ⟨b, off, hb, hh⟩ := hcell (by rintro rfl; simp at hz)
      cases hb
      rw [Addr.add_mid]
      exact hh j z hz
    obtain ⟨v', w', hr, h2, h3, _, h5⟩ := run_append_own_at (P := Tryd.prog) w B _ ty 5 i0 (.int .u8 0) 1 1 Tryd.underlying30 hi hz0 hz1 hz2 rfl (by decide) v vs.length _ hown a zs.length cap (zs.map (Value.int .u8)) (by simp) hnews (map_oneCell _) (by unfold maxLen; omega) (by omega) hB
    refine ⟨v', w', hr, ?_, fun a S h hk => h.grown h3 hk, h5⟩
    unfold OwnB
    rw [List.length_append, List.map_append]
    exact h2

theorem step_append_bytes {ops : Array Oper} {o : Oper} {a : Act} {w : World} {K : Act → World → Prop} {Q : Exit → Act → World → Prop} {E : Prop} (hgd : o.guard = none) (s x : Operand)
    (ho : o.op = .call { callee := .builtin .append, args := #[s, x], argTypes := #[30, 30] }) {B : Nat} {v : Value} {vs : List Int} (hs : a.eval s = v) (hown : OwnB w B v vs)
    {X : Value} {zs : List Int} (hx : a.eval x = X) (hX : BytesAt w X zs) (hl : vs.length + zs.length ≤ 140737488355328) (hB : B ≤ w.heap.size)
    (h : ∀ v' w', Appended w w' B v v' (vs ++ zs) → K (a.put o.dst v') w') : if Region.wanted o (yielded ops a.tmps) = true then Oper.wp Tryd.prog o a w K Q else E := by
  have hw : Region.wanted o (yielded ops a.tmps) = true := by simp [Region.wanted, hgd]
  rw [if_pos hw]
  obtain ⟨v', w', hr, h2⟩ := run_append_bytes hown hX hl hB o.type
  unfold Oper.wp execOp
  simp only [ho, resolve, invoke, builtin, Sem.run_bind, Sem.run_pure, Result.andThen_ok, List.map_toArray, List.map_cons, List.map_nil, hs, hx, hr]
  exact h v' w' h2

theorem wpList_append_bytes {ops : Array Oper} {rest : List Oper} {o : Oper} {a : Act} {w : World} {Q : Exit → Act → World → Prop} (hgd : o.guard = none) (s x : Operand)
    (ho : o.op = .call { callee := .builtin .append, args := #[s, x], argTypes := #[30, 30] }) {B : Nat} {v : Value} {vs : List Int} (hs : a.eval s = v) (hown : OwnB w B v vs)
    {X : Value} {zs : List Int} (hx : a.eval x = X) (hX : BytesAt w X zs) (hl : vs.length + zs.length ≤ 140737488355328) (hB : B ≤ w.heap.size)
    (h : ∀ v' w', Appended w w' B v v' (vs ++ zs) → wpList Tryd.prog ops Q rest (a.put o.dst v') w') : wpList Tryd.prog ops Q (o :: rest) a w := by
  refine wpList_plain hgd fun K hK => ?_
  obtain ⟨v', w', hr, h2⟩ := run_append_bytes hown hX hl hB o.type
  unfold Oper.wp execOp
  simp only [ho, resolve, invoke, builtin, Sem.run_bind, Sem.run_pure, Result.andThen_ok, List.map_toArray, List.map_cons, List.map_nil, hs, hx, hr]
  exact hK _ _ (h v' w' h2)
end Go.Proofs.YtpdlnmjnpodicaaDoor
