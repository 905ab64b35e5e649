/-
  WALKS: (*code.Writer).U8, U64 and Bytes, for every Writer.
  WALKS: object.readID, readText, writeText.
  'append(l, b...)' at a step of a region that draws its order, and at a plain one: l a list of one's own, b any slice of bytes, nil too.
-/
import Derived.Test.YtmhbadkejhbbmaaGreatDoorWriter
import Derived.Test.YtmhbadkejhbbmaaGreatDoorPlain
import Derived.Deep.RegionLaw
import Derived.Deep.AppendLies
import Derived.Deep.DrawnRows
import Derived.Test.YtmhbadkejhbbmaaGreatDoorChecked
import Derived.WalkKit
import Derived.WalkSpells
import Derived.Lib.Walk
import Derived.Lib.BitFns
import Derived.Deep.Light
import Derived.Test.YtmhbadkejhbbmaaGreatDoorSha0
import Derived.Test.YtmhbadkejhbbmaaGreatDoorReaderB
import Derived.Test.YtmhbadkejhbbmaaGreatDoorConv
import Derived.Laws.IdiomStrings
import Derived.Maps.AppendAt
import Derived.Laws.AppendOwnNone
namespace Go.Proofs.YtmhbadkejhbbmaaGreatDoor
open Go.RowKit

/-- As 'BytesAt.kept': of an empty slice nothing is asked. -/
theorem BytesAt.keep {S : List Nat} {w w' : World} {v : Value} {ys : List Int} (h : BytesAt w v ys) (hk : Kept S w w') (hn : ys ≠ [] → ∀ b, blkOf v = some b → b ∉ S) : BytesAt w' v ys := by
  obtain ⟨ao, cap, rfl, hc, hnil, hcell⟩ := h
  refine ⟨ao, cap, rfl, hc, hnil, fun hne => ?_⟩
  obtain ⟨b, off, rfl, hh⟩ := hcell hne
  exact ⟨b, off, rfl, fun i u hu => hk.cell (hh i u hu) (hn hne b rfl)⟩

end Go.Proofs.YtmhbadkejhbbmaaGreatDoor

namespace Go.Proofs.YtmhbadkejhbbmaaGreatDoor
open Go.RowKit

theorem Rdr.below {w w' : World} {r g : Nat} {xs : List Int} {pl f B : Nat} (R : Rdr w r g xs pl f) (hb : Below B w w') (h1 : r < B) (h2 : g < B) : Rdr w' r g xs pl f :=
  ⟨(hb.block r h1).trans R.blk, (hb.block g h2).trans R.row, R.ne, R.le, R.small, R.oct⟩
end Go.Proofs.YtmhbadkejhbbmaaGreatDoor

namespace Go.Proofs.YtmhbadkejhbbmaaGreatDoor
open Go.RowKit

/-- What 'append' of bytes leaves: a list of one's own; nothing else has turned. -/
structure Appended (w w' : World) (B : Nat) (v v' : Value) (us : List Int) : Prop where
  own : OwnB w' B v' us
  keep : ∀ (a : World) (S : List Nat), Kept S a w → (∀ k, v.ownBlock = some k → k ∈ S ∨ a.heap.size ≤ k) → Kept S a w'
  at' : v'.ownBlock = v.ownBlock ∨ v'.ownBlock = some w.heap.size

theorem run_append_bytes {w : World} {B : Nat} {v : Value} {vs : List Int} (hown : OwnB w B v vs) {x : Value} {zs : List Int} (hx : BytesAt w x zs) (hl : vs.length + zs.length ≤ 140737488355328) (hB : B ≤ w.heap.size) (ty : TypeId) :
    ∃ v' w', (Builtin.append_ #[33, 33] ty #[v, x]).run Tryz.prog w = .ok v' w' ∧ Appended w w' B v v' (vs ++ zs) := by
  obtain ⟨i0, hi, hz0, hz1, hz2⟩ := info_parts Tryz.info_u8
  obtain ⟨ao, cap, rfl, hc, hnil, hcell⟩ := hx
  cases ao with
  | none =>
    obtain rfl : zs = [] := by
      by_cases hy : zs = []
      · exact hy
      · obtain ⟨b, off, hb, _⟩ := hcell hy; cases hb
    obtain rfl := hnil rfl
    exact ⟨v, w, run_append_owned_none (P := Tryz.prog) (w := w) B _ ty 5 i0 1 Tryz.underlying33 hi v _ _ hown, by rw [List.append_nil]; exact hown, fun _ _ h _ => h, Or.inl rfl⟩
  | some a =>
    have hnews : ∀ j u, (zs.map (Value.int .u8))[j]? = some u → w.cell? (a.add j) = some u := by
      intro j u hu
      simp only [List.getElem?_map, Option.map_eq_some_iff] at hu
      obtain ⟨z, hz, rfl⟩ := hu
      obtain ⟨b, off, hb, hh⟩ := hcell (by rintro rfl; simp at hz)
      cases hb
      rw [Addr.add_mid]
      exact hh j z hz
    obtain ⟨v', w', hr, h2, h3, _, h5⟩ := run_append_own_at (P := Tryz.prog) w B _ ty 5 i0 (.int .u8 0) 1 1 Tryz.underlying33 hi hz0 hz1 hz2 rfl (by decide) v vs.length _ hown a zs.length cap (zs.map (Value.int .u8)) (by simp) hnews (map_oneCell _) (by unfold maxLen; omega) (by omega) hB
    refine ⟨v', w', hr, ?_, fun a S h hk => h.grown h3 hk, h5⟩
    unfold OwnB
    rw [List.length_append, List.map_append]
    exact h2

theorem wpList_append_bytes {ops : Array Oper} {rest : List Oper} {o : Oper} {a : Act} {w : World} {Q : Exit → Act → World → Prop} (hgd : o.guard = none) (s x : Operand)
    (ho : o.op = .call { callee := .builtin .append, args := #[s, x], argTypes := #[33, 33] }) {B : Nat} {v : Value} {vs : List Int} (hs : a.eval s = v) (hown : OwnB w B v vs)
    {X : Value} {zs : List Int} (hx : a.eval x = X) (hX : BytesAt w X zs) (hl : vs.length + zs.length ≤ 140737488355328) (hB : B ≤ w.heap.size)
    (h : ∀ v' w', Appended w w' B v v' (vs ++ zs) → wpList Tryz.prog ops Q rest (a.put o.dst v') w') : wpList Tryz.prog ops Q (o :: rest) a w := by
  refine wpList_plain hgd fun K hK => ?_
  obtain ⟨v', w', hr, h2⟩ := run_append_bytes hown hX hl hB o.type
  unfold Oper.wp execOp
  simp only [ho, resolve, invoke, builtin, Sem.run_bind, Sem.run_pure, Result.andThen_ok, List.map_toArray, List.map_cons, List.map_nil, hs, hx, hr]
  exact hK _ _ (h v' w' h2)
end Go.Proofs.YtmhbadkejhbbmaaGreatDoor
