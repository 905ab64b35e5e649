/-
  Commits; WALK: (object.commit).fault.
  WALK: (object.commit).write.
  Links: a list of them that one owns and appends to; WALK: (object.commit).children.
-/
import Derived.Test.YtmhbadkejhbbmaaGreatDoorTag2
import Derived.Test.YtmhbadkejhbbmaaGreatDoorQuietId
import Derived.Test.YtmhbadkejhbbmaaGreatDoorAppK
namespace Go.Proofs.YtmhbadkejhbbmaaGreatDoor
open Go.RowKit

structure ComL where
  tree : List Int
  parents : List (List Int)
  who : List Int
  time : Int
  text : List Int
def ComL.row (c : ComL) (pv : Value) : List Value := c.tree.map (Value.int .u8) ++ [pv, .string (strOfNums c.who), .int .u64 c.time, .string (strOfNums c.text)]
structure ComL.Good (c : ComL) : Prop where
  tree : GoodID c.tree
  parents : ∀ o, o ∈ c.parents → GoodID o
  who : GoodText c.who
  t0 : 0 ≤ c.time
  t1 : c.time ≤ 18446744073709551615
  text : GoodText c.text
end Go.Proofs.YtmhbadkejhbbmaaGreatDoor

namespace Go.Proofs.YtmhbadkejhbbmaaGreatDoor
open Go.RowKit

theorem WB.kept {w0 W W' : World} {wb B : Nat} {zs : List Int} {S : List Nat} {b : Nat} {cs : Array Value} {ty : TypeId} (h : WB w0 W wb B zs S b cs ty) (k : Kept [] W W') : WB w0 W' wb B zs S b cs ty := by
  obtain ⟨S', q, hb, hc⟩ := h
  exact ⟨S', q.kept k, hb, k.heap hc (by simp)⟩
theorem WB.keep {w0 W : World} {wb B : Nat} {zs : List Int} {S : List Nat} {b : Nat} {cs : Array Value} {ty : TypeId} (h : WB w0 W wb B zs S b cs ty) : Kept S w0 W := h.elim fun _ q => q.1.keep
end Go.Proofs.YtmhbadkejhbbmaaGreatDoor

namespace Go.Proofs.YtmhbadkejhbbmaaGreatDoor
open Go.RowKit

theorem wpList_append_k {ops : Array Oper} {rest : List Oper} {o : Oper} {a : Act} {w : World} {Q : Exit → Act → World → Prop} (hgd : o.guard = none) (s x : Operand) (T e : TypeId) (z : Value) (k bytes : Nat)
    (hT : Tryz.prog.underlying T = some (.slice e)) (hinfo : (Tryz.prog.info? e).map (fun i => (i.zero, i.size, i.bytes)) = some (some z, k, bytes)) (hzk : z.cells.size = k) (hk : 0 < k)
    (ho : o.op = .call { callee := .builtin .append, args := #[s, x], argTypes := #[T, T] }) {B : Nat} {v : Value} {n : Nat} {xs : List Value} (hs : a.eval s = v) (hown : w.ownsRow B e k v n xs)
    {q : Nat} {us : List Value} (hx : a.eval x = .slice (some ⟨q, 0, none⟩) 1 1) (hul : us.length = k) (hc : w.rangeAt q 0 us) (hu : ∀ u, u ∈ us → u.oneCell' = true) (hl : n ≤ 1000000) (hb : bytes ≤ 1000) (hB : B ≤ w.heap.size)
    (h : ∀ v' w', w'.ownsRow B e k v' (n + 1) (xs ++ us) → Kept v.ownBlock.toList w w' → (v'.ownBlock = v.ownBlock ∨ v'.ownBlock = some w.heap.size) → wpList Tryz.prog ops Q rest (a.put o.dst v') w') : wpList Tryz.prog ops Q (o :: rest) a w := by
  refine wpList_plain hgd fun K hK => ?_
  have h0 := step_append_k (ops := ops) (K := K) (Q := Q) (E := True) hgd s x T e z k bytes hT hinfo hzk hk ho hs hown hx hul hc hu hl hb hB (fun v' w' a1 a2 a3 => hK _ _ (h v' w' a1 a2 a3))
  rw [if_pos (by simp [Region.wanted, hgd])] at h0
  exact h0
/-- A list of links in a block of one's own. -/
def LkOwn (w : World) (B : Nat) (v : Value) (ks : List LinkL) : Prop := w.ownsRow B 100 33 v ks.length (ks.map LinkL.row).flatten
theorem LinkL.row_len {l : LinkL} (h : l.id.length = 32) : l.row.length = 33 := by simp [LinkL.row, h]
theorem LinkL.one (l : LinkL) : ∀ v, v ∈ l.row → v.oneCell' = true := fun v hv => by
  unfold LinkL.row at hv
  rcases List.mem_append.1 hv with h | h
  · exact map_oneCell _ v h
  · rw [List.mem_singleton.1 h]; rfl
theorem LkOwn.nil (w : World) (B : Nat) : LkOwn w B (.slice none 0 0) [] := ⟨rfl, Or.inl ⟨rfl, rfl⟩⟩
theorem LkOwn.push {w : World} {B : Nat} {v : Value} {ks : List LinkL} {k : LinkL} (h : w.ownsRow B 100 33 v (ks.length + 1) ((ks.map LinkL.row).flatten ++ k.row)) : LkOwn w B v (ks ++ [k]) := by
  unfold LkOwn
  rw [List.length_append, List.map_append, List.flatten_append, List.map_singleton, List.flatten_singleton]
  exact h
theorem LkOwn.first {w : World} {B : Nat} (hB : B ≤ w.heap.size) (k : LinkL) (hk : k.id.length = 32) : LkOwn (w.alloc (.cells k.row.toArray 100)) B (.slice (some ⟨w.heap.size, 0, none⟩) 1 1) [k] := by
  refine ⟨by simp [LinkL.row, hk], Or.inr ⟨w.heap.size, 1, k.row.toArray, rfl, hB, heap_alloc_new w _, Nat.le_refl _, by decide, by rw [List.size_toArray, LinkL.row_len hk], ?_⟩⟩
  simp [LinkL.row]
  exact List.take_of_length_le (by simp [hk])
theorem LkOwn.rows {w : World} {B : Nat} {v : Value} {ks : List LinkL} (h : LkOwn w B v ks) (hg : ∀ k, k ∈ ks → k.id.length = 32) (hn : ks.length ≤ 1000000) : RowsAt w v 33 (ks.map LinkL.row) := by
  refine ownsK_rows (by decide) (fun r hr => ?_) (by rw [List.length_map]; exact h) (by rw [List.length_map]; omega)
  obtain ⟨k, hk, rfl⟩ := List.mem_map.1 hr
  exact LinkL.row_len (hg k hk)

end Go.Proofs.YtmhbadkejhbbmaaGreatDoor
