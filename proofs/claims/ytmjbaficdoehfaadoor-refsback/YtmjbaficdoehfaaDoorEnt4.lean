/-
  What is built of parts; links; WALK: (object.tree).children.
-/
import Derived.Test.YtmjbaficdoehfaaDoorEnt0
import Derived.Test.YtmjbaficdoehfaaDoorTabK2
import Derived.Test.YtmjbaficdoehfaaDoorRows0
namespace Go.Proofs.YtmjbaficdoehfaaDoor
open Go.RowKit

theorem foldl_setL (off : Nat) : ∀ (l : List Value) (s : Nat) (cs : Array Value), (l.zipIdx s).foldl (fun cs (x : Value × Nat) => cs.setIfInBounds (off + x.2) x.1) cs = setL cs (off + s) l
  | [], _, _ => rfl
  | v :: r, s, cs => by
    rw [List.zipIdx_cons, List.foldl_cons, foldl_setL off r (s + 1)]
    rfl
theorem fill_step (place : Nat → Option (Nat × Nat)) (cells : Array Value) (i : Nat) (v : Value) (rest : List (Nat × Value)) (off size : Nat) (hp : place i = some (off, size)) (hs : v.cells.size = size) (hc : off + size ≤ cells.size) :
    Instr.fill place cells ((i, v) :: rest) = Instr.fill place (setL cells off v.cells.toList) rest := by
  rw [Instr.fill, hp]
  simp only [hs]
  rw [if_neg (by simp; omega)]
  congr 1
  have h := foldl_setL off v.cells.toList 0 cells
  rw [Nat.add_zero] at h
  rw [← h, ← Array.foldl_toList, Array.toList_zipIdx]
theorem setL_put (cs : List Value) (o : Nat) (vs : List Value) (h : o + vs.length ≤ cs.length) : setL cs.toArray o vs = (putL cs o vs).toArray := by
  obtain ⟨s1, s2⟩ := setL_spec vs o cs.toArray
  apply Array.ext_getElem?
  intro j
  have e1 : (putL cs o vs).toArray[j]? = (putL cs o vs)[j]? := by simp
  have e2 : cs.toArray[j]? = cs[j]? := by simp
  rw [s2 j, e1, e2, putL_get h, List.size_toArray]
  by_cases hc : o ≤ j ∧ j < o + vs.length
  · rw [if_pos hc, if_pos ⟨hc.1, hc.2, by omega⟩]
  · rw [if_neg hc, if_neg (by omega)]

structure LinkL where
  id : List Int
  kind : Int
def LinkL.row (l : LinkL) : List Value := l.id.map (Value.int .u8) ++ [.int .i64 l.kind]
theorem wpList_build_some {ops : Array Oper} {rest : List Oper} {o : Oper} {a : Act} {w : World} {Q : Exit → Act → World → Prop} (hgd : o.guard = none) (t : TypeId) (parts : Array (Nat × Operand)) (ho : o.op = .build t parts) (cells : Array Value)
    (hb : Tryd.prog.built t (parts.map fun (i, x) => (i, a.eval x)).toList = some cells) (h : wpList Tryd.prog ops Q rest (a.put o.dst (.agg cells)) w) : wpList Tryd.prog ops Q (o :: rest) a w := by
  refine wpList_build hgd t parts ho (by rw [hb]; rfl) ?_
  rw [hb]
  exact h

end Go.Proofs.YtmjbaficdoehfaaDoor
