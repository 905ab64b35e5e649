/-
  PLAIN MATHEMATICS of package code's numbers: a number in so many bytes, the highest first. No Go text is named here.
  Bytes turned into a string; strings of bytes that are the same.
-/
import Derived.WalkKit
import Derived.Test.YtmjbaficdoehfaaDoorOwn0
import Derived.Laws.BytesArg
namespace Go.Proofs.YtmjbaficdoehfaaDoor
open Go.RowKit

/-- The number that these bytes are, the highest first. -/
def be (l : List Int) : Int := l.foldl (fun n x => n * 256 + x) 0
def Octs (ys : List Int) : Prop := ∀ u, u ∈ ys → 0 ≤ u ∧ u ≤ 255
theorem octs_take {l : List Int} (h : Octs l) (k : Nat) : Octs (l.take k) := fun u hu => h u (List.mem_of_mem_take hu)
theorem octs_drop {l : List Int} (h : Octs l) (k : Nat) : Octs (l.drop k) := fun u hu => h u (List.mem_of_mem_drop hu)
theorem octs_getD {l : List Int} (h : Octs l) (k : Nat) : 0 ≤ l[k]?.getD 0 ∧ l[k]?.getD 0 ≤ 255 := by
  rcases Nat.lt_or_ge k l.length with hk | hk
  · rw [List.getElem?_eq_getElem hk]; exact h _ (List.getElem_mem hk)
  · rw [List.getElem?_eq_none hk]; simp

/-- What is found at the front of some bytes: a number, where its text begins and where the item ends; the fault, 0 for none. -/
structure Fnd where
  n : Int
  frm : Nat
  to : Nat
  f : Nat

section
variable {most n z : Int} {ys : List Int} {k : Nat}
end

/-- What is told of a number that is found. -/
structure Fnd.Good (x : Fnd) (len : Nat) (most : Int) : Prop where
  n0 : 0 ≤ x.n
  le : x.f = 0 → x.n ≤ most
  frm : x.frm ≤ x.to
  to : x.to ≤ len
  f : x.f ≤ 3
  bad : x.f ≠ 0 → x = ⟨0, 0, 0, x.f⟩
  one : x.f = 0 → 1 ≤ x.to ∧ x.to ≤ 10 ∧ x.frm = x.to
end Go.Proofs.YtmjbaficdoehfaaDoor

namespace Go.Proofs.YtmjbaficdoehfaaDoor
open Go.RowKit

theorem strOfNums_inj {xs ys : List Int} (hx : Octs xs) (hy : Octs ys) : strOfNums xs = strOfNums ys ↔ xs = ys := by
  constructor
  · intro h
    have h1 : (strOfNums xs).data.toList = (strOfNums ys).data.toList := by rw [h]
    rw [strOfNums_data, strOfNums_data] at h1
    apply List.ext_getElem?
    intro i
    have h2 := congrArg (fun l => l[i]?) h1
    simp only [List.getElem?_map] at h2
    cases h3 : xs[i]? with
    | none =>
      rw [h3] at h2
      cases h4 : ys[i]? with
      | none => rfl
      | some b => rw [h4] at h2; simp at h2
    | some a =>
      rw [h3] at h2
      cases h4 : ys[i]? with
      | none => rw [h4] at h2; simp at h2
      | some b =>
        rw [h4] at h2
        simp only [Option.map_some, Option.some.injEq] at h2
        have ha := hx a (List.mem_of_getElem? h3)
        have hb := hy b (List.mem_of_getElem? h4)
        have h5 := congrArg UInt8.toNat h2
        simp only [UInt8.toNat_ofNat'] at h5
        congr 1
        omega
  · rintro rfl; rfl
end Go.Proofs.YtmjbaficdoehfaaDoor
