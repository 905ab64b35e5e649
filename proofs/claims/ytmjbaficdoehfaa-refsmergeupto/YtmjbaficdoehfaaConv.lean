/-
  Bytes turned into a string; strings of bytes that are the same.
-/
import Derived.Test.YtmjbaficdoehfaaOwn0
import Derived.Test.YtmjbaficdoehfaaPlain
import Derived.Laws.BytesArg
namespace Go.Proofs.Ytmjbaficdoehfaa
open Go.RowKit

theorem strOfNums_inj {xs ys : List Int} (hx : Octs xs) (hy : Octs ys) : strOfNums xs = strOfNums ys ↔ xs = ys := by
  constructor
  · intro h
    have h1 : (strOfNums xs).data.toList = (strOfNums ys).data.toList := by rw [h]
    rw [strOfNums_data, strOfNums_data] at h1
    apply List.ext_getElem?
    intro i
    have h2 := congrArg (fun l => l[i]?) h1
    simp only [List.getElem?_map] at h2
    cases h3 : xs[i]? with
    | none =>
      rw [h3] at h2
      cases h4 : ys[i]? with
      | none => rfl
      | some b => rw [h4] at h2; simp at h2
    | some a =>
      rw [h3] at h2
      cases h4 : ys[i]? with
      | none => rw [h4] at h2; simp at h2
      | some b =>
        rw [h4] at h2
        simp only [Option.map_some, Option.some.injEq] at h2
        have ha := hx a (List.mem_of_getElem? h3)
        have hb := hy b (List.mem_of_getElem? h4)
        have h5 := congrArg UInt8.toNat h2
        simp only [UInt8.toNat_ofNat'] at h5
        congr 1
        omega
  · rintro rfl; rfl
end Go.Proofs.Ytmjbaficdoehfaa
