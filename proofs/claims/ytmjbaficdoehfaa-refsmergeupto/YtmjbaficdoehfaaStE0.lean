/-
  Structs held against one another, field by field.
-/
import Derived.Test.YtmjbaficdoehfaaIdEq
import Derived.Test.YtmjbaficdoehfaaConv
import Derived.Laws.StructEq
import Derived.Lib.Bytes
namespace Go.Proofs.Ytmjbaficdoehfaa
open Go.RowKit

theorem part_id (xs : List Value) (ys : List Int) (off : Nat) (hx : (xs.drop off).take 32 = ys.map (Value.int .u8)) (W : World) : (part 29 xs.toArray off).run Try.prog W = .ok (.agg (idC ys)) W := by
  have hu := run_underlying (P := Try.prog) (w := W) Try.underlying29
  obtain ⟨i, hi, hs⟩ := Option.map_eq_some_iff.1 Try.infoID
  simp [part, isAgg, hu, sizeOf, typeInfo, hi, hs, hx, idC]
theorem plainStr : Try.prog.plainKey 9 = true := by kernel_rfl
theorem plainU64 : Try.prog.plainKey 30 = true := by kernel_rfl
theorem eqF_two {P : Program} {d : Nat} {xs ys : Array Value} {f : Field} {fs : List Field} {W : World} {a b : Value} {r q : Bool} (hn : f.name ≠ "_") (ha : (part f.type xs f.offset).run P W = .ok a W) (hb : (part f.type ys f.offset).run P W = .ok b W) (he : (Op.equalIn d f.type a b).run P W = .ok r W)
    (h : (Op.eqFields d xs ys fs).run P W = .ok q W) : (Op.eqFields d xs ys (f :: fs)).run P W = .ok (r && q) W := by
  cases r
  · simp [Op.eqFields, hn, ha, hb, he]
  · simp [Op.eqFields, hn, ha, hb, he, h]
theorem idTwo (d : Nat) (xs ys : List Int) (W : World) (hx : xs.length = 32) (hy : ys.length = 32) : (Op.equalIn (d + 1 + 1) 29 (.agg (idC xs)) (.agg (idC ys))).run Try.prog W = .ok (decide (xs = ys)) W := by
  obtain ⟨i, hi⟩ := Option.isSome_iff_exists.1 Try.hasU8
  rw [run_equalIn_array W (d + 1) _ _ Try.underlying29 hi, Try.cellsU8, items_id xs ys W d (List.range 32) (fun j hj => by rw [hx, hy]; simpa using hj)]
  have e : ((List.range 32).all fun i => xs[i]?.getD 0 == ys[i]?.getD 0) = decide (xs = ys) := by
    rw [Bool.eq_iff_iff, decide_eq_true_iff, List.all_eq_true]
    constructor
    · intro h
      refine List.ext_getElem (by omega) fun j h1 h2 => ?_
      have := h j (by simp; omega)
      simpa [List.getElem?_eq_getElem h1, List.getElem?_eq_getElem h2] using this
    · rintro rfl j _
      simp
  rw [e]
theorem twoU64 (d : Nat) (n m : Int) (W : World) : (Op.equalIn (d + 1) 30 (.int .u64 n) (.int .u64 m)).run Try.prog W = .ok (decide (n = m)) W := by rw [run_equalIn_int W d 30 .u64 .u64 n m Try.underlying30]; rfl
theorem str_lists {xs ys : List Int} (hx : Octs xs) (hy : Octs ys) : ((strOfNums xs).toList == (strOfNums ys).toList) = decide (xs = ys) := by
  rw [Bool.eq_iff_iff, decide_eq_true_iff, beq_iff_eq]
  constructor
  · intro h
    rw [← strOfNums_inj hx hy]
    have h2 : (strOfNums xs).data.toList = (strOfNums ys).data.toList := by
      rw [Lib.strOfNums_toList, Lib.strOfNums_toList] at h
      exact h
    have h3 : (strOfNums xs).data = (strOfNums ys).data := Array.toList_inj.1 h2
    exact congrArg ByteArray.mk h3
  · rintro rfl
    rfl
theorem twoStr (d : Nat) {xs ys : List Int} (hx : Octs xs) (hy : Octs ys) (W : World) : (Op.equalIn (d + 1) 9 (.string (strOfNums xs)) (.string (strOfNums ys))).run Try.prog W = .ok (decide (xs = ys)) W := by
  rw [run_equalIn_string W d 9 _ _ Try.underlying9, str_lists hx hy]

end Go.Proofs.Ytmjbaficdoehfaa
