/-
  PLAIN: what the library's functions on strings come to at texts that are told by numbers.
  THE LIBRARY's CONTRACT of strings.ContainsRune, laid at this program in plain words (by the guide's lay-plain): the table of numbers, and a field a fact.
-/
import Derived.Test.YtbdkalicgpdbkaaDoorRm0
import Derived.Lib.Replace
import Derived.Lib.SplitLaws
import Derived.Lib.CountLaws
import Derived.Lib.IndexBytes
import Derived.Lib.Strings
import Derived.Test.YtbdkalicgpdbkaaDoorProg
import Derived.Shelf.Strings.Runes
namespace Go.Proofs.YtbdkalicgpdbkaaDoor
open Go.RowKit

def bytesU (xs : List Int) : List UInt8 := xs.map fun n => UInt8.ofNat n.toNat
theorem str_bytes (xs : List Int) : (strOfNums xs).data.toList = bytesU xs := strOfNums_data xs
theorem str_of_bytes (xs : List Int) : strOfNums xs = ⟨(bytesU xs).toArray⟩ := by rw [← str_bytes, Array.toArray_toList]
theorem bytesU_len (xs : List Int) : (bytesU xs).length = xs.length := List.length_map _
theorem bytesU_drop (xs : List Int) (n : Nat) : (bytesU xs).drop n = bytesU (xs.drop n) := by unfold bytesU; rw [List.map_drop]
theorem bytesU_take (xs : List Int) (n : Nat) : (bytesU xs).take n = bytesU (xs.take n) := by unfold bytesU; rw [List.map_take]
theorem bytesU_append (xs ys : List Int) : bytesU (xs ++ ys) = bytesU xs ++ bytesU ys := by unfold bytesU; rw [List.map_append]
theorem u8_eq {a b : Int} (ha : 0 ≤ a ∧ a ≤ 255) (hb : 0 ≤ b ∧ b ≤ 255) : (UInt8.ofNat a.toNat = UInt8.ofNat b.toNat) ↔ a = b := by
  constructor
  · intro h
    have h1 := congrArg UInt8.toNat h
    rw [UInt8.toNat_ofNat_of_lt' (by show _ < 256; omega), UInt8.toNat_ofNat_of_lt' (by show _ < 256; omega)] at h1
    omega
  · rintro rfl; rfl
theorem pre_bytes : ∀ {ps xs : List Int}, Octs ps → Octs xs → (bytesU ps).isPrefixOf (bytesU xs) = ps.isPrefixOf xs
  | [], _, _, _ => by simp [bytesU]
  | _ :: _, [], _, _ => by simp [bytesU]
  | a :: p, b :: x, hp, hx => by
    have ih := pre_bytes (ps := p) (xs := x) (fun u hu => hp u (by simp [hu])) (fun u hu => hx u (by simp [hu]))
    unfold bytesU at ih ⊢
    simp only [List.map_cons, List.isPrefixOf]
    rw [ih]
    congr 1
    rw [Bool.eq_iff_iff, beq_iff_eq, beq_iff_eq]
    exact u8_eq (hp a (by simp)) (hx b (by simp))
theorem octs_app {xs ys : List Int} (h : Octs xs) (k : Octs ys) : Octs (xs ++ ys) := fun u hu => (List.mem_append.1 hu).elim (h u) (k u)
theorem trimP_bytes {ps xs : List Int} (hp : Octs ps) (hx : Octs xs) : Lib.trimPrefix (bytesU xs) (bytesU ps) = bytesU (if ps.isPrefixOf xs = true then xs.drop ps.length else xs) := by
  unfold Lib.trimPrefix Lib.hasPrefix
  rw [pre_bytes hp hx, bytesU_len, bytesU_drop]
  split <;> rfl
theorem star_cons (a : Int) (x : List Int) : starB (a :: x) = (decide (a = 42) || starB x) := by
  unfold starB
  rw [Bool.eq_iff_iff, decide_eq_true_eq, Bool.or_eq_true, decide_eq_true_eq, decide_eq_true_eq, List.mem_cons]
  constructor
  · rintro (h | h)
    · exact Or.inl h.symm
    · exact Or.inr h
  · rintro (h | h)
    · exact Or.inl h.symm
    · exact Or.inr h
theorem index_star : ∀ {xs : List Int}, Octs xs → Lib.indexByte (bytesU xs) 42 = if starB xs = true then ((aheadL xs).length : Int) else -1
  | [], _ => rfl
  | a :: x, h => by
    have ih := index_star (xs := x) (fun u hu => h u (by simp [hu]))
    have ha := h a (by simp)
    have e42 : (42 : UInt8) = UInt8.ofNat (42 : Int).toNat := rfl
    rw [star_cons]
    show (if (UInt8.ofNat a.toNat == 42) = true then (0 : Int) else if (Lib.indexByte (bytesU x) 42 == -1) = true then -1 else Lib.indexByte (bytesU x) 42 + 1) = _
    by_cases h42 : a = 42
    · subst h42
      rw [if_pos (by decide)]
      have e : aheadL (42 :: x) = [] := by unfold aheadL; rw [List.takeWhile_cons]; rfl
      rw [e]
      rfl
    · have hne : ¬ (UInt8.ofNat a.toNat == (42 : UInt8)) = true := by
        rw [beq_iff_eq, e42, u8_eq ha (by decide)]
        exact h42
      rw [if_neg hne, ih, decide_eq_false h42, Bool.false_or]
      have e : aheadL (a :: x) = a :: aheadL x := by
        unfold aheadL
        rw [List.takeWhile_cons, if_pos (by simpa using h42)]
      cases hs : starB x with
      | false => rfl
      | true =>
        rw [if_pos rfl, if_pos rfl, e, List.length_cons, if_neg (by simp)]
        simp
theorem ahead_take {xs : List Int} (h : starB xs = true) : xs.take (aheadL xs).length = aheadL xs ∧ xs.drop ((aheadL xs).length + 1) = behindL xs := by
  have e := (star_split h).1
  generalize aheadL xs = A at *
  generalize behindL xs = B at *
  subst e
  exact ⟨List.take_left, by rw [show A ++ 42 :: B = (A ++ [42]) ++ B by simp, List.drop_left' (by simp)]⟩
theorem octs_ahead {xs : List Int} (h : Octs xs) : Octs (aheadL xs) := fun u hu => h u ((List.takeWhile_sublist _).subset hu)
theorem octs_behind {xs : List Int} (h : Octs xs) : Octs (behindL xs) := fun u hu => h u ((List.dropWhile_sublist _).subset (List.mem_of_mem_tail hu))
theorem octs_put {side m : List Int} (h : Octs side) (k : Octs m) : Octs (fillL side m) := by
  unfold fillL
  split
  · exact octs_app (octs_app (octs_ahead h) k) (octs_behind h)
  · exact h
theorem replace_put {side text : List Int} (hs : Octs side) (_ht : Octs text) : Lib.replace (bytesU side) [42] (bytesU text) 1 = bytesU (fillL side text) := by
  unfold Lib.replace
  by_cases he : ([42] : List UInt8) = bytesU text
  · rw [if_pos (by simpa using he)]
    unfold fillL
    split
    · rename_i h
      have e := (star_split h).1
      conv => lhs; rw [e]
      rw [bytesU_append, bytesU_append, bytesU_append, ← he]
      show bytesU (aheadL side) ++ bytesU (42 :: behindL side) = _
      simp [bytesU]
    · rfl
  · rw [if_neg (by simpa using he)]
    have hix := index_star hs
    rw [← Lib.index_one] at hix
    cases h : starB side with
    | false =>
      rw [h, if_neg (by decide)] at hix
      have hc := Lib.count_miss hix
      have en : Lib.replaceNum (bytesU side) [42] 1 = 0 := by
        unfold Lib.replaceNum
        rw [hc, if_pos (by omega)]
      rw [en, put_no _ _ h]
      rfl
    | true =>
      rw [h, if_pos rfl] at hix
      have hc := Lib.count_hit (by simp) hix
      have en : Lib.replaceNum (bytesU side) [42] 1 = 1 := by
        unfold Lib.replaceNum
        rw [if_neg (by omega)]
        rfl
      rw [en, Lib.replaceK_hit _ _ _ _ _ hix]
      unfold fillL
      rw [if_pos h, bytesU_append, bytesU_append, bytesU_take, (ahead_take h).1, List.append_assoc, List.append_assoc]
      show _ ++ (_ ++ (bytesU side).drop ((aheadL side).length + 1)) = _
      rw [bytesU_drop, (ahead_take h).2]
theorem find_octs : ∀ xs : List Int, Octs xs → starB xs = decide ((42 : UInt8) ∈ bytesU xs)
  | [], _ => rfl
  | a :: x, h => by
    rw [star_cons, find_octs x (fun u hu => h u (by simp [hu]))]
    have e42 : (42 : UInt8) = UInt8.ofNat (42 : Int).toNat := rfl
    rw [Bool.eq_iff_iff, Bool.or_eq_true, decide_eq_true_eq, decide_eq_true_eq, decide_eq_true_eq]
    show _ ↔ (42 : UInt8) ∈ UInt8.ofNat a.toNat :: bytesU x
    rw [List.mem_cons]
    have h1 := u8_eq (a := 42) (b := a) (by decide) (h a (by simp))
    rw [← e42] at h1
    constructor
    · rintro (h2 | h2)
      · exact Or.inl (h1.2 h2.symm)
      · exact Or.inr h2
    · rintro (h2 | h2)
      · exact Or.inl (h1.1 h2).symm
      · exact Or.inr h2
end Go.Proofs.YtbdkalicgpdbkaaDoor

namespace Go.Proofs
open Go.Shelf
def Tryd.laysRune_ren : Go.Shelf.Ren := ⟨fun | 119 => 98 | 137 => 97 | 151 => 59 | 152 => 82 | 217 => 102 | 224 => 99 | 225 => 100 | 266 => 106 | n => n, fun | 0 => 0 | 3 => 3 | 4 => 4 | 5 => 5 | 9 => 9 | 21 => 21 | 46 => 73 | n => n, fun | n => n⟩
theorem Tryd.laysRune : Go.Proofs.Lays.n151 Tryd.prog Tryd.laysRune_ren := {
  mixed := by kernel_rfl
  f119 := Tryd.func98.trans (congrArg some (by kernel_rfl))
  f137 := Tryd.func97.trans (congrArg some (by kernel_rfl))
  f151 := Tryd.func59.trans (congrArg some (by kernel_rfl))
  f152 := Tryd.func82.trans (congrArg some (by kernel_rfl))
  f217 := Tryd.func102.trans (congrArg some (by kernel_rfl))
  f224 := Tryd.func99.trans (congrArg some (by kernel_rfl))
  f225 := Tryd.func100.trans (congrArg some (by kernel_rfl))
  f266 := Tryd.func106.trans (congrArg some (by kernel_rfl))
  t0 := Tryd.underlying0
  a0 := Tryd.isAgg0
  z0 := Tryd.sizeOf0
  v0 := Tryd.zeroValue0
  t3 := Tryd.underlying3
  a3 := Tryd.isAgg3
  z3 := Tryd.sizeOf3
  v3 := Tryd.zeroValue3
  t4 := Tryd.underlying4
  a4 := Tryd.isAgg4
  z4 := Tryd.sizeOf4
  v4 := Tryd.zeroValue4
  t5 := Tryd.underlying5
  a5 := Tryd.isAgg5
  z5 := Tryd.sizeOf5
  v5 := Tryd.zeroValue5
  t9 := Tryd.underlying9
  a9 := Tryd.isAgg9
  z9 := Tryd.sizeOf9
  v9 := Tryd.zeroValue9
  t21 := Tryd.underlying21
  a21 := Tryd.isAgg21
  z21 := Tryd.sizeOf21
  v21 := Tryd.zeroValue21
  t46 := Tryd.underlying73
  a46 := Tryd.isAgg73
  z46 := Tryd.sizeOf73
  v46 := Tryd.zeroValue73 }
end Go.Proofs
