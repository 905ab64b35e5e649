/-
  THE LIBRARY's CONTRACTS that are used here, laid at this program in plain words (by the guide's lay-plain): the table of numbers, and a field a fact.
  WALKS: object.goodLine, object.Name: for every text.
-/
import Derived.Test.YtbdkalicgpdbkaaDoorProg
import Derived.Shelf.Unicode.ValidAny
import Derived.Shelf.Strings.Search3
import Derived.Test.YtbdkalicgpdbkaaDoorConv
import Derived.Laws.RangeAny
import Derived.Lib.ValidU
import Derived.Lib.Bytes
namespace Go.Proofs
open Go.Shelf
def Tryd.laysValid_ren : Go.Shelf.Ren := ⟨fun | 196 => 25 | 259 => 43 | n => n, fun | 9 => 9 | 4 => 4 | 3 => 3 | 5 => 5 | 12 => 12 | 119 => 69 | 0 => 0 | 46 => 73 | 139 => 72 | 138 => 71 | 53 => 86 | n => n, fun | 3 => 0 | 4 => 1 | n => n⟩
theorem Tryd.laysValid : Go.Proofs.Lays.n196 Tryd.prog Tryd.laysValid_ren := {
  mixed := by kernel_rfl
  f196 := Tryd.func25.trans (congrArg some (by kernel_rfl))
  f259 := Tryd.func43.trans (congrArg some (by kernel_rfl))
  t0 := Tryd.underlying0
  a0 := Tryd.isAgg0
  z0 := Tryd.sizeOf0
  v0 := Tryd.zeroValue0
  t3 := Tryd.underlying3
  a3 := Tryd.isAgg3
  z3 := Tryd.sizeOf3
  v3 := Tryd.zeroValue3
  t4 := Tryd.underlying4
  a4 := Tryd.isAgg4
  z4 := Tryd.sizeOf4
  v4 := Tryd.zeroValue4
  t5 := Tryd.underlying5
  a5 := Tryd.isAgg5
  z5 := Tryd.sizeOf5
  v5 := Tryd.zeroValue5
  t9 := Tryd.underlying9
  a9 := Tryd.isAgg9
  z9 := Tryd.sizeOf9
  v9 := Tryd.zeroValue9
  t12 := Tryd.underlying12
  a12 := Tryd.isAgg12
  z12 := Tryd.sizeOf12
  v12 := Tryd.zeroValue12
  t46 := Tryd.underlying73
  a46 := Tryd.isAgg73
  z46 := Tryd.sizeOf73
  v46 := Tryd.zeroValue73
  t53 := Tryd.underlying86
  a53 := Tryd.isAgg86
  z53 := Tryd.sizeOf86
  v53 := Tryd.zeroValue86
  t119 := Tryd.underlying69
  a119 := Tryd.isAgg69
  z119 := Tryd.sizeOf69
  t138 := Tryd.underlying71
  a138 := Tryd.isAgg71
  z138 := Tryd.sizeOf71
  v138 := Tryd.zeroValue71
  t139 := Tryd.underlying72
  a139 := Tryd.isAgg72
  z139 := Tryd.sizeOf72
  v139 := Tryd.zeroValue72
  g3 := by kernel_rfl
  g4 := by kernel_rfl }
end Go.Proofs

namespace Go.Proofs.YtbdkalicgpdbkaaDoor
open Go.RowKit

/-- The library's two tables of UTF-8 lie in memory. -/
def Tabs (w : World) : Prop := Lib.Utf8Tabs (Tryd.laysValid_ren.g 3) (Tryd.laysValid_ren.g 4) w

/-- Bytes that may stand on one line. -/
def okByte (b : Int) : Bool := decide (32 ≤ b) && !decide (b = 127)
def utfB (xs : List Int) : Bool := Lib.validD (strOfNums xs).data.toList
def lineB (xs : List Int) (most : Int) : Bool := decide ((xs.length : Int) ≤ most) && utfB xs && xs.all okByte
theorem str_at (xs : List Int) (ho : Octs xs) (p : Nat) (h : p < xs.length) : ((strOfNums xs)[p]'(by rw [strOfNums_size]; exact h)).toNat = (xs[p]'h).toNat := by
  have h1 := ho xs[p] (List.getElem_mem h)
  have e : (strOfNums xs)[p]'(by rw [strOfNums_size]; exact h) = UInt8.ofNat (xs[p]'h).toNat := by
    show (strOfNums xs).data[p]'_ = _
    simp [strOfNums]
  rw [e, UInt8.toNat_ofNat']
  omega
theorem get_of (s : ByteArray) (p : Nat) (h : p < s.size) : s.get! p = s[p]'h := by
  simp [ByteArray.get!, getElem!_pos, h]
  rfl
/-- What a rune takes besides its first byte are bytes above 127. -/
theorem width_high (s : ByteArray) (pos : Nat) (h : pos < s.size) : pos + (Utf8.decode s pos).2 ≤ s.size ∧ ∀ k, 1 ≤ k → k < (Utf8.decode s pos).2 → 128 ≤ (s.get! (pos + k)).toNat := by
  simp only [Utf8.decode]
  split
  · exact ⟨by show pos + 1 ≤ _; omega, fun k h1 h2 => absurd h2 (by show ¬ k < 1; omega)⟩
  · split
    · rename_i hc
      simp only [Bool.and_eq_true, decide_eq_true_eq, beq_iff_eq] at hc
      split
      · refine ⟨by show pos + 2 ≤ _; omega, fun k h1 h2 => ?_⟩
        obtain rfl : k = 1 := by have : k < 2 := h2; omega
        omega
      · exact ⟨by show pos + 1 ≤ _; omega, fun k h1 h2 => absurd h2 (by show ¬ k < 1; omega)⟩
    · split
      · rename_i hc
        simp only [Bool.and_eq_true, decide_eq_true_eq, beq_iff_eq] at hc
        split
        · refine ⟨by show pos + 3 ≤ _; omega, fun k h1 h2 => ?_⟩
          have h3 : k < 3 := h2
          rcases (by omega : k = 1 ∨ k = 2) with rfl | rfl
          · omega
          · omega
        · exact ⟨by show pos + 1 ≤ _; omega, fun k h1 h2 => absurd h2 (by show ¬ k < 1; omega)⟩
      · split
        · rename_i hc
          simp only [Bool.and_eq_true, decide_eq_true_eq, beq_iff_eq] at hc
          split
          · refine ⟨by show pos + 4 ≤ _; omega, fun k h1 h2 => ?_⟩
            have h3 : k < 4 := h2
            rcases (by omega : k = 1 ∨ k = 2 ∨ k = 3) with rfl | rfl | rfl
            · omega
            · omega
            · omega
          · exact ⟨by show pos + 1 ≤ _; omega, fun k h1 h2 => absurd h2 (by show ¬ k < 1; omega)⟩
        · exact ⟨by show pos + 1 ≤ _; omega, fun k h1 h2 => absurd h2 (by show ¬ k < 1; omega)⟩

theorem indexByte_mem (c : UInt8) : ∀ l : List UInt8, decide (0 ≤ Lib.indexByte l c) = decide (c ∈ l)
  | [] => by simp [Lib.indexByte]
  | b :: l => by
    have ih := indexByte_mem c l
    unfold Lib.indexByte
    by_cases hb : b = c
    · subst hb; simp
    · rw [if_neg (by simp [hb])]
      by_cases hi : Lib.indexByte l c = -1
      · rw [if_pos (by simp [hi])]
        rw [hi] at ih
        have : c ∉ l := by
          intro hm
          rw [decide_eq_true hm] at ih
          simp at ih
        simp [Ne.symm hb, this]
      · have h1 := Lib.indexByte_ge l c
        rw [if_neg (by simpa using hi)]
        have hm : c ∈ l := by
          rw [decide_eq_true (by omega)] at ih
          simpa using ih.symm
        rw [decide_eq_true (by omega), decide_eq_true (List.mem_cons_of_mem _ hm)]
theorem Valid_any (xs : List Int) (w : World) (hs : xs.length ≤ 9223372036854775807) (hT : Tabs w) :
    Calls Tryd.prog 25 #[.string (strOfNums xs)] w fun e w' => e = .returned (.bool (utfB xs)) ∧ Kept [] w w' := by
  have h := Any.utf8_ValidString Tryd.laysValid (strOfNums xs) w (by rw [strOfNums_size]; exact hs) hT
  exact h.mono fun e w' h => ⟨h.1, kept_of_below h.2⟩

theorem str_list (xs : List Int) (l : List UInt8) (ys : List Int) (hx : Octs xs) (hy : Octs ys) (hl : (strOfNums ys).data.toList = l) : ((strOfNums xs).toList = l) ↔ xs = ys := by
  rw [Lib.strOfNums_toList]
  constructor
  · intro e
    refine (strOfNums_inj hx hy).1 ?_
    have e2 : (strOfNums xs).data.toList = (strOfNums ys).data.toList := by rw [hl]; exact e
    cases hA : strOfNums xs with
    | mk d1 =>
      cases hB : strOfNums ys with
      | mk d2 =>
        rw [hA, hB] at e2
        have : d1 = d2 := by
          cases d1; cases d2
          simpa using e2
        rw [this]
  · rintro rfl
    exact hl

end Go.Proofs.YtbdkalicgpdbkaaDoor
