/-
  WALKS: refs.middle, fill, carry.
  THE LIBRARY's CONTRACTS that are used here, laid at this program in plain words: the table of numbers, and a field a fact.
-/
import Derived.Test.YtbdkalicgpdbkaaDoorRm3
import Derived.Test.YtbdkalicgpdbkaaDoorProg
import Derived.Shelf.Unicode.DecodeAny
namespace Go.Proofs.YtbdkalicgpdbkaaDoor
open Go.RowKit

theorem optV_none : optV none = .tuple #[.string ⟨#[]⟩, .bool false] := rfl
theorem optV_some (m : List Int) : optV (some m) = .tuple #[.string (strOfNums m), .bool true] := rfl

set_option maxRecDepth 100000 in
set_option maxHeartbeats 2000000 in
theorem fill_any (side text : List Int) (hs : Octs side) (ht : Octs text) (hl : side.length ≤ 100000000000000000) (hl2 : text.length ≤ 100000000000000000) (w : World) (hT : Tabs w) (hM : MaxW w) :
    Calls Tryd.prog 41 #[.string (strOfNums side), .string (strOfNums text)] w fun e w' => e = .returned (optV (if side.length + text.length ≤ 256 ∧ checkB (fillL side text) = true then some (fillL side text) else none)) ∧ Kept [] w w' := by
  have hz1 := strOfNums_size side
  have hz2 := strOfNums_size text
  by_cases hlong : 256 < side.length + text.length
  · have t1 : decide ((256 : Int) < (side.length : Int) + (text.length : Int)) = true := by simp; omega
    rw [if_neg (fun hc => by omega), optV_none]
    clear hs ht hlong
    generalize strOfNums side = S at *
    generalize strOfNums text = T at *
    go_enter Tryd.func41, Tryd.ntmps41
    go_wp2
    go_ret2
    exact ⟨rfl, Kept.refl _ _⟩
  have t1 : decide ((256 : Int) < (side.length : Int) + (text.length : Int)) = false := by simp; omega
  have hrep := Rep_any side text hs ht (by omega) (by omega) w hM
  have hpl : (fillL side text).length ≤ 256 := by
    cases h : starB side with
    | true => have := put_len side text h; omega
    | false => rw [put_no side text h]; omega
  have HCK : Hid (∀ W, Kept [] w W → Calls Tryd.prog 11 #[.string (strOfNums (fillL side text))] W fun e w' => e = .returned (.int .i64 (if checkB (fillL side text) = true then 0 else 140)) ∧ Kept [] W w') := fun W k => Check_any _ (octs_put hs ht) (by omega) W (hT.kept k)
  clear hT hM
  by_cases hc : checkB (fillL side text) = true
  · rw [if_pos ⟨by omega, hc⟩, optV_some]
    rw [if_pos hc] at HCK
    clear hc hs ht hlong
    generalize strOfNums (fillL side text) = P at *
    generalize strOfNums side = S at *
    generalize strOfNums text = T at *
    go_enter Tryd.func41, Tryd.ntmps41
    go_wp2_with (first
      | (go_at_call 57; with_reducible refine hrep.mono ?_; rintro e w1 ⟨rfl, k1⟩
         have HK1 : Hid (Kept [] w w1) := k1
         clear k1)
      | (go_at_call 11; with_reducible refine (HCK.out w1 HK1.out).mono ?_; rintro e w2 ⟨rfl, k2⟩
         have HK2 : Hid (Kept [] w w2) := HK1.out.then k2
         clear k2))
    go_ret2
    exact ⟨rfl, HK2.out⟩
  · rw [if_neg (fun h => hc h.2), optV_none]
    rw [if_neg hc] at HCK
    clear hc hs ht hlong
    generalize strOfNums (fillL side text) = P at *
    generalize strOfNums side = S at *
    generalize strOfNums text = T at *
    go_enter Tryd.func41, Tryd.ntmps41
    go_wp2_with (first
      | (go_at_call 57; with_reducible refine hrep.mono ?_; rintro e w1 ⟨rfl, k1⟩
         have HK1 : Hid (Kept [] w w1) := k1
         clear k1)
      | (go_at_call 11; with_reducible refine (HCK.out w1 HK1.out).mono ?_; rintro e w2 ⟨rfl, k2⟩
         have HK2 : Hid (Kept [] w w2) := HK1.out.then k2
         clear k2))
    go_ret2
    exact ⟨rfl, HK2.out⟩
end Go.Proofs.YtbdkalicgpdbkaaDoor

namespace Go.Proofs
open Go.Shelf
def Tryd.laysDec_ren : Go.Shelf.Ren := ⟨fun | 197 => 48 | 260 => 71 | n => n, fun | 0 => 0 | 3 => 3 | 4 => 4 | 5 => 5 | 9 => 9 | 21 => 21 | 46 => 73 | 105 => 77 | 119 => 69 | 138 => 71 | 139 => 72 | n => n, fun | 3 => 0 | 4 => 1 | n => n⟩
theorem Tryd.laysDec : Go.Proofs.Lays.n197 Tryd.prog Tryd.laysDec_ren := {
  mixed := by kernel_rfl
  f197 := Tryd.func48.trans (congrArg some (by kernel_rfl))
  f260 := Tryd.func71.trans (congrArg some (by kernel_rfl))
  t0 := Tryd.underlying0
  a0 := Tryd.isAgg0
  z0 := Tryd.sizeOf0
  v0 := Tryd.zeroValue0
  t3 := Tryd.underlying3
  a3 := Tryd.isAgg3
  z3 := Tryd.sizeOf3
  v3 := Tryd.zeroValue3
  t4 := Tryd.underlying4
  a4 := Tryd.isAgg4
  z4 := Tryd.sizeOf4
  v4 := Tryd.zeroValue4
  t5 := Tryd.underlying5
  a5 := Tryd.isAgg5
  z5 := Tryd.sizeOf5
  v5 := Tryd.zeroValue5
  t9 := Tryd.underlying9
  a9 := Tryd.isAgg9
  z9 := Tryd.sizeOf9
  v9 := Tryd.zeroValue9
  t21 := Tryd.underlying21
  a21 := Tryd.isAgg21
  z21 := Tryd.sizeOf21
  v21 := Tryd.zeroValue21
  t46 := Tryd.underlying73
  a46 := Tryd.isAgg73
  z46 := Tryd.sizeOf73
  v46 := Tryd.zeroValue73
  t105 := Tryd.underlying77
  a105 := Tryd.isAgg77
  z105 := Tryd.sizeOf77
  v105 := Tryd.zeroValue77
  t119 := Tryd.underlying69
  a119 := Tryd.isAgg69
  z119 := Tryd.sizeOf69
  t138 := Tryd.underlying71
  a138 := Tryd.isAgg71
  z138 := Tryd.sizeOf71
  v138 := Tryd.zeroValue71
  t139 := Tryd.underlying72
  a139 := Tryd.isAgg72
  z139 := Tryd.sizeOf72
  v139 := Tryd.zeroValue72
  g3 := by kernel_rfl
  g4 := by kernel_rfl }
end Go.Proofs
