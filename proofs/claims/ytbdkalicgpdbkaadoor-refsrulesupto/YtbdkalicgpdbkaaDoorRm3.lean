/-
  THE LIBRARY's CONTRACTS that are used here, laid at this program in plain words: the table of numbers, and a field a fact.
  WALKS: the library's functions on strings at texts told by numbers; refs.hasStar, middle, fill, carry.
-/
import Derived.Test.YtbdkalicgpdbkaaDoorProg
import Derived.Shelf.Strings.Replace
import Derived.Test.YtbdkalicgpdbkaaDoorShRune
import Derived.Test.YtbdkalicgpdbkaaDoorRn5
import Derived.Test.YtbdkalicgpdbkaaDoorShStr
import Derived.Deep.QuietTactic
import Derived.BigQuiet
namespace Go.Proofs
open Go.Shelf
def Tryd.laysRep_ren : Go.Shelf.Ren := ⟨fun | 138 => 77 | 143 => 79 | 154 => 57 | 165 => 78 | 166 => 80 | 169 => 81 | 195 => 93 | 197 => 48 | 217 => 102 | 218 => 94 | 219 => 90 | 224 => 99 | 225 => 100 | 240 => 95 | 241 => 96 | 260 => 71 | 266 => 106 | 267 => 103 | 276 => 104 | 277 => 105 | 314 => 107 | n => n, fun | 0 => 0 | 3 => 3 | 4 => 4 | 5 => 5 | 9 => 9 | 20 => 20 | 21 => 21 | 37 => 45 | 46 => 73 | 51 => 97 | 70 => 102 | 72 => 104 | 75 => 107 | 80 => 110 | 76 => 108 | 105 => 77 | 119 => 69 | 127 => 120 | 138 => 71 | 139 => 72 | 146 => 128 | 164 => 125 | n => n, fun | 1 => 2 | 3 => 0 | 4 => 1 | n => n⟩
theorem Tryd.laysRep : Go.Proofs.Lays.n154 Tryd.prog Tryd.laysRep_ren := {
  mixed := by kernel_rfl
  f138 := Tryd.func77.trans (congrArg some (by kernel_rfl))
  f143 := Tryd.func79.trans (congrArg some (by kernel_rfl))
  f154 := Tryd.func57.trans (congrArg some (by kernel_rfl))
  f165 := Tryd.func78.trans (congrArg some (by kernel_rfl))
  f166 := Tryd.func80.trans (congrArg some (by kernel_rfl))
  f169 := Tryd.func81.trans (congrArg some (by kernel_rfl))
  f195 := Tryd.func93.trans (congrArg some (by kernel_rfl))
  f197 := Tryd.func48.trans (congrArg some (by kernel_rfl))
  f217 := Tryd.func102.trans (congrArg some (by kernel_rfl))
  f218 := Tryd.func94.trans (congrArg some (by kernel_rfl))
  f219 := Tryd.func90.trans (congrArg some (by kernel_rfl))
  f224 := Tryd.func99.trans (congrArg some (by kernel_rfl))
  f225 := Tryd.func100.trans (congrArg some (by kernel_rfl))
  f240 := Tryd.func95.trans (congrArg some (by kernel_rfl))
  f241 := Tryd.func96.trans (congrArg some (by kernel_rfl))
  f260 := Tryd.func71.trans (congrArg some (by kernel_rfl))
  f266 := Tryd.func106.trans (congrArg some (by kernel_rfl))
  f267 := Tryd.func103.trans (congrArg some (by kernel_rfl))
  f276 := Tryd.func104.trans (congrArg some (by kernel_rfl))
  f277 := Tryd.func105.trans (congrArg some (by kernel_rfl))
  f314 := Tryd.func107.trans (congrArg some (by kernel_rfl))
  t0 := Tryd.underlying0
  a0 := Tryd.isAgg0
  z0 := Tryd.sizeOf0
  v0 := Tryd.zeroValue0
  t3 := Tryd.underlying3
  a3 := Tryd.isAgg3
  z3 := Tryd.sizeOf3
  v3 := Tryd.zeroValue3
  t4 := Tryd.underlying4
  a4 := Tryd.isAgg4
  z4 := Tryd.sizeOf4
  v4 := Tryd.zeroValue4
  t5 := Tryd.underlying5
  a5 := Tryd.isAgg5
  z5 := Tryd.sizeOf5
  v5 := Tryd.zeroValue5
  t9 := Tryd.underlying9
  a9 := Tryd.isAgg9
  z9 := Tryd.sizeOf9
  v9 := Tryd.zeroValue9
  t20 := Tryd.underlying20
  a20 := Tryd.isAgg20
  z20 := Tryd.sizeOf20
  v20 := Tryd.zeroValue20
  t21 := Tryd.underlying21
  a21 := Tryd.isAgg21
  z21 := Tryd.sizeOf21
  v21 := Tryd.zeroValue21
  t37 := Tryd.underlying45
  a37 := Tryd.isAgg45
  z37 := Tryd.sizeOf45
  v37 := Tryd.zeroValue45
  t46 := Tryd.underlying73
  a46 := Tryd.isAgg73
  z46 := Tryd.sizeOf73
  v46 := Tryd.zeroValue73
  t51 := Tryd.underlying97
  a51 := Tryd.isAgg97
  z51 := Tryd.sizeOf97
  v51 := Tryd.zeroValue97
  t70 := Tryd.underlying102
  a70 := Tryd.isAgg102
  z70 := Tryd.sizeOf102
  v70 := Tryd.zeroValue102
  t72 := Tryd.underlying104
  a72 := Tryd.isAgg104
  z72 := Tryd.sizeOf104
  v72 := Tryd.zeroValue104
  t75 := Tryd.underlying107
  a75 := Tryd.isAgg107
  z75 := Tryd.sizeOf107
  v75 := Tryd.zeroValue107
  t76 := Tryd.underlying108
  a76 := Tryd.isAgg108
  z76 := Tryd.sizeOf108
  v76 := Tryd.zeroValue108
  t105 := Tryd.underlying77
  a105 := Tryd.isAgg77
  z105 := Tryd.sizeOf77
  v105 := Tryd.zeroValue77
  t119 := Tryd.underlying69
  a119 := Tryd.isAgg69
  z119 := Tryd.sizeOf69
  t127 := Tryd.underlying120
  a127 := Tryd.isAgg120
  z127 := Tryd.sizeOf120
  v127 := Tryd.zeroValue120
  t138 := Tryd.underlying71
  a138 := Tryd.isAgg71
  z138 := Tryd.sizeOf71
  v138 := Tryd.zeroValue71
  t139 := Tryd.underlying72
  a139 := Tryd.isAgg72
  z139 := Tryd.sizeOf72
  v139 := Tryd.zeroValue72
  t146 := Tryd.underlying128
  a146 := Tryd.isAgg128
  z146 := Tryd.sizeOf128
  v146 := Tryd.zeroValue128
  t164 := Tryd.underlying125
  a164 := Tryd.isAgg125
  z164 := Tryd.sizeOf125
  v164 := Tryd.zeroValue125
  g1 := by kernel_rfl
  g3 := by kernel_rfl
  g4 := by kernel_rfl }
theorem Tryd.extraRep : Go.Proofs.Builder.Extra Tryd.prog Tryd.laysRep_ren := {
  sizeBuilder := by kernel_rfl
  liesBuilder := by kernel_rfl
  t5 := Tryd.underlying5
  a5 := Tryd.isAgg5
  z5 := Tryd.sizeOf5
  v5 := Tryd.zeroValue5
  infoByte := by kernel_rfl
  cellsByte := by kernel_rfl
  sizeByte := by kernel_rfl
  neB5 := by decide }
end Go.Proofs

namespace Go.Proofs.YtbdkalicgpdbkaaDoor
open Go.RowKit

/-- bytealg's longest text for its fast search lies in memory, whatever it is. -/
def MaxW (w : World) : Prop := ∃ m : Int, w.cell? ⟨2, 0, none⟩ = some (.int .i64 m)
theorem MaxW.kept {w w' : World} (h : MaxW w) (k : Kept [] w w') : MaxW w' := by
  obtain ⟨m, hm⟩ := h
  exact ⟨m, k.cell hm (by simp)⟩
theorem Has_any (xs : List Int) (ho : Octs xs) (w : World) :
    Calls Tryd.prog 58 #[.string (strOfNums xs), .string ⟨#[42]⟩] w fun e w' => e = .returned (.bool (starB xs)) ∧ w' = w := by
  have h := Any.strings_Contains_one Tryd.laysHas (strOfNums xs) 42 w
  rw [indexByte_mem, str_bytes, ← find_octs xs ho] at h
  exact h
theorem CutP_any (xs ps : List Int) (hx : Octs xs) (hp : Octs ps) (w : World) :
    Calls Tryd.prog 49 #[.string (strOfNums xs), .string (strOfNums ps)] w fun e w' => e = .returned (.tuple #[.string (strOfNums (if ps.isPrefixOf xs = true then xs.drop ps.length else xs)), .bool (ps.isPrefixOf xs)]) ∧ w' = w := by
  have h := Any.strings_CutPrefix Tryd.laysCutP (strOfNums xs) (strOfNums ps) w
  rw [str_bytes, str_bytes, trimP_bytes hp hx, ← str_of_bytes] at h
  unfold Lib.hasPrefix at h
  rw [pre_bytes hp hx] at h
  exact h
theorem Rep_any (side text : List Int) (hs : Octs side) (ht : Octs text) (hl : side.length ≤ 1000) (hl2 : text.length ≤ 1000) (w : World) (hM : MaxW w) :
    Calls Tryd.prog 57 #[.string (strOfNums side), .string ⟨#[42]⟩, .string (strOfNums text), .int .i64 1] w fun e w' => e = .returned (.string (strOfNums (fillL side text))) ∧ Kept [] w w' := by
  obtain ⟨m, hm⟩ := hM
  have hc : Lib.countB (strOfNums side) ⟨#[42]⟩ ≤ side.length := by
    show Lib.count (strOfNums side).data.toList [42] ≤ _
    rw [str_bytes, Lib.count_one, ← bytesU_len side]
    exact List.count_le_length
  have hmul : Lib.countB (strOfNums side) ⟨#[42]⟩ * (strOfNums text).size ≤ 1000 * 1000 := Nat.mul_le_mul (by omega) (by rw [strOfNums_size]; exact hl2)
  have h := Any.strings_Replace Tryd.laysRep Tryd.extraRep (strOfNums side) ⟨#[42]⟩ (strOfNums text) 1 m w (by rw [strOfNums_size]; omega) hm (by decide) (by rw [strOfNums_size]; omega)
  rw [str_bytes, str_bytes] at h
  have e := replace_put hs ht
  change Lib.replace (bytesU side) (⟨#[42]⟩ : ByteArray).data.toList (bytesU text) 1 = _ at e
  rw [e, ← str_of_bytes] at h
  exact h.mono fun e w' ⟨h1, h2⟩ => ⟨h1, kept_of_below h2⟩
set_option maxHeartbeats 1000000 in
theorem hasStar_any (xs : List Int) (ho : Octs xs) (w : World) : Calls Tryd.prog 42 #[.string (strOfNums xs)] w fun e w' => e = .returned (.bool (starB xs)) ∧ w' = w := by
  have h := Has_any xs ho w
  clear ho
  generalize strOfNums xs = S at *
  generalize starB xs = b at *
  go_enter Tryd.func42, Tryd.ntmps42
  go_wp2_with (go_at_call 58; with_reducible refine h.mono ?_; rintro e w9 ⟨rfl, hw9⟩; subst w9)
  go_ret
  exact ⟨rfl, rfl⟩
/-- A text that may be there, and whether it is. -/
def optV (r : Option (List Int)) : Value := .tuple #[.string (strOfNums (r.getD [])), .bool r.isSome]
end Go.Proofs.YtbdkalicgpdbkaaDoor
