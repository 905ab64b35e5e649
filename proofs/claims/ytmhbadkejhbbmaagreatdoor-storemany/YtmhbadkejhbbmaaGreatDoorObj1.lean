/-
  THE LIBRARY's CONTRACTS that are used here, laid at this program in plain words (by the guide's lay-plain): the table of numbers, and a field a fact.
  WALKS: object.goodLine, object.Name: for every text.
-/
import Derived.Test.YtmhbadkejhbbmaaGreatDoorProg
import Derived.Shelf.Unicode.ValidAny
import Derived.Shelf.Strings.Search3
import Derived.Test.YtmhbadkejhbbmaaGreatDoorConv
import Derived.Laws.RangeAny
import Derived.Lib.ValidU
import Derived.Lib.Bytes
namespace Go.Proofs
open Go.Shelf
def Tryz.laysValid_ren : Go.Shelf.Ren := ⟨fun | 196 => 143 | 259 => 145 | n => n, fun | 9 => 9 | 4 => 4 | 3 => 3 | 5 => 5 | 12 => 12 | 119 => 202 | 0 => 0 | 46 => 124 | 139 => 205 | 138 => 204 | 53 => 72 | n => n, fun | 3 => 3 | 4 => 4 | n => n⟩
end Go.Proofs

namespace Go.Proofs.YtmhbadkejhbbmaaGreatDoor
open Go.RowKit

/-- The library's two tables of UTF-8 lie in memory. -/
def Tabs (w : World) : Prop := Lib.Utf8Tabs (Tryz.laysValid_ren.g 3) (Tryz.laysValid_ren.g 4) w

end Go.Proofs.YtmhbadkejhbbmaaGreatDoor
