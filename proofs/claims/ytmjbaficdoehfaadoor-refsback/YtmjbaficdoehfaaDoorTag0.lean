/-
  A Writer beside a variable; tags; WALKS: object.signFault, (object.tag).fault, (object.tag).write.
-/
import Derived.Test.YtmjbaficdoehfaaDoorEnt4
namespace Go.Proofs.YtmjbaficdoehfaaDoor
open Go.RowKit

section
variable {w0 W : World} {wb B : Nat} {zs : List Int} {S : List Nat} {b : Nat} {cs : Array Value} {ty : TypeId}
end
structure TagL where
  target : List Int
  kind : Int
  name : List Int
  who : List Int
  time : Int
  text : List Int
def TagL.row (t : TagL) : List Value := t.target.map (Value.int .u8) ++ [.int .i64 t.kind, .string (strOfNums t.name), .string (strOfNums t.who), .int .u64 t.time, .string (strOfNums t.text)]
structure TagL.Good (t : TagL) : Prop where
  target : GoodID t.target
  lo : -9223372036854775808 ≤ t.kind
  hi : t.kind ≤ 9223372036854775807
  name : GoodText t.name
  who : GoodText t.who
  t0 : 0 ≤ t.time
  t1 : t.time ≤ 18446744073709551615
  text : GoodText t.text
end Go.Proofs.YtmjbaficdoehfaaDoor
