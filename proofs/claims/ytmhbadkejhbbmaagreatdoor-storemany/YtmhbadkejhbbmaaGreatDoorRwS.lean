/-
  The store's rows SORTED: slices.SortFunc at them.
-/
import Derived.Test.YtmhbadkejhbbmaaGreatDoorRwL
import Derived.Test.YtmhbadkejhbbmaaGreatDoorSlR
import Derived.Shelf.SlSortCmp.WholeK
namespace Go.Proofs.YtmhbadkejhbbmaaGreatDoor
open Go.RowKit Go.Shelf Go.Lib Go.Sort

theorem Tryz.aggRow (w : World) : (isAgg 89).run Tryz.prog w = .ok true w := Tryz.isAgg89 w
theorem Tryz.sizeRow (w : World) : (Go.sizeOf 89).run Tryz.prog w = .ok 33 w := Tryz.sizeOf89 w
theorem sortRows_any (blk off cap : Nat) (d : Array RowE) (w : World) (hH : HoldsK encRow 33 w blk off d) (hblk : blk < w.heap.size) (hsz : d.size < 4611686018427387904) :
    Calls Tryz.prog 51 #[.slice (some ⟨blk, off, none⟩) d.size cap, .func (.func 52) #[] #[]] w fun e w' =>
      e = .returned (.tuple #[]) ∧ ∃ d' n os, PermIn 0 d.size d d' ∧ SortedIn (ltOf fun x y : RowE => cmpB x.xs y.xs) 0 d.size d' ∧ w' = sortWorldK encRow 33 w blk off n d' os :=
  AnyQ.slices_SortFunc Tryz.sortRow 33 Tryz.aggRow Tryz.sizeRow encRow encRow_len encRow_one (fun x y => cmpB x.xs y.xs) rowSWO 52 #[] blk off cap d w
    (enters_of Tryz.func52 (by kernel_rfl) rfl) (rowLays blk off d.size w) hH hblk hsz
end Go.Proofs.YtmhbadkejhbbmaaGreatDoor
