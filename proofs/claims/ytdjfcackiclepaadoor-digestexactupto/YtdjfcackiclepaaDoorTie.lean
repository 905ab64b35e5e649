/-
  DERIVED. GIVEN WITH THE SEED: THE PROGRAM's TIES (one call each: nine closed facts by the kernel) AND EACH ROW's TIE, after the 31st guide's Derived/Test/Toyas{Tie, Card}.lean. No idea stands in it: it is a product of the set-up. Laid BY PROGRAM, IN A SANDBOX (cutbox-door.mjs). By AI agents, Wed Nov 11 2026. No macro, syntax, notation, axiom, sorry.
-/
import Derived.Test.YtdjfcackiclepaaDoorRows
import Derived.LaidByTextLater
import Derived.SevenTiedAt
import Derived.LaidSub
import Derived.LaidOnce
namespace Go.Proofs.YtdjfcackiclepaaDoor
open Go
set_option maxRecDepth 100000
theorem seatTie1 : Tryd.prog.laidByTextLater [("satchel/satchelref2.H", Rows.laid_satchel_satchelref2_H), ("satchel/satchelref2.K", Rows.laid_satchel_satchelref2_K), ("satchel/digest.firstWords", Rows.laid_satchel_digest_firstWords), ("satchel/digest.turnWords", Rows.laid_satchel_digest_turnWords)] [.data, .data, .data, .data] true :=
  Program.laidByTextLater_by_one 29 8 65 (by kernel_rfl) (by kernel_rfl) (by kernel_rfl) (by kernel_rfl) (by kernel_rfl) (by kernel_rfl) (fun _ _ => by kernel_rfl)
theorem noOwnUnsafe : Tryd.pinned.checked.prog.headLifts.contains "ownunsafe" = false := by kernel_rfl
theorem tie : Tryd.prog.laidByTextLater [("satchel/digest.firstWords", Rows.laid_satchel_digest_firstWords), ("satchel/digest.turnWords", Rows.laid_satchel_digest_turnWords)] [.data, .data] true :=
  Program.laidByTextLater.sub seatTie1 ["satchel/digest.firstWords", "satchel/digest.turnWords"] (by kernel_rfl) (by kernel_rfl)
theorem digestKnown_row_tie : Rows.digestKnownRow.laidByTextAt .later Tryd.pinned [.data, .data] true :=
  OpenClaim.laidByTextAt_later rfl rfl tie noOwnUnsafe
theorem tie2 : Tryd.prog.laidByTextLater [("satchel/satchelref2.H", Rows.laid_satchel_satchelref2_H), ("satchel/satchelref2.K", Rows.laid_satchel_satchelref2_K), ("satchel/digest.firstWords", Rows.laid_satchel_digest_firstWords), ("satchel/digest.turnWords", Rows.laid_satchel_digest_turnWords)] [.data, .data, .data, .data] true :=
  Program.laidByTextLater.sub seatTie1 ["satchel/satchelref2.H", "satchel/satchelref2.K", "satchel/digest.firstWords", "satchel/digest.turnWords"] (by kernel_rfl) (by kernel_rfl)
theorem digestExact_row_tie : Rows.digestExactRow.laidByTextAt .later Tryd.pinned [.data, .data, .data, .data] true :=
  OpenClaim.laidByTextAt_later rfl rfl tie2 noOwnUnsafe
theorem digestKnownUpto_row_tie : Rows.digestKnownUptoRow.laidByTextAt .later Tryd.pinned [.data, .data] true :=
  OpenClaim.laidByTextAt_later rfl rfl tie noOwnUnsafe
theorem digestExactUpto_row_tie : Rows.digestExactUptoRow.laidByTextAt .later Tryd.pinned [.data, .data, .data, .data] true :=
  OpenClaim.laidByTextAt_later rfl rfl tie2 noOwnUnsafe
end Go.Proofs.YtdjfcackiclepaaDoor
