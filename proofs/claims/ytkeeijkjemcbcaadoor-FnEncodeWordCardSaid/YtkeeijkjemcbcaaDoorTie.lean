/-
  DERIVED. GIVEN WITH THE SEED: THE PROGRAM's TIES (one call each: nine closed facts by the kernel) AND EACH ROW's TIE, after the 31st guide's Derived/Test/Toyas{Tie, Card}.lean. No idea stands in it: it is a product of the set-up. Laid BY PROGRAM, IN A SANDBOX (cutbox-door.mjs). By AI agents, Wed Nov 11 2026. No macro, syntax, notation, axiom, sorry.
-/
import Derived.Test.YtkeeijkjemcbcaaDoorRows
import Derived.LaidByTextLater
import Derived.SevenTiedAt
import Derived.LaidSub
import Derived.LaidOnce
namespace Go.Proofs.YtkeeijkjemcbcaaDoor
open Go
set_option maxRecDepth 100000
theorem seatTie1 : Tryd.prog.laidByTextLater [("loop.example/softwareradio/impl.fieldPowers", Rows.laid_loop_example_softwareradio_impl_fieldPowers), ("loop.example/softwareradio/impl.fieldLogarithms", Rows.laid_loop_example_softwareradio_impl_fieldLogarithms), ("loop.example/softwareradio/impl.wordZeros", Rows.laid_loop_example_softwareradio_impl_wordZeros), ("loop.example/softwareradio/impl.wordGenerator", Rows.laid_loop_example_softwareradio_impl_wordGenerator)] [.data, .data, .data, .data] true :=
  Program.laidByTextLater_by_one 29 8 17 (by kernel_rfl) (by kernel_rfl) (by kernel_rfl) (by kernel_rfl) (by kernel_rfl) (by kernel_rfl) (fun _ _ => by kernel_rfl)
theorem noOwnUnsafe : Tryd.pinned.checked.prog.headLifts.contains "ownunsafe" = false := by kernel_rfl
theorem tie : Tryd.prog.laidByTextLater [("loop.example/softwareradio/impl.fieldPowers", Rows.laid_loop_example_softwareradio_impl_fieldPowers), ("loop.example/softwareradio/impl.fieldLogarithms", Rows.laid_loop_example_softwareradio_impl_fieldLogarithms), ("loop.example/softwareradio/impl.wordZeros", Rows.laid_loop_example_softwareradio_impl_wordZeros), ("loop.example/softwareradio/impl.wordGenerator", Rows.laid_loop_example_softwareradio_impl_wordGenerator)] [.data, .data, .data, .data] true :=
  Program.laidByTextLater.sub seatTie1 ["loop.example/softwareradio/impl.fieldPowers", "loop.example/softwareradio/impl.fieldLogarithms", "loop.example/softwareradio/impl.wordZeros", "loop.example/softwareradio/impl.wordGenerator"] (by kernel_rfl) (by kernel_rfl)
theorem fnEncodeWord_row_tie : Rows.fnEncodeWordRow.laidByTextAt .later Tryd.pinned [.data, .data, .data, .data] true :=
  OpenClaim.laidByTextAt_later rfl rfl tie noOwnUnsafe
theorem fnWordSyndromes_row_tie : Rows.fnWordSyndromesRow.laidByTextAt .later Tryd.pinned [.data, .data, .data, .data] true :=
  OpenClaim.laidByTextAt_later rfl rfl tie noOwnUnsafe
theorem fnWordThree_row_tie : Rows.fnWordThreeRow.laidByTextAt .later Tryd.pinned [.data, .data, .data, .data] true :=
  OpenClaim.laidByTextAt_later rfl rfl tie noOwnUnsafe
theorem fnWordTurn_row_tie : Rows.fnWordTurnRow.laidByTextAt .later Tryd.pinned [.data, .data, .data, .data] true :=
  OpenClaim.laidByTextAt_later rfl rfl tie noOwnUnsafe
theorem fnWordOne_row_tie : Rows.fnWordOneRow.laidByTextAt .later Tryd.pinned [.data, .data, .data, .data] true :=
  OpenClaim.laidByTextAt_later rfl rfl tie noOwnUnsafe
theorem tie2 : Tryd.prog.laidByTextLater [("loop.example/softwareradio/impl.fieldPowers", Rows.laid_loop_example_softwareradio_impl_fieldPowers), ("loop.example/softwareradio/impl.fieldLogarithms", Rows.laid_loop_example_softwareradio_impl_fieldLogarithms), ("loop.example/softwareradio/impl.wordGenerator", Rows.laid_loop_example_softwareradio_impl_wordGenerator)] [.data, .data, .data] true :=
  Program.laidByTextLater.sub seatTie1 ["loop.example/softwareradio/impl.fieldPowers", "loop.example/softwareradio/impl.fieldLogarithms", "loop.example/softwareradio/impl.wordGenerator"] (by kernel_rfl) (by kernel_rfl)
theorem fnWordDistance_row_tie : Rows.fnWordDistanceRow.laidByTextAt .later Tryd.pinned [.data, .data, .data] true :=
  OpenClaim.laidByTextAt_later rfl rfl tie2 noOwnUnsafe
theorem fnExactEncodeWord_row_tie : Rows.fnExactEncodeWordRow.laidByTextAt .later Tryd.pinned [.data, .data, .data] true :=
  OpenClaim.laidByTextAt_later rfl rfl tie2 noOwnUnsafe
theorem tie3 : Tryd.prog.laidByTextLater [("loop.example/softwareradio/impl.fieldPowers", Rows.laid_loop_example_softwareradio_impl_fieldPowers), ("loop.example/softwareradio/impl.fieldLogarithms", Rows.laid_loop_example_softwareradio_impl_fieldLogarithms), ("loop.example/softwareradio/impl.wordZeros", Rows.laid_loop_example_softwareradio_impl_wordZeros)] [.data, .data, .data] true :=
  Program.laidByTextLater.sub seatTie1 ["loop.example/softwareradio/impl.fieldPowers", "loop.example/softwareradio/impl.fieldLogarithms", "loop.example/softwareradio/impl.wordZeros"] (by kernel_rfl) (by kernel_rfl)
theorem fnDecodeWord_row_tie : Rows.fnDecodeWordRow.laidByTextAt .later Tryd.pinned [.data, .data, .data] true :=
  OpenClaim.laidByTextAt_later rfl rfl tie3 noOwnUnsafe
theorem fnExactWordSyndromes_row_tie : Rows.fnExactWordSyndromesRow.laidByTextAt .later Tryd.pinned [.data, .data, .data] true :=
  OpenClaim.laidByTextAt_later rfl rfl tie3 noOwnUnsafe
theorem fnExactDecodeWord_row_tie : Rows.fnExactDecodeWordRow.laidByTextAt .later Tryd.pinned [.data, .data, .data] true :=
  OpenClaim.laidByTextAt_later rfl rfl tie3 noOwnUnsafe
theorem fnEncodeWordUpto_row_tie : Rows.fnEncodeWordUptoRow.laidByTextAt .later Tryd.pinned [.data, .data, .data, .data] true :=
  OpenClaim.laidByTextAt_later rfl rfl tie noOwnUnsafe
theorem fnWordSyndromesUpto_row_tie : Rows.fnWordSyndromesUptoRow.laidByTextAt .later Tryd.pinned [.data, .data, .data, .data] true :=
  OpenClaim.laidByTextAt_later rfl rfl tie noOwnUnsafe
theorem fnWordDistanceUpto_row_tie : Rows.fnWordDistanceUptoRow.laidByTextAt .later Tryd.pinned [.data, .data, .data] true :=
  OpenClaim.laidByTextAt_later rfl rfl tie2 noOwnUnsafe
theorem fnDecodeWordUpto_row_tie : Rows.fnDecodeWordUptoRow.laidByTextAt .later Tryd.pinned [.data, .data, .data] true :=
  OpenClaim.laidByTextAt_later rfl rfl tie3 noOwnUnsafe
theorem fnWordThreeUpto_row_tie : Rows.fnWordThreeUptoRow.laidByTextAt .later Tryd.pinned [.data, .data, .data, .data] true :=
  OpenClaim.laidByTextAt_later rfl rfl tie noOwnUnsafe
theorem fnWordTurnUpto_row_tie : Rows.fnWordTurnUptoRow.laidByTextAt .later Tryd.pinned [.data, .data, .data, .data] true :=
  OpenClaim.laidByTextAt_later rfl rfl tie noOwnUnsafe
theorem fnWordOneUpto_row_tie : Rows.fnWordOneUptoRow.laidByTextAt .later Tryd.pinned [.data, .data, .data, .data] true :=
  OpenClaim.laidByTextAt_later rfl rfl tie noOwnUnsafe
theorem fnExactEncodeWordUpto_row_tie : Rows.fnExactEncodeWordUptoRow.laidByTextAt .later Tryd.pinned [.data, .data, .data] true :=
  OpenClaim.laidByTextAt_later rfl rfl tie2 noOwnUnsafe
theorem fnExactWordSyndromesUpto_row_tie : Rows.fnExactWordSyndromesUptoRow.laidByTextAt .later Tryd.pinned [.data, .data, .data] true :=
  OpenClaim.laidByTextAt_later rfl rfl tie3 noOwnUnsafe
theorem fnExactDecodeWordUpto_row_tie : Rows.fnExactDecodeWordUptoRow.laidByTextAt .later Tryd.pinned [.data, .data, .data] true :=
  OpenClaim.laidByTextAt_later rfl rfl tie3 noOwnUnsafe
end Go.Proofs.YtkeeijkjemcbcaaDoor
