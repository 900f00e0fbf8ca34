/-
  What the draws of links alone answer. No condition.
-/
import Derived.Test.YtgdfjbdpidileaaPwDraw3
namespace Go.Proofs.Ytgdfjbdpidileaa
open Go.RowKit

/-- Drawn links, a new value. -/
def DrawLkP (w : World) (e : Ending) (w' : World) : Prop :=
  ∃ a c N T R, e = .returned (.agg #[.slice a R.length c, .int .i64 N, .int .i64 T]) ∧ DRows w' a c R ∧ Below w.heap.size w w'
end Go.Proofs.Ytgdfjbdpidileaa
