/-
  No cell of these rows narrows 'for every input' (looked for: loops, veiled, ifaces, maps, wideKeys, modest, calm, conditions, laid).
  DERIVED. THE GIVEN ROWS OF THIS SEAT. 12 by the template 'for every input the law returns true; each argument reads behind the call as it read before'; 0 by the template 'total and deterministic' (their statements: YtmolpeemifngcaaTotals.lean).
  GIVEN WITH THE SEED: the statements are not yours to turn. If you find one false, say at which input.
  Laid BY PROGRAM, IN A SANDBOX (cutbox-rows.mjs): the forced cells as the released guide's own fill.sh prints them over the translation 3eacef4ad0bbb73f… (all of the seat's roots in one cut). By AI agents, Wed Nov 11 2026. No macro, syntax, notation, axiom, sorry.
-/
import Derived.Test.YtmolpeemifngcaaChecked
import GoSem.Claim
import GoSem.ClaimJoined
import GoSem.ClaimMapViews
import Derived.JoinedTies
import Derived.KernelRfl
namespace Go.Proofs.Ytmolpeemifngcaa
/- THE CELL 'sum', in the pinned program and in every row, IS THE sha256 OF THE DUMP (.gsa) THAT YtmolpeemifngcaaProg.lean LOADS. Nothing in Lean hashes anything: it is a label: what it is worth is what the hold of that sum in a sandbox is worth. -/
noncomputable def Try.pinned : Pinned := { name := "ytmolpeemifngcaa", sum := "3eacef4ad0bbb73f05cf9a2303e7884a103f0109ca77cd5a079fb1f4a3ccd27e", checked := Try.checked }
namespace Rows
def none {H : Type} : Left H := { results := [], args := [] }

/-- 'laws.FnMapBits': WHATEVER THE INPUT: true; the input reads as it did. -/
def fnMapBitsSpec : ChangeSpec := { name := "fnMapBits", fn := fun _ => fun
  | [d] => { results := [.lit (.bool true)], args := [d] }
  | _ => none }
def fnMapBitsRow : OpenClaim := { program := "ytmolpeemifngcaa", sum := "3eacef4ad0bbb73f05cf9a2303e7884a103f0109ca77cd5a079fb1f4a3ccd27e", func := "loop.example/softwareradio/laws.FnMapBits", spec := "fnMapBits", unfollowed := true, recurses := true, apart := false }
def FnMapBitsSaid : Prop := fnMapBitsRow.holds Try.pinned (OpenSpec.ofChange fnMapBitsSpec)

/-- ITS FALSE NEIGHBOUR: 'it returns false'. Refute it at one input. -/
def fnMapBitsWrong : ChangeSpec := { name := "fnMapBits", fn := fun _ => fun
  | [d] => { results := [.lit (.bool false)], args := [d] }
  | _ => none }
def FnMapBitsWrongFalsely : Prop := fnMapBitsRow.holds Try.pinned (OpenSpec.ofChange fnMapBitsWrong)

/-- 'laws.FnSignalValid': WHATEVER THE INPUT: true; the input reads as it did. -/
def fnSignalValidSpec : ChangeSpec := { name := "fnSignalValid", fn := fun _ => fun
  | [d] => { results := [.lit (.bool true)], args := [d] }
  | _ => none }
def fnSignalValidRow : OpenClaim := { program := "ytmolpeemifngcaa", sum := "3eacef4ad0bbb73f05cf9a2303e7884a103f0109ca77cd5a079fb1f4a3ccd27e", func := "loop.example/softwareradio/laws.FnSignalValid", spec := "fnSignalValid", apart := false }
def FnSignalValidSaid : Prop := fnSignalValidRow.holds Try.pinned (OpenSpec.ofChange fnSignalValidSpec)

/-- ITS FALSE NEIGHBOUR: 'it returns false'. Refute it at one input. -/
def fnSignalValidWrong : ChangeSpec := { name := "fnSignalValid", fn := fun _ => fun
  | [d] => { results := [.lit (.bool false)], args := [d] }
  | _ => none }
def FnSignalValidWrongFalsely : Prop := fnSignalValidRow.holds Try.pinned (OpenSpec.ofChange fnSignalValidWrong)

/-- 'laws.FnGrayMap': WHATEVER THE INPUT: true; the input reads as it did. -/
def fnGrayMapSpec : ChangeSpec := { name := "fnGrayMap", fn := fun _ => fun
  | [d] => { results := [.lit (.bool true)], args := [d] }
  | _ => none }
def fnGrayMapRow : OpenClaim := { program := "ytmolpeemifngcaa", sum := "3eacef4ad0bbb73f05cf9a2303e7884a103f0109ca77cd5a079fb1f4a3ccd27e", func := "loop.example/softwareradio/laws.FnGrayMap", spec := "fnGrayMap", unfollowed := true, recurses := true, apart := false }
def FnGrayMapSaid : Prop := fnGrayMapRow.holds Try.pinned (OpenSpec.ofChange fnGrayMapSpec)

/-- ITS FALSE NEIGHBOUR: 'it returns false'. Refute it at one input. -/
def fnGrayMapWrong : ChangeSpec := { name := "fnGrayMap", fn := fun _ => fun
  | [d] => { results := [.lit (.bool false)], args := [d] }
  | _ => none }
def FnGrayMapWrongFalsely : Prop := fnGrayMapRow.holds Try.pinned (OpenSpec.ofChange fnGrayMapWrong)

/-- 'laws.FnSliceBits': WHATEVER THE INPUT: true; the input reads as it did. -/
def fnSliceBitsSpec : ChangeSpec := { name := "fnSliceBits", fn := fun _ => fun
  | [d] => { results := [.lit (.bool true)], args := [d] }
  | _ => none }
def fnSliceBitsRow : OpenClaim := { program := "ytmolpeemifngcaa", sum := "3eacef4ad0bbb73f05cf9a2303e7884a103f0109ca77cd5a079fb1f4a3ccd27e", func := "loop.example/softwareradio/laws.FnSliceBits", spec := "fnSliceBits", unfollowed := true, recurses := true, apart := false }
def FnSliceBitsSaid : Prop := fnSliceBitsRow.holds Try.pinned (OpenSpec.ofChange fnSliceBitsSpec)

/-- ITS FALSE NEIGHBOUR: 'it returns false'. Refute it at one input. -/
def fnSliceBitsWrong : ChangeSpec := { name := "fnSliceBits", fn := fun _ => fun
  | [d] => { results := [.lit (.bool false)], args := [d] }
  | _ => none }
def FnSliceBitsWrongFalsely : Prop := fnSliceBitsRow.holds Try.pinned (OpenSpec.ofChange fnSliceBitsWrong)

/-- 'laws.FnTurnSamples': WHATEVER THE INPUT: true; the input reads as it did. -/
def fnTurnSamplesSpec : ChangeSpec := { name := "fnTurnSamples", fn := fun _ => fun
  | [d] => { results := [.lit (.bool true)], args := [d] }
  | _ => none }
def fnTurnSamplesRow : OpenClaim := { program := "ytmolpeemifngcaa", sum := "3eacef4ad0bbb73f05cf9a2303e7884a103f0109ca77cd5a079fb1f4a3ccd27e", func := "loop.example/softwareradio/laws.FnTurnSamples", spec := "fnTurnSamples", apart := false }
def FnTurnSamplesSaid : Prop := fnTurnSamplesRow.holds Try.pinned (OpenSpec.ofChange fnTurnSamplesSpec)

/-- ITS FALSE NEIGHBOUR: 'it returns false'. Refute it at one input. -/
def fnTurnSamplesWrong : ChangeSpec := { name := "fnTurnSamples", fn := fun _ => fun
  | [d] => { results := [.lit (.bool false)], args := [d] }
  | _ => none }
def FnTurnSamplesWrongFalsely : Prop := fnTurnSamplesRow.holds Try.pinned (OpenSpec.ofChange fnTurnSamplesWrong)

/-- 'laws.FnSignalPower': WHATEVER THE INPUT: true; the input reads as it did. -/
def fnSignalPowerSpec : ChangeSpec := { name := "fnSignalPower", fn := fun _ => fun
  | [d] => { results := [.lit (.bool true)], args := [d] }
  | _ => none }
def fnSignalPowerRow : OpenClaim := { program := "ytmolpeemifngcaa", sum := "3eacef4ad0bbb73f05cf9a2303e7884a103f0109ca77cd5a079fb1f4a3ccd27e", func := "loop.example/softwareradio/laws.FnSignalPower", spec := "fnSignalPower", apart := false }
def FnSignalPowerSaid : Prop := fnSignalPowerRow.holds Try.pinned (OpenSpec.ofChange fnSignalPowerSpec)

/-- ITS FALSE NEIGHBOUR: 'it returns false'. Refute it at one input. -/
def fnSignalPowerWrong : ChangeSpec := { name := "fnSignalPower", fn := fun _ => fun
  | [d] => { results := [.lit (.bool false)], args := [d] }
  | _ => none }
def FnSignalPowerWrongFalsely : Prop := fnSignalPowerRow.holds Try.pinned (OpenSpec.ofChange fnSignalPowerWrong)

/-- 'laws.FnTurnInverts': WHATEVER THE INPUT: true; the input reads as it did. -/
def fnTurnInvertsSpec : ChangeSpec := { name := "fnTurnInverts", fn := fun _ => fun
  | [d] => { results := [.lit (.bool true)], args := [d] }
  | _ => none }
def fnTurnInvertsRow : OpenClaim := { program := "ytmolpeemifngcaa", sum := "3eacef4ad0bbb73f05cf9a2303e7884a103f0109ca77cd5a079fb1f4a3ccd27e", func := "loop.example/softwareradio/laws.FnTurnInverts", spec := "fnTurnInverts", unfollowed := true, recurses := true, apart := false }
def FnTurnInvertsSaid : Prop := fnTurnInvertsRow.holds Try.pinned (OpenSpec.ofChange fnTurnInvertsSpec)

/-- ITS FALSE NEIGHBOUR: 'it returns false'. Refute it at one input. -/
def fnTurnInvertsWrong : ChangeSpec := { name := "fnTurnInverts", fn := fun _ => fun
  | [d] => { results := [.lit (.bool false)], args := [d] }
  | _ => none }
def FnTurnInvertsWrongFalsely : Prop := fnTurnInvertsRow.holds Try.pinned (OpenSpec.ofChange fnTurnInvertsWrong)

/-- 'laws.FnExactSignalValid': WHATEVER THE INPUT: true; the input reads as it did. -/
def fnExactSignalValidSpec : ChangeSpec := { name := "fnExactSignalValid", fn := fun _ => fun
  | [d] => { results := [.lit (.bool true)], args := [d] }
  | _ => none }
def fnExactSignalValidRow : OpenClaim := { program := "ytmolpeemifngcaa", sum := "3eacef4ad0bbb73f05cf9a2303e7884a103f0109ca77cd5a079fb1f4a3ccd27e", func := "loop.example/softwareradio/laws.FnExactSignalValid", spec := "fnExactSignalValid", apart := false }
def FnExactSignalValidSaid : Prop := fnExactSignalValidRow.holds Try.pinned (OpenSpec.ofChange fnExactSignalValidSpec)

/-- ITS FALSE NEIGHBOUR: 'it returns false'. Refute it at one input. -/
def fnExactSignalValidWrong : ChangeSpec := { name := "fnExactSignalValid", fn := fun _ => fun
  | [d] => { results := [.lit (.bool false)], args := [d] }
  | _ => none }
def FnExactSignalValidWrongFalsely : Prop := fnExactSignalValidRow.holds Try.pinned (OpenSpec.ofChange fnExactSignalValidWrong)

/-- 'laws.FnExactMapBits': WHATEVER THE INPUT: true; the input reads as it did. -/
def fnExactMapBitsSpec : ChangeSpec := { name := "fnExactMapBits", fn := fun _ => fun
  | [d1, d2] => { results := [.lit (.bool true)], args := [d1, d2] }
  | _ => none }
def fnExactMapBitsRow : OpenClaim := { program := "ytmolpeemifngcaa", sum := "3eacef4ad0bbb73f05cf9a2303e7884a103f0109ca77cd5a079fb1f4a3ccd27e", func := "loop.example/softwareradio/laws.FnExactMapBits", spec := "fnExactMapBits", unfollowed := true, recurses := true, apart := false }
def FnExactMapBitsSaid : Prop := fnExactMapBitsRow.holds Try.pinned (OpenSpec.ofChange fnExactMapBitsSpec)

/-- ITS FALSE NEIGHBOUR: 'it returns false'. Refute it at one input. -/
def fnExactMapBitsWrong : ChangeSpec := { name := "fnExactMapBits", fn := fun _ => fun
  | [d1, d2] => { results := [.lit (.bool false)], args := [d1, d2] }
  | _ => none }
def FnExactMapBitsWrongFalsely : Prop := fnExactMapBitsRow.holds Try.pinned (OpenSpec.ofChange fnExactMapBitsWrong)

/-- 'laws.FnExactSliceBits': WHATEVER THE INPUT: true; the input reads as it did. -/
def fnExactSliceBitsSpec : ChangeSpec := { name := "fnExactSliceBits", fn := fun _ => fun
  | [d1, d2] => { results := [.lit (.bool true)], args := [d1, d2] }
  | _ => none }
def fnExactSliceBitsRow : OpenClaim := { program := "ytmolpeemifngcaa", sum := "3eacef4ad0bbb73f05cf9a2303e7884a103f0109ca77cd5a079fb1f4a3ccd27e", func := "loop.example/softwareradio/laws.FnExactSliceBits", spec := "fnExactSliceBits", unfollowed := true, recurses := true, apart := false }
def FnExactSliceBitsSaid : Prop := fnExactSliceBitsRow.holds Try.pinned (OpenSpec.ofChange fnExactSliceBitsSpec)

/-- ITS FALSE NEIGHBOUR: 'it returns false'. Refute it at one input. -/
def fnExactSliceBitsWrong : ChangeSpec := { name := "fnExactSliceBits", fn := fun _ => fun
  | [d1, d2] => { results := [.lit (.bool false)], args := [d1, d2] }
  | _ => none }
def FnExactSliceBitsWrongFalsely : Prop := fnExactSliceBitsRow.holds Try.pinned (OpenSpec.ofChange fnExactSliceBitsWrong)

/-- 'laws.FnExactTurnSamples': WHATEVER THE INPUT: true; the input reads as it did. -/
def fnExactTurnSamplesSpec : ChangeSpec := { name := "fnExactTurnSamples", fn := fun _ => fun
  | [d1, d2] => { results := [.lit (.bool true)], args := [d1, d2] }
  | _ => none }
def fnExactTurnSamplesRow : OpenClaim := { program := "ytmolpeemifngcaa", sum := "3eacef4ad0bbb73f05cf9a2303e7884a103f0109ca77cd5a079fb1f4a3ccd27e", func := "loop.example/softwareradio/laws.FnExactTurnSamples", spec := "fnExactTurnSamples", apart := false }
def FnExactTurnSamplesSaid : Prop := fnExactTurnSamplesRow.holds Try.pinned (OpenSpec.ofChange fnExactTurnSamplesSpec)

/-- ITS FALSE NEIGHBOUR: 'it returns false'. Refute it at one input. -/
def fnExactTurnSamplesWrong : ChangeSpec := { name := "fnExactTurnSamples", fn := fun _ => fun
  | [d1, d2] => { results := [.lit (.bool false)], args := [d1, d2] }
  | _ => none }
def FnExactTurnSamplesWrongFalsely : Prop := fnExactTurnSamplesRow.holds Try.pinned (OpenSpec.ofChange fnExactTurnSamplesWrong)

/-- 'laws.FnExactSignalPower': WHATEVER THE INPUT: true; the input reads as it did. -/
def fnExactSignalPowerSpec : ChangeSpec := { name := "fnExactSignalPower", fn := fun _ => fun
  | [d] => { results := [.lit (.bool true)], args := [d] }
  | _ => none }
def fnExactSignalPowerRow : OpenClaim := { program := "ytmolpeemifngcaa", sum := "3eacef4ad0bbb73f05cf9a2303e7884a103f0109ca77cd5a079fb1f4a3ccd27e", func := "loop.example/softwareradio/laws.FnExactSignalPower", spec := "fnExactSignalPower", apart := false }
def FnExactSignalPowerSaid : Prop := fnExactSignalPowerRow.holds Try.pinned (OpenSpec.ofChange fnExactSignalPowerSpec)

/-- ITS FALSE NEIGHBOUR: 'it returns false'. Refute it at one input. -/
def fnExactSignalPowerWrong : ChangeSpec := { name := "fnExactSignalPower", fn := fun _ => fun
  | [d] => { results := [.lit (.bool false)], args := [d] }
  | _ => none }
def FnExactSignalPowerWrongFalsely : Prop := fnExactSignalPowerRow.holds Try.pinned (OpenSpec.ofChange fnExactSignalPowerWrong)

/- THE SECOND FORM. 'bulk': how many values and letters a reading holds, each counted each time it is reached (what is shared counts as often as it is met; a slice's spare places count too). A statement '..UptoSaid' is the law's where the arguments, and the package variables that the reading takes, are together of bulk at most 1048576: NARROWER than '..Said'. Prove '..Said' where nothing that the law and all that it calls make is longer than what came in: it says more and counts as full. Else prove '..UptoSaid'. A law counts once. -/
mutual
def uptoBulk {H : Type} : DataW H → Nat
  | .lit (.string bytes) => bytes.length + 1
  | .lit _ => 1
  | .nil => 1
  | .ptr d => uptoBulk d + 1
  | .slice elems spare => uptoBulkAll elems + uptoBulkAll spare + 1
  | .agg parts => uptoBulkAll parts + 1
  | .iface _ d => uptoBulk d + 1
  | .map entries => uptoBulkEntries entries + 1
  | .held _ => 1
def uptoBulkAll {H : Type} : List (DataW H) → Nat
  | [] => 0
  | d :: r => uptoBulk d + uptoBulkAll r
def uptoBulkEntries {H : Type} : List (Lit × DataW H) → Nat
  | [] => 0
  | x :: r => uptoBulkEntry x + uptoBulkEntries r
def uptoBulkEntry {H : Type} : Lit × DataW H → Nat
  | (.string bytes, d) => bytes.length + uptoBulk d + 1
  | (_, d) => uptoBulk d + 1
 end
def uptoSmall : (H : Type) → List (DataW H) → Bool := fun _ ds => decide (uptoBulkAll ds ≤ 1048576)
def OpenSpec.upto (s : _root_.Go.ChangeSpec) : _root_.Go.OpenSpec := { _root_.Go.OpenSpec.ofChange s with cond := some uptoSmall }

/-- 'laws.FnMapBits', WHERE WHAT IT READS IS OF BULK AT MOST 1048576: true; the input reads as it did. -/
def fnMapBitsUptoRow : OpenClaim := { program := "ytmolpeemifngcaa", sum := "3eacef4ad0bbb73f05cf9a2303e7884a103f0109ca77cd5a079fb1f4a3ccd27e", func := "loop.example/softwareradio/laws.FnMapBits", spec := "fnMapBits", unfollowed := true, recurses := true, apart := false, narrowed := true }
def FnMapBitsUptoSaid : Prop := fnMapBitsUptoRow.holds Try.pinned (OpenSpec.upto fnMapBitsSpec)

/-- 'laws.FnSignalValid', WHERE WHAT IT READS IS OF BULK AT MOST 1048576: true; the input reads as it did. -/
def fnSignalValidUptoRow : OpenClaim := { program := "ytmolpeemifngcaa", sum := "3eacef4ad0bbb73f05cf9a2303e7884a103f0109ca77cd5a079fb1f4a3ccd27e", func := "loop.example/softwareradio/laws.FnSignalValid", spec := "fnSignalValid", apart := false, narrowed := true }
def FnSignalValidUptoSaid : Prop := fnSignalValidUptoRow.holds Try.pinned (OpenSpec.upto fnSignalValidSpec)

/-- 'laws.FnGrayMap', WHERE WHAT IT READS IS OF BULK AT MOST 1048576: true; the input reads as it did. -/
def fnGrayMapUptoRow : OpenClaim := { program := "ytmolpeemifngcaa", sum := "3eacef4ad0bbb73f05cf9a2303e7884a103f0109ca77cd5a079fb1f4a3ccd27e", func := "loop.example/softwareradio/laws.FnGrayMap", spec := "fnGrayMap", unfollowed := true, recurses := true, apart := false, narrowed := true }
def FnGrayMapUptoSaid : Prop := fnGrayMapUptoRow.holds Try.pinned (OpenSpec.upto fnGrayMapSpec)

/-- 'laws.FnSliceBits', WHERE WHAT IT READS IS OF BULK AT MOST 1048576: true; the input reads as it did. -/
def fnSliceBitsUptoRow : OpenClaim := { program := "ytmolpeemifngcaa", sum := "3eacef4ad0bbb73f05cf9a2303e7884a103f0109ca77cd5a079fb1f4a3ccd27e", func := "loop.example/softwareradio/laws.FnSliceBits", spec := "fnSliceBits", unfollowed := true, recurses := true, apart := false, narrowed := true }
def FnSliceBitsUptoSaid : Prop := fnSliceBitsUptoRow.holds Try.pinned (OpenSpec.upto fnSliceBitsSpec)

/-- 'laws.FnTurnSamples', WHERE WHAT IT READS IS OF BULK AT MOST 1048576: true; the input reads as it did. -/
def fnTurnSamplesUptoRow : OpenClaim := { program := "ytmolpeemifngcaa", sum := "3eacef4ad0bbb73f05cf9a2303e7884a103f0109ca77cd5a079fb1f4a3ccd27e", func := "loop.example/softwareradio/laws.FnTurnSamples", spec := "fnTurnSamples", apart := false, narrowed := true }
def FnTurnSamplesUptoSaid : Prop := fnTurnSamplesUptoRow.holds Try.pinned (OpenSpec.upto fnTurnSamplesSpec)

/-- 'laws.FnSignalPower', WHERE WHAT IT READS IS OF BULK AT MOST 1048576: true; the input reads as it did. -/
def fnSignalPowerUptoRow : OpenClaim := { program := "ytmolpeemifngcaa", sum := "3eacef4ad0bbb73f05cf9a2303e7884a103f0109ca77cd5a079fb1f4a3ccd27e", func := "loop.example/softwareradio/laws.FnSignalPower", spec := "fnSignalPower", apart := false, narrowed := true }
def FnSignalPowerUptoSaid : Prop := fnSignalPowerUptoRow.holds Try.pinned (OpenSpec.upto fnSignalPowerSpec)

/-- 'laws.FnTurnInverts', WHERE WHAT IT READS IS OF BULK AT MOST 1048576: true; the input reads as it did. -/
def fnTurnInvertsUptoRow : OpenClaim := { program := "ytmolpeemifngcaa", sum := "3eacef4ad0bbb73f05cf9a2303e7884a103f0109ca77cd5a079fb1f4a3ccd27e", func := "loop.example/softwareradio/laws.FnTurnInverts", spec := "fnTurnInverts", unfollowed := true, recurses := true, apart := false, narrowed := true }
def FnTurnInvertsUptoSaid : Prop := fnTurnInvertsUptoRow.holds Try.pinned (OpenSpec.upto fnTurnInvertsSpec)

/-- 'laws.FnExactSignalValid', WHERE WHAT IT READS IS OF BULK AT MOST 1048576: true; the input reads as it did. -/
def fnExactSignalValidUptoRow : OpenClaim := { program := "ytmolpeemifngcaa", sum := "3eacef4ad0bbb73f05cf9a2303e7884a103f0109ca77cd5a079fb1f4a3ccd27e", func := "loop.example/softwareradio/laws.FnExactSignalValid", spec := "fnExactSignalValid", apart := false, narrowed := true }
def FnExactSignalValidUptoSaid : Prop := fnExactSignalValidUptoRow.holds Try.pinned (OpenSpec.upto fnExactSignalValidSpec)

/-- 'laws.FnExactMapBits', WHERE WHAT IT READS IS OF BULK AT MOST 1048576: true; the input reads as it did. -/
def fnExactMapBitsUptoRow : OpenClaim := { program := "ytmolpeemifngcaa", sum := "3eacef4ad0bbb73f05cf9a2303e7884a103f0109ca77cd5a079fb1f4a3ccd27e", func := "loop.example/softwareradio/laws.FnExactMapBits", spec := "fnExactMapBits", unfollowed := true, recurses := true, apart := false, narrowed := true }
def FnExactMapBitsUptoSaid : Prop := fnExactMapBitsUptoRow.holds Try.pinned (OpenSpec.upto fnExactMapBitsSpec)

/-- 'laws.FnExactSliceBits', WHERE WHAT IT READS IS OF BULK AT MOST 1048576: true; the input reads as it did. -/
def fnExactSliceBitsUptoRow : OpenClaim := { program := "ytmolpeemifngcaa", sum := "3eacef4ad0bbb73f05cf9a2303e7884a103f0109ca77cd5a079fb1f4a3ccd27e", func := "loop.example/softwareradio/laws.FnExactSliceBits", spec := "fnExactSliceBits", unfollowed := true, recurses := true, apart := false, narrowed := true }
def FnExactSliceBitsUptoSaid : Prop := fnExactSliceBitsUptoRow.holds Try.pinned (OpenSpec.upto fnExactSliceBitsSpec)

/-- 'laws.FnExactTurnSamples', WHERE WHAT IT READS IS OF BULK AT MOST 1048576: true; the input reads as it did. -/
def fnExactTurnSamplesUptoRow : OpenClaim := { program := "ytmolpeemifngcaa", sum := "3eacef4ad0bbb73f05cf9a2303e7884a103f0109ca77cd5a079fb1f4a3ccd27e", func := "loop.example/softwareradio/laws.FnExactTurnSamples", spec := "fnExactTurnSamples", apart := false, narrowed := true }
def FnExactTurnSamplesUptoSaid : Prop := fnExactTurnSamplesUptoRow.holds Try.pinned (OpenSpec.upto fnExactTurnSamplesSpec)

/-- 'laws.FnExactSignalPower', WHERE WHAT IT READS IS OF BULK AT MOST 1048576: true; the input reads as it did. -/
def fnExactSignalPowerUptoRow : OpenClaim := { program := "ytmolpeemifngcaa", sum := "3eacef4ad0bbb73f05cf9a2303e7884a103f0109ca77cd5a079fb1f4a3ccd27e", func := "loop.example/softwareradio/laws.FnExactSignalPower", spec := "fnExactSignalPower", apart := false, narrowed := true }
def FnExactSignalPowerUptoSaid : Prop := fnExactSignalPowerUptoRow.holds Try.pinned (OpenSpec.upto fnExactSignalPowerSpec)

end Rows
end Go.Proofs.Ytmolpeemifngcaa
