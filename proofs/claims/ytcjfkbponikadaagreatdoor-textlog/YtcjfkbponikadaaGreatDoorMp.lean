/-
  Partition maps in memory.
-/
import Derived.Test.YtcjfkbponikadaaGreatDoorInts
import Derived.Test.YtcjfkbponikadaaGreatDoorDPl
import Derived.Test.YtcjfkbponikadaaGreatDoorInB
import Derived.WalkKit
import Derived.WalkSpells
import Derived.WalkLawsBesides
import Derived.Deep.QuietTactic
import Derived.BigQuiet
set_option linter.unusedVariables false
set_option linter.unusedSimpArgs false
namespace Go.Proofs.YtcjfkbponikadaaGreatDoor
open Go.RowKit

/-- a map as a value: where its cuts and its owners lie -/
structure Mp where
  A : Option Addr
  ca : Nat
  cs : List ByteArray
  O : Option Addr
  co : Nat
  os : List Int
def mpV (m : Mp) : Value := .agg #[.slice m.A m.cs.length m.ca, .slice m.O m.os.length m.co]
/-- what it reads as -/
structure MS (w : World) (m : Mp) : Prop where
  cuts : VS w m.A (m.cs.map Value.string)
  own : IS w m.O m.os
  lc : m.cs.length ≤ m.ca
  lo : m.os.length ≤ m.co
  mc : m.ca ≤ maxLen
  mo : m.co ≤ maxLen
  nc : m.A = none → m.ca = 0
  no : m.O = none → m.co = 0
theorem MS.below {w w' : World} {m : Mp} (h : MS w m) (hb : Below w.heap.size w w') : MS w' m := ⟨h.cuts.below hb, h.own.below hb, h.lc, h.lo, h.mc, h.mo, h.nc, h.no⟩
end Go.Proofs.YtcjfkbponikadaaGreatDoor
