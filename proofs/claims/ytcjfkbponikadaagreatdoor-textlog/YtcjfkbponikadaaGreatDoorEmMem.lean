/-
  Entries in memory (no body of the program in it).
-/
import Derived.Test.YtcjfkbponikadaaGreatDoorEntPl
import Derived.Test.YtcjfkbponikadaaGreatDoorMOwn
import Derived.Test.YtcjfkbponikadaaGreatDoorOpMem
set_option linter.unusedVariables false
set_option linter.unusedSimpArgs false
namespace Go.Proofs.YtcjfkbponikadaaGreatDoor
open Go.RowKit

/-- an entry as a value: where its lists lie -/
structure Em where
  D : Option Addr
  c : Nat
  d : List Opr
  isM : Bool
  m : Mp
def emC (x : Em) : Array Value := #[.slice x.D x.d.length x.c, .bool x.isM, .slice x.m.A x.m.cs.length x.m.ca, .slice x.m.O x.m.os.length x.m.co]
def emV (x : Em) : Value := .agg (emC x)
/-- what it reads as -/
structure ES (w : World) (x : Em) : Prop where
  ops : OS w w.heap.size x.D x.d
  map : MS w x.m
  bd : ∀ o ∈ x.d, -9223372036854775808 ≤ o.n ∧ o.n ≤ 9223372036854775807
theorem ES.below {w w' : World} {x : Em} (h : ES w x) (hb : Below w.heap.size w w') : ES w' x := ⟨h.ops.go hb, h.map.below hb, h.bd⟩
def entOf (x : Em) : Ent := ⟨x.isM, x.d, x.m.cs, x.m.os⟩
/-- an entry of the call's own -/
structure EO (w : World) (B : Nat) (x : Em) : Prop where
  ops : OO w B x.D x.c x.d
  map : MO w B x.m
theorem EO.below {w w' : World} {B : Nat} {x : Em} (h : EO w B x) (hb : Below w.heap.size w w') : EO w' B x := ⟨h.ops.below hb, h.map.below hb⟩
theorem EO.mono {w : World} {B B' : Nat} {x : Em} (h : EO w B x) (hB : B' ≤ B) : EO w B' x := ⟨h.ops.mono hB, h.map.mono hB⟩
/-- no entry -/
def em0 : Em := ⟨none, 0, [], false, noM⟩
theorem em0_eo (w : World) (B : Nat) : EO w B em0 := ⟨OO.nil _ _, noM_mo _ _⟩
end Go.Proofs.YtcjfkbponikadaaGreatDoor
