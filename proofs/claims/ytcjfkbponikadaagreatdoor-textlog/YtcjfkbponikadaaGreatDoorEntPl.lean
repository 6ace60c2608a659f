/-
  Log entries, plainly (no program in it).
-/
import Derived.Test.YtcjfkbponikadaaGreatDoorDPl
import Derived.Test.YtcjfkbponikadaaGreatDoorShPl
set_option linter.unusedVariables false
set_option linter.unusedSimpArgs false
namespace Go.Proofs.YtcjfkbponikadaaGreatDoor

/-- an entry -/
structure Ent where
  isM : Bool
  d : List Opr
  cs : List ByteArray
  os : List Int
def ent0 : Ent := ⟨false, [], [], []⟩
/-- its error -/
def chkE (x : Ent) : Int := if x.isM then chkM x.cs x.os else chkD x.d
/-- without the field that does not count -/
def dropE (x : Ent) : Ent := if x.isM then ⟨true, [], x.cs, x.os⟩ else ⟨false, x.d, [], []⟩
theorem dropE_twice (x : Ent) : dropE (dropE x) = dropE x := by
  obtain ⟨m, d, cs, os⟩ := x
  cases m <;> rfl
theorem chkE_drop (x : Ent) : chkE (dropE x) = chkE x := by
  obtain ⟨m, d, cs, os⟩ := x
  cases m <;> rfl
end Go.Proofs.YtcjfkbponikadaaGreatDoor
