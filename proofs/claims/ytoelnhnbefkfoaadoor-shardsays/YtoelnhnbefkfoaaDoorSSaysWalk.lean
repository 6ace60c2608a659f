/-
  The walk of ShardSays, joined.
-/
import Derived.Test.YtoelnhnbefkfoaaDoorSSaysA
import Derived.Test.YtoelnhnbefkfoaaDoorSSaysB
import Derived.Test.YtoelnhnbefkfoaaDoorSSaysC
set_option linter.unusedVariables false
set_option linter.unusedSimpArgs false
namespace Go.Proofs.YtoelnhnbefkfoaaDoor
open Go.RowKit

theorem ssays_any (m : Mp) (key : ByteArray) (i n : Int) (w : World) (hm : MS w m) :
    Calls Tryd.prog 3 #[.agg #[.slice m.A m.cs.length m.ca, .slice m.O m.os.length m.co], .string key, .int .i64 i, .int .i64 n] w fun e w' => e = .returned (.bool true) ∧ Below w.heap.size w w' := by
  by_cases hc : chkM m.cs m.os = 0
  · by_cases hA : keyB key = false ∨ inB key m.cs = true ∨ m.cs.length = 12
    · exact ssays_a m key i n w hm hc hA
    · have hk : keyB key = true := by
        cases h : keyB key with
        | true => rfl
        | false => exact absurd (.inl h) hA
      have hin : inB key m.cs = false := by
        cases h : inB key m.cs with
        | false => rfl
        | true => exact absurd (.inr (.inl h)) hA
      have h12 : m.cs.length ≠ 12 := fun h => hA (.inr (.inr h))
      rcases Nat.lt_or_eq_of_le (atC_le m.cs key) with h | h
      · exact ssays_c m key i n w hm hc hk hin h12 h
      · exact ssays_b m key i n w hm hc hk hin h12 h
  · exact ssays_bad m key i n w hm hc
end Go.Proofs.YtoelnhnbefkfoaaDoor
