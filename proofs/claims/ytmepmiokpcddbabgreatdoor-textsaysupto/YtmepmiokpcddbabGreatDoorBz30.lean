/-
  roref.Text, plainly (no program in it).
-/
import Derived.Test.YtmepmiokpcddbabGreatDoorBz4
set_option linter.unusedVariables false
set_option linter.unusedSimpArgs false
namespace Go.Proofs.YtmepmiokpcddbabGreatDoor
open Go.Lib

theorem join_snoc (l : List (List UInt8)) (x : List UInt8) (c : UInt8) : join (l ++ [x]) [c] = if l = [] then x else join l [c] ++ c :: x := by
  cases l with
  | nil => rw [if_pos rfl, List.nil_append, join_one]
  | cons y r =>
    rw [if_neg (by simp), List.cons_append, join_cons, join_cons]
    have h : joinTail [c] (r ++ [x]) = joinTail [c] r ++ c :: x := by simp [joinTail]
    rw [h]; simp
/-- the first operations as text -/
def tDk (d : List Opr) (k : Nat) : List UInt8 := tD (d.take k)
theorem tDk_zero (d : List Opr) : tDk d 0 = [] := rfl
theorem tDk_all (d : List Opr) : tDk d d.length = tD d := by unfold tDk; rw [List.take_length]
theorem tDk_next (d : List Opr) (k : Nat) (h : k < d.length) : tDk d (k + 1) = (if k = 0 then [] else tDk d k ++ [59]) ++ opT d[k] := by
  unfold tDk tD
  rw [List.take_succ_eq_append_getElem h, List.map_append, List.map_singleton, join_snoc]
  rcases Nat.eq_zero_or_pos k with rfl | hk
  · simp
  · rw [if_neg (by
      intro e
      have e2 := congrArg List.length e
      rw [List.length_map, List.length_take, List.length_nil] at e2; omega), if_neg (by omega)]
    simp
end Go.Proofs.YtmepmiokpcddbabGreatDoor
