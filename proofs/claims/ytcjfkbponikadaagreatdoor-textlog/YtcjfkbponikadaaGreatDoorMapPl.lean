/-
  What rokeep.Map makes, plainly (no program in it).
-/
import Derived.Test.YtcjfkbponikadaaGreatDoorShPl
import Derived.Test.YtcjfkbponikadaaGreatDoorWi
set_option linter.unusedVariables false
set_option linter.unusedSimpArgs false
namespace Go.Proofs.YtcjfkbponikadaaGreatDoor

def cutsL : List ByteArray := [⟨#[97]⟩, ⟨#[98]⟩, ⟨#[98, 98]⟩, ⟨#[100]⟩, ⟨#[109]⟩, ⟨#[112]⟩]
theorem cutsL_ok : cutsB ByteArray.empty cutsL = true := by decide +kernel
/-- the i-th cut is taken -/
def mpT (zs : List Int) (i : Nat) : Bool := decide (i < zs.length) && decide (0 < wi (zs.getD i 0) 3)
/-- the map of the first i cuts -/
def mapR (zs : List Int) : Nat → List ByteArray × List Nat
  | 0 => ([], [0])
  | i + 1 => if mpT zs i = true then ((mapR zs i).1 ++ [cutsL.getD i ByteArray.empty], (mapR zs i).2 ++ [wi ((zs.getD i 0).tdiv 3) 4]) else mapR zs i
theorem mapR_len (zs : List Int) (i : Nat) : (mapR zs i).2.length = (mapR zs i).1.length + 1 := by
  induction i with
  | zero => rfl
  | succ i ih => simp only [mapR]; split <;> simp [ih]
theorem mapR_few (zs : List Int) (i : Nat) : (mapR zs i).1.length ≤ i := by
  induction i with
  | zero => simp [mapR]
  | succ i ih =>
    simp only [mapR]
    split
    · rw [List.length_append, List.length_singleton]; omega
    · omega
theorem mapR_sub (zs : List Int) {i : Nat} (hi : i ≤ 6) : (mapR zs i).1.Sublist (cutsL.take i) := by
  induction i with
  | zero => simp [mapR]
  | succ i ih =>
    have hl : i < cutsL.length := by simp [cutsL]; omega
    have e : cutsL.take (i + 1) = cutsL.take i ++ [cutsL.getD i ByteArray.empty] := by
      rw [List.take_succ_eq_append_getElem hl]; simp [List.getD_eq_getElem?_getD, hl]
    rw [e]
    simp only [mapR]
    split
    · exact (ih (by omega)).append (List.Sublist.refl _)
    · exact (ih (by omega)).trans (List.sublist_append_left _ _)
theorem mapR_own (zs : List Int) (i : Nat) : ∀ n ∈ (mapR zs i).2, n ≤ 3 := by
  induction i with
  | zero => intro n hn; simp [mapR] at hn; omega
  | succ i ih =>
    simp only [mapR]
    split
    · intro n hn
      rcases List.mem_append.1 hn with hn | hn
      · exact ih n hn
      · rw [List.mem_singleton.1 hn]
        have := wi_lt ((zs.getD i 0).tdiv 3) 4 (by decide)
        omega
    · exact ih
theorem mapR_ok (zs : List Int) : OkM (mapR zs 6).1 ((mapR zs 6).2.map fun (k : Nat) => (k : Int)) := by
  have hs := mapR_sub zs (i := 6) (by decide)
  obtain ⟨h1, h2⟩ := cutsB_iff.1 cutsL_ok
  have ht : cutsL.take 6 = cutsL := rfl
  rw [ht] at hs
  refine ⟨by have := mapR_few zs 6; omega, by rw [List.length_map, mapR_len], cutsB_iff.2 ⟨fun k hk => h1 k (hs.subset hk), h2.sublist hs⟩, fun n hn => ?_⟩
  obtain ⟨k, hk, rfl⟩ := List.mem_map.1 hn
  have := mapR_own zs 6 k hk
  omega
end Go.Proofs.YtcjfkbponikadaaGreatDoor
