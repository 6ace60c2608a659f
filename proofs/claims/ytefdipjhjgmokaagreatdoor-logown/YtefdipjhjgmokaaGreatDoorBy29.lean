/-
  rokeep.Within, keys and Key.
-/
import Derived.Test.YtefdipjhjgmokaaGreatDoorBy2
import Derived.Test.YtefdipjhjgmokaaGreatDoorBy27
import Derived.WalkKit
import Derived.WalkSpells
import Derived.WalkLawsBesides
import Derived.Deep.DeepMust
set_option linter.unusedVariables false
set_option linter.unusedSimpArgs false
namespace Go.Proofs.YtefdipjhjgmokaaGreatDoor
open Go.RowKit

theorem valB_iff' {n : Int} : valB n = true ↔ -1000000000 ≤ n ∧ n ≤ 1000000000 := by simp [valB]
/-- the keys that are used -/
def keysL : List ByteArray := [⟨#[97]⟩, ⟨#[98]⟩, ⟨#[99]⟩, ⟨#[100]⟩, ⟨#[109]⟩, ⟨#[110]⟩, ⟨#[122]⟩, ⟨#[97, 98]⟩]
def keyN (i : Nat) : ByteArray := keysL.getD i ⟨#[97]⟩
theorem keysL_ok : ∀ k ∈ keysL, keyB k = true := by decide +kernel
theorem keyN_mem {i : Nat} (h : i < 8) : keyN i ∈ keysL := by
  unfold keyN
  rw [List.getD_eq_getElem?_getD, List.getElem?_eq_getElem (by simpa [keysL] using h)]
  exact List.getElem_mem _
theorem keyN_ok {i : Nat} (h : i < 8) : keyB (keyN i) = true := keysL_ok _ (keyN_mem h)
theorem keyN_size {i : Nat} (h : i < 8) : (keyN i).size ≤ 6 := by
  have := keyN_ok h
  simp [keyB] at this
  exact this.1.2
def keysO : Obj := .cells #[.string ⟨#[97]⟩, .string ⟨#[98]⟩, .string ⟨#[99]⟩, .string ⟨#[100]⟩, .string ⟨#[109]⟩, .string ⟨#[110]⟩, .string ⟨#[122]⟩, .string ⟨#[97, 98]⟩] 9

set_option maxHeartbeats 400000 in
theorem keys_any (w : World) : Calls Tryz.prog 137 #[] w fun e w' => e = .returned (.slice (some ⟨w.heap.size, 0, none⟩) 8 8) ∧ w.alloc keysO = w' := by
  go_enter Tryz.func137, Tryz.ntmps137
  go_wp2
  go_ret
  exact ⟨rfl, rfl⟩
theorem keysO_cell (w : World) (i : Nat) (h : i < 8) : (w.alloc keysO).cell? ⟨w.heap.size, i, none⟩ = some (.string (keyN i)) := by
  unfold keysO
  rcases (show i = 0 ∨ i = 1 ∨ i = 2 ∨ i = 3 ∨ i = 4 ∨ i = 5 ∨ i = 6 ∨ i = 7 by omega) with rfl | rfl | rfl | rfl | rfl | rfl | rfl | rfl <;> simp [keyN, keysL]

set_option maxHeartbeats 400000 in
theorem rkey_any (k : Int) (w : World) : Calls Tryz.prog 85 #[.int .i64 k] w fun e w' => e = .returned (.string (keyN (wi k 8))) ∧ w.alloc keysO = w' := by
  have hlt := wi_lt k 8 (by omega)
  have hc := keysO_cell w (wi k 8) hlt
  go_enter Tryz.func85, Tryz.ntmps85
  go_wp2_with fail
  refine (keys_any _).mono ?_
  rintro e w' ⟨rfl, rfl⟩
  go_wp2_with fail
  refine (within_any k 8 (by omega) (by omega) _).mono ?_
  rintro e w' ⟨rfl, rfl⟩
  generalize hs : keyN (wi k 8) = s at hc
  have HS := hideP hs
  clear hs
  generalize hi : wi k 8 = i at hlt hc
  have HI := hideP hi
  clear hi
  generalize hw1 : w.alloc keysO = w1 at hc
  have HW := hideP hw1
  clear hw1
  have g1 : (0 : Int) ≤ (i : Int) := by omega
  have g2 : (i : Int) < 8 := by omega
  go_wp2_with fail
  go_ret
  exact ⟨by rw [← HS.out]; rfl, HW.out⟩

end Go.Proofs.YtefdipjhjgmokaaGreatDoor
