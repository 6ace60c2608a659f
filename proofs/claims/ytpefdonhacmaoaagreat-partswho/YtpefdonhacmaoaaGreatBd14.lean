/-
  A number within bounds, plainly (no program in it).
  rokeep.Within.
  rokeep.Within, keys and Key.
  What rokeep.Map makes, plainly (no program in it).
-/
import Derived.WalkKit
import Derived.WalkSpells
import Derived.Test.YtpefdonhacmaoaaGreatProg
import Derived.Test.YtpefdonhacmaoaaGreatBd1
import Derived.WalkLawsBesides
import Derived.Test.YtpefdonhacmaoaaGreatBd3
import Derived.Deep.DeepMust
set_option linter.unusedVariables false
set_option linter.unusedSimpArgs false
namespace Go.Proofs.YtpefdonhacmaoaaGreat
open Go.RowKit

/-- what Within answers -/
def wi (k : Int) (n : Nat) : Nat := ((IntKind.u64.wrap k).tmod n).toNat
theorem wrap_u64_nonneg (k : Int) : 0 ≤ IntKind.u64.wrap k := by simp [IntKind.wrap_u64]; omega
theorem wi_lt (k : Int) (n : Nat) (h : 1 ≤ n) : wi k n < n := by
  have h0 := wrap_u64_nonneg k
  unfold wi
  have := Int.tmod_lt_of_pos (IntKind.u64.wrap k) (show (0 : Int) < n by omega)
  omega
theorem wi_eq (k : Int) (n : Nat) (h : 1 ≤ n) (h2 : n ≤ 1000) : wrap64 ((IntKind.u64.wrap k).tmod (n : Int)) = (wi k n : Int) := by
  have h0 := wrap_u64_nonneg k
  have h1 := Int.tmod_lt_of_pos (IntKind.u64.wrap k) (show (0 : Int) < n by omega)
  have h3 := Int.tmod_nonneg (n : Int) h0
  unfold wi wrap64
  omega
end Go.Proofs.YtpefdonhacmaoaaGreat

set_option linter.unusedVariables false
set_option linter.unusedSimpArgs false
namespace Go.Proofs.YtpefdonhacmaoaaGreat
open Go.RowKit

set_option maxHeartbeats 400000 in
theorem within_any (k : Int) (n : Nat) (h1 : 1 ≤ n) (h2 : n ≤ 1000) (w : World) :
    Calls Tryz.prog 23 #[.int .i64 k, .int .i64 n] w fun e w' => e = .returned (.int .i64 (wi k n)) ∧ w = w' := by
  go_enter Tryz.func23, Tryz.ntmps23
  go_wp2
  go_ret
  exact ⟨ret_int (wi_eq k n h1 h2), rfl⟩
end Go.Proofs.YtpefdonhacmaoaaGreat

set_option linter.unusedVariables false
set_option linter.unusedSimpArgs false
namespace Go.Proofs.YtpefdonhacmaoaaGreat
open Go.RowKit

theorem valB_iff' {n : Int} : valB n = true ↔ -1000000000 ≤ n ∧ n ≤ 1000000000 := by simp [valB]
/-- the keys that are used -/
def keysL : List ByteArray := [⟨#[97]⟩, ⟨#[98]⟩, ⟨#[99]⟩, ⟨#[100]⟩, ⟨#[109]⟩, ⟨#[110]⟩, ⟨#[122]⟩, ⟨#[97, 98]⟩]
def keyN (i : Nat) : ByteArray := keysL.getD i ⟨#[97]⟩
theorem keysL_ok : ∀ k ∈ keysL, keyB k = true := by decide +kernel
theorem keyN_mem {i : Nat} (h : i < 8) : keyN i ∈ keysL := by
  unfold keyN
  rw [List.getD_eq_getElem?_getD, List.getElem?_eq_getElem (by simpa [keysL] using h)]
  exact List.getElem_mem _
theorem keyN_ok {i : Nat} (h : i < 8) : keyB (keyN i) = true := keysL_ok _ (keyN_mem h)
theorem keyN_size {i : Nat} (h : i < 8) : (keyN i).size ≤ 6 := by
  have := keyN_ok h
  simp [keyB] at this
  exact this.1.2
def keysO : Obj := .cells #[.string ⟨#[97]⟩, .string ⟨#[98]⟩, .string ⟨#[99]⟩, .string ⟨#[100]⟩, .string ⟨#[109]⟩, .string ⟨#[110]⟩, .string ⟨#[122]⟩, .string ⟨#[97, 98]⟩] 9

set_option maxHeartbeats 400000 in
theorem keys_any (w : World) : Calls Tryz.prog 65 #[] w fun e w' => e = .returned (.slice (some ⟨w.heap.size, 0, none⟩) 8 8) ∧ w.alloc keysO = w' := by
  go_enter Tryz.func65, Tryz.ntmps65
  go_wp2
  go_ret
  exact ⟨rfl, rfl⟩
theorem keysO_cell (w : World) (i : Nat) (h : i < 8) : (w.alloc keysO).cell? ⟨w.heap.size, i, none⟩ = some (.string (keyN i)) := by
  unfold keysO
  rcases (show i = 0 ∨ i = 1 ∨ i = 2 ∨ i = 3 ∨ i = 4 ∨ i = 5 ∨ i = 6 ∨ i = 7 by omega) with rfl | rfl | rfl | rfl | rfl | rfl | rfl | rfl <;> simp [keyN, keysL]

set_option maxHeartbeats 400000 in
theorem rkey_any (k : Int) (w : World) : Calls Tryz.prog 22 #[.int .i64 k] w fun e w' => e = .returned (.string (keyN (wi k 8))) ∧ w.alloc keysO = w' := by
  have hlt := wi_lt k 8 (by omega)
  have hc := keysO_cell w (wi k 8) hlt
  go_enter Tryz.func22, Tryz.ntmps22
  go_wp2_with fail
  refine (keys_any _).mono ?_
  rintro e w' ⟨rfl, rfl⟩
  go_wp2_with fail
  refine (within_any k 8 (by omega) (by omega) _).mono ?_
  rintro e w' ⟨rfl, rfl⟩
  generalize hs : keyN (wi k 8) = s at hc
  have HS := hideP hs
  clear hs
  generalize hi : wi k 8 = i at hlt hc
  have HI := hideP hi
  clear hi
  generalize hw1 : w.alloc keysO = w1 at hc
  have HW := hideP hw1
  clear hw1
  have g1 : (0 : Int) ≤ (i : Int) := by omega
  have g2 : (i : Int) < 8 := by omega
  go_wp2_with fail
  go_ret
  exact ⟨by rw [← HS.out]; rfl, HW.out⟩

end Go.Proofs.YtpefdonhacmaoaaGreat

set_option linter.unusedVariables false
set_option linter.unusedSimpArgs false
namespace Go.Proofs.YtpefdonhacmaoaaGreat

def cutsL : List ByteArray := [⟨#[97]⟩, ⟨#[98]⟩, ⟨#[98, 98]⟩, ⟨#[100]⟩, ⟨#[109]⟩, ⟨#[112]⟩]
theorem cutsL_ok : cutsB ByteArray.empty cutsL = true := by decide +kernel
/-- the i-th cut is taken -/
def mpT (zs : List Int) (i : Nat) : Bool := decide (i < zs.length) && decide (0 < wi (zs.getD i 0) 3)
/-- the map of the first i cuts -/
def mapR (zs : List Int) : Nat → List ByteArray × List Nat
  | 0 => ([], [0])
  | i + 1 => if mpT zs i = true then ((mapR zs i).1 ++ [cutsL.getD i ByteArray.empty], (mapR zs i).2 ++ [wi ((zs.getD i 0).tdiv 3) 4]) else mapR zs i
theorem mapR_len (zs : List Int) (i : Nat) : (mapR zs i).2.length = (mapR zs i).1.length + 1 := by
  induction i with
  | zero => rfl
  | succ i ih => simp only [mapR]; split <;> simp [ih]
theorem mapR_few (zs : List Int) (i : Nat) : (mapR zs i).1.length ≤ i := by
  induction i with
  | zero => simp [mapR]
  | succ i ih =>
    simp only [mapR]
    split
    · rw [List.length_append, List.length_singleton]; omega
    · omega
theorem mapR_sub (zs : List Int) {i : Nat} (hi : i ≤ 6) : (mapR zs i).1.Sublist (cutsL.take i) := by
  induction i with
  | zero => simp [mapR]
  | succ i ih =>
    have hl : i < cutsL.length := by simp [cutsL]; omega
    have e : cutsL.take (i + 1) = cutsL.take i ++ [cutsL.getD i ByteArray.empty] := by
      rw [List.take_succ_eq_append_getElem hl]; simp [List.getD_eq_getElem?_getD, hl]
    rw [e]
    simp only [mapR]
    split
    · exact (ih (by omega)).append (List.Sublist.refl _)
    · exact (ih (by omega)).trans (List.sublist_append_left _ _)
theorem mapR_own (zs : List Int) (i : Nat) : ∀ n ∈ (mapR zs i).2, n ≤ 3 := by
  induction i with
  | zero => intro n hn; simp [mapR] at hn; omega
  | succ i ih =>
    simp only [mapR]
    split
    · intro n hn
      rcases List.mem_append.1 hn with hn | hn
      · exact ih n hn
      · rw [List.mem_singleton.1 hn]
        have := wi_lt ((zs.getD i 0).tdiv 3) 4 (by decide)
        omega
    · exact ih
theorem mapR_ok (zs : List Int) : OkM (mapR zs 6).1 ((mapR zs 6).2.map fun (k : Nat) => (k : Int)) := by
  have hs := mapR_sub zs (i := 6) (by decide)
  obtain ⟨h1, h2⟩ := cutsB_iff.1 cutsL_ok
  have ht : cutsL.take 6 = cutsL := rfl
  rw [ht] at hs
  refine ⟨by have := mapR_few zs 6; omega, by rw [List.length_map, mapR_len], cutsB_iff.2 ⟨fun k hk => h1 k (hs.subset hk), h2.sublist hs⟩, fun n hn => ?_⟩
  obtain ⟨k, hk, rfl⟩ := List.mem_map.1 hn
  have := mapR_own zs 6 k hk
  omega
end Go.Proofs.YtpefdonhacmaoaaGreat
