/-
  text.Sum: what it answers.
-/
import Derived.Test.YtcjfkbponikadaaGreatDoorTxOpW
import Derived.Test.YtcjfkbponikadaaGreatDoorTxSum
set_option linter.unusedVariables false
set_option linter.unusedSimpArgs false
namespace Go.Proofs.YtcjfkbponikadaaGreatDoor
open Go.RowKit
open Go.Lib hiding intOf

theorem sm_next (s : ByteArray) (k : Nat) (h : k < s.size) : sm (s.data.toList.take (k + 1)) = (sm (s.data.toList.take k) + (s[k]'h).toNat * (k + 1)) % 65521 := by
  have h' : k < s.data.toList.length := by simpa using h
  rw [sm_step h']; rfl
theorem wrap64_small {x : Int} (h0 : -9223372036854775808 ≤ x) (h1 : x ≤ 9223372036854775807) : wrap64 x = x := by
  have h : IntKind.i64.wrap x = x := by simp only [IntKind.wrap_i64]; omega
  first
  | exact h
  | (unfold wrap64; omega)
  | (simp only [wrap64]; omega)
set_option maxHeartbeats 1000000 in
theorem sum_any (s : ByteArray) (w : World) (hs : s.size ≤ 1099511627776) :
    Calls Tryz.prog 22 #[.string s] w fun e w' => e = .returned (.int .i64 (sm s.data.toList : Int)) ∧ w = w' := by
  go_enter Tryz.func22, Tryz.ntmps22
  go_wp2_with fail
  go_loop [3, 7] (fun a i => ∃ k : Nat, k ≤ s.size ∧ i = .int .i64 k ∧ a = .int .i64 (sm (s.data.toList.take k) : Int)) (fun _ i => s.size - (intOf i).toNat)
  case atStart => exact ⟨0, Nat.zero_le _, rfl, rfl⟩
  case round =>
    obtain ⟨k, hk, rfl, rfl⟩ := hrel
    by_cases hlt : k < s.size
    · have hlt' : (k : Int) < (s.size : Int) := by omega
      have hst := sm_next s k hlt
      have hS := sm_lt (s.data.toList.take k)
      have hB := (s[k]'hlt).toNat_lt
      generalize sm (s.data.toList.take k) = S at hst hS ⊢
      obtain ⟨P, hP⟩ : ∃ P : Nat, (s[k]'hlt).toNat * (k + 1) = P := ⟨_, rfl⟩
      have hPb : P ≤ 255 * (k + 1) := by rw [← hP]; exact Nat.mul_le_mul_right _ (by omega)
      have p1 : IntKind.i64.wrap ((k : Int) + 1) = (k : Int) + 1 := by simp only [IntKind.wrap_i64]; omega
      have p0 : (((s[k]'hlt).toNat : Int) * ((k : Int) + 1)) = (P : Int) := by rw [← hP]; push_cast; rfl
      have p2 : IntKind.i64.wrap (P : Int) = (P : Int) := by simp only [IntKind.wrap_i64]; omega
      have p3 : IntKind.i64.wrap ((S : Int) + (P : Int)) = (S : Int) + (P : Int) := by simp only [IntKind.wrap_i64]; omega
      have p4 : ((S : Int) + (P : Int)).tmod 65521 = (((S + P) % 65521 : Nat) : Int) := by rw [Int.tmod_eq_emod_of_nonneg (by omega)]; omega
      have p5 : IntKind.i64.wrap (((S + P) % 65521 : Nat) : Int) = (((S + P) % 65521 : Nat) : Int) := by simp only [IntKind.wrap_i64]; omega
      have KEY := hideP (show (wrap64 ((S : Int) + wrap64 (wrap64 ((s[k]'hlt).toNat : Int) * ((k : Int) + 1)))).tmod 65521 = (((S + P) % 65521 : Nat) : Int) by
        rw [wrap64_small (x := ((s[k]'hlt).toNat : Int)) (by omega) (by omega), p0, wrap64_small (x := (P : Int)) (by omega) (by omega), wrap64_small (by omega) (by omega), p4])
      rw [hP] at hst
      have HST := hideP hst
      clear hst hP hS hB hPb
      go_wp2_with fail
      go_round
      case rel => exact ⟨k + 1, by omega, by go_num, by rw [HST.out, ← KEY.out]⟩
      case measure => simp [intOf]; omega
    · have hke : k = s.size := by omega
      subst hke
      have HE := hideP (show s.data.toList.take s.size = s.data.toList from List.take_of_length_le (by simp))
      rw [HE.out]
      generalize hS : sm s.data.toList = S at ⊢
      have HS := hideP hS
      clear hS
      go_wp2_with fail
      go_ret
      exact ⟨by rw [HS.out]; rfl, rfl⟩
end Go.Proofs.YtcjfkbponikadaaGreatDoor
