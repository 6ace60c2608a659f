/-
  roref.Dec: what it answers.
-/
import Derived.Test.YtmepmiokpcddbabGreatDoorCa7
set_option linter.unusedVariables false
set_option linter.unusedSimpArgs false
namespace Go.Proofs.YtmepmiokpcddbabGreatDoor
open Go.RowKit
open Go.Lib hiding intOf

theorem dig_slice (n : Nat) (h : n < 10) : (ByteArray.mk #[48, 49, 50, 51, 52, 53, 54, 55, 56, 57]).extract n (n + 1) = bs [UInt8.ofNat (48 + n)] := by
  rcases n with _ | _ | _ | _ | _ | _ | _ | _ | _ | _ | n
  all_goals first | (refine ba_ext ?_; decide) | omega
theorem dec_step (n : Nat) (h : ¬ n < 10) : bs (decDigits n) = bs (decDigits (n / 10)) ++ bs (decDigits (n % 10)) := by
  refine ba_ext ?_
  rw [decDigits_one (i := n % 10) (by omega)]
  have : decDigits n = decDigits (n / 10) ++ [UInt8.ofNat (48 + n % 10)] := by rw [decDigits, dif_neg h]
  simp [bs, this]
theorem dec_size (n : Nat) (h : n < 1000000000000000000) : (bs (decDigits n)).size ≤ 18 := by
  rw [bs_size, decDigits_length]
  exact nDigits_le 18 n (by decide) (by omega)
set_option maxHeartbeats 1000000 in
theorem dec_nn (n : Nat) : n < 1000000000000000000 → ∀ w : World, Calls Tryz.prog 76 #[.int .i64 (n : Int)] w fun e w' => e = .returned (.string (bs (decDigits n))) ∧ w = w' := by
  induction n using Nat.strongRecOn with
  | _ n ih =>
    intro hn w
    have g0 : ¬ (n : Int) < 0 := by omega
    by_cases h : n < 10
    · have g1 : (n : Int) < 10 := by omega
      have g2 : (0 : Int) ≤ (n : Int) := by omega
      have g3 : (n : Int) ≤ (n : Int) + 1 := by omega
      have g4 : (n : Int) + 1 ≤ 10 := by omega
      have g5 : (0 : Int) ≤ (n : Int) + 1 := by omega
      have pw : IntKind.i64.wrap ((n : Int) + 1) = (n : Int) + 1 := by simp only [IntKind.wrap_i64]; omega
      have tn : ((n : Int) + 1).toNat = n + 1 := by omega
      have HD := hideP (show bs (decDigits n) = (ByteArray.mk #[48, 49, 50, 51, 52, 53, 54, 55, 56, 57]).extract n (n + 1) by rw [dig_slice n h, decDigits_one h])
      clear ih h hn
      go_enter Tryz.func76, Tryz.ntmps76
      go_wp2_with fail
      go_ret
      exact ⟨by rw [HD.out]; first | rfl | simp, rfl⟩
    · have g1 : ¬ (n : Int) < 10 := by omega
      have HA := hideP (ih (n / 10) (by omega) (by omega) w)
      have HB := hideP (ih (n % 10) (by omega) (by omega) w)
      have HD := hideP (dec_step n h)
      have s1 := dec_size (n / 10) (by omega)
      have s2 := dec_size (n % 10) (by omega)
      have q1 : (n : Int).tdiv 10 = ((n / 10 : Nat) : Int) := by rw [Int.tdiv_eq_ediv_of_nonneg (by omega)]; omega
      have q2 : (n : Int).tmod 10 = ((n % 10 : Nat) : Int) := by rw [Int.tmod_eq_emod_of_nonneg (by omega)]; omega
      have q3 : IntKind.i64.wrap ((n / 10 : Nat) : Int) = ((n / 10 : Nat) : Int) := by simp only [IntKind.wrap_i64]; omega
      have q4 : IntKind.i64.wrap ((n % 10 : Nat) : Int) = ((n % 10 : Nat) : Int) := by simp only [IntKind.wrap_i64]; omega
      clear ih h
      generalize n / 10 = a at HA HD s1 q1 q3
      generalize n % 10 = b at HB HD s2 q2 q4
      generalize bs (decDigits a) = ta at HA HD s1
      generalize bs (decDigits b) = tb at HB HD s2
      have nb : ¬ (9223372036854775807 < ta.size + tb.size) := by omega
      go_enter Tryz.func76, Tryz.ntmps76
      go_wp2_with fail
      refine HA.out.mono ?_
      rintro e w1 ⟨rfl, rfl⟩
      go_wp2_with fail
      refine HB.out.mono ?_
      rintro e w1 ⟨rfl, rfl⟩
      go_wp2_with fail
      go_ret
      exact ⟨by rw [HD.out]; rfl, rfl⟩
set_option maxHeartbeats 1000000 in
theorem dec_any (n : Int) (h0 : -1000000000000000000 < n) (h1 : n < 1000000000000000000) (w : World) :
    Calls Tryz.prog 76 #[.int .i64 n] w fun e w' => e = .returned (.string (bs (itoa n))) ∧ w = w' := by
  by_cases hn : n < 0
  · have HA := hideP (dec_nn n.natAbs (by omega) w)
    have s1 := dec_size n.natAbs (by omega)
    have hw : ((n.natAbs : Nat) : Int) = -n := by omega
    have pw : IntKind.i64.wrap (-n) = -n := by simp only [IntKind.wrap_i64]; omega
    have HD := hideP (show bs (itoa n) = ⟨#[45]⟩ ++ bs (decDigits n.natAbs) by
      refine ba_ext ?_
      unfold itoa
      rw [if_pos hn]
      simp [bs])
    rw [hw] at HA
    clear hw
    generalize bs (decDigits n.natAbs) = ta at HA HD s1
    have nb : ¬ (9223372036854775807 < 1 + ta.size) := by omega
    go_enter Tryz.func76, Tryz.ntmps76
    go_wp2_with fail
    refine HA.out.mono ?_
    rintro e w1 ⟨rfl, rfl⟩
    go_wp2_with fail
    all_goals
      first
      | (exfalso; rename_i hbig; simp at hbig; omega)
      | (go_ret
         exact ⟨by rw [HD.out]; rfl, rfl⟩)
  · have h2 := dec_nn n.toNat (by omega) w
    have e1 : ((n.toNat : Nat) : Int) = n := by omega
    have e2 : itoa n = decDigits n.toNat := by unfold itoa; rw [if_neg hn]
    rw [e1] at h2
    rw [e2]
    exact h2
end Go.Proofs.YtmepmiokpcddbabGreatDoor
