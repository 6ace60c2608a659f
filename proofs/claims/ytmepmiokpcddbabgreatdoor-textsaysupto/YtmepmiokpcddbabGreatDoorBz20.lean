/-
  roref.Num, plainly (no program in it).
  roref.Dec: what it answers.
-/
import Derived.Test.YtmepmiokpcddbabGreatDoorBz4
import Derived.Test.YtmepmiokpcddbabGreatDoorBz7
set_option linter.unusedVariables false
set_option linter.unusedSimpArgs false
namespace Go.Proofs.YtmepmiokpcddbabGreatDoor
open Go.Lib

/-- the value of digits -/
def dgV : Nat → List UInt8 → Option Nat
  | acc, [] => some acc
  | acc, c :: l => if 48 ≤ c.toNat ∧ c.toNat ≤ 57 then dgV (10 * acc + (c.toNat - 48)) l else none
theorem dgV_app (l r : List UInt8) : ∀ acc, dgV acc (l ++ r) = (dgV acc l).bind fun a => dgV a r := by
  induction l with
  | nil => intro acc; rfl
  | cons c l ih =>
    intro acc
    rw [List.cons_append, dgV, dgV]
    split
    · exact ih _
    · rfl
theorem dgV_dec (u : Nat) : dgV 0 (decDigits u) = some u := by
  induction u using Nat.strongRecOn with
  | _ u ih =>
    by_cases h1 : u < 10
    · rw [decDigits, dif_pos h1, dgV, dig_nat h1, if_pos (by omega), dgV]; congr 1; omega
    · rw [decDigits, dif_neg h1, dgV_app, ih (u / 10) (by omega)]
      have h2 : u % 10 < 10 := by omega
      simp only [Option.bind_some]
      rw [dgV, dig_nat h2, if_pos (by omega), dgV]; congr 1; omega
theorem dgV_lt (l : List UInt8) : ∀ acc u, dgV acc l = some u → u < (acc + 1) * 10 ^ l.length := by
  induction l with
  | nil => intro acc u h; rw [dgV] at h; injection h with h; subst h; simp
  | cons c l ih =>
    intro acc u h
    rw [dgV] at h
    split at h
    · next hc =>
      have h1 := ih _ _ h
      have h3 : (10 * acc + (c.toNat - 48) + 1) * 10 ^ l.length ≤ (acc + 1) * 10 * 10 ^ l.length := Nat.mul_le_mul_right _ (by omega)
      rw [List.length_cons, Nat.pow_succ, Nat.mul_comm (10 ^ l.length), ← Nat.mul_assoc]
      omega
    · cases h
/-- is there a minus sign before it? -/
def ngB (l : List UInt8) : Bool := hasPrefix l [45]
/-- what stands behind it -/
def ngT (l : List UInt8) : List UInt8 := trimPrefix l [45]
theorem ng_cases (l : List UInt8) : (ngB l = true ∧ l = 45 :: ngT l) ∨ (ngB l = false ∧ ngT l = l) := by
  unfold ngB ngT trimPrefix
  cases h : hasPrefix l [45]
  · exact .inr ⟨rfl, by rw [if_neg (by simp)]⟩
  · refine .inl ⟨rfl, ?_⟩
    rw [if_pos rfl]
    obtain ⟨r, rfl⟩ := List.isPrefixOf_iff_prefix.1 h
    rfl
theorem ngT_len (l : List UInt8) : (ngT l).length ≤ l.length := by
  rcases ng_cases l with ⟨_, h⟩ | ⟨_, h⟩
  · have := congrArg List.length h; simp at this; omega
  · rw [h]; exact Nat.le_refl _
def sgV (neg : Bool) (u : Nat) : Int := if neg then -(u : Int) else (u : Int)
theorem rdN_none_of {l : List UInt8} (h : dgV 0 (ngT l) = none) : rdN l = none := by
  cases e : rdN l with
  | none => rfl
  | some y =>
    exfalso
    have h1 := (rdN_some e).1
    rcases ng_cases l with ⟨hn, hl⟩ | ⟨hn, hl⟩
    · by_cases hy : y < 0
      · unfold itoa at h1
        rw [if_pos hy, hl] at h1
        injection h1 with _ h1
        rw [← h1, dgV_dec] at h; cases h
      · unfold itoa at h1
        rw [if_neg hy, hl] at h1
        have := dec_dig y.toNat 45 (by rw [h1]; simp)
        simp at this
    · by_cases hy : y < 0
      · unfold itoa at h1
        rw [if_pos hy] at h1
        have hx : ngB l = true := by rw [← h1]; rfl
        rw [hx] at hn; cases hn
      · unfold itoa at h1
        rw [if_neg hy] at h1
        rw [hl, ← h1, dgV_dec] at h; cases h
/-- what Num answers, once all are digits -/
theorem rdN_dg {l : List UInt8} {u : Nat} (h : dgV 0 (ngT l) = some u) (hl : l.length ≤ 11) : (itoa (sgV (ngB l) u) = l → rdN l = some (sgV (ngB l) u)) ∧ (itoa (sgV (ngB l) u) ≠ l → rdN l = none) ∧ u < 100000000000 := by
  have hu : u < 100000000000 := by
    have h1 := dgV_lt _ _ _ h
    have h2 : 10 ^ (ngT l).length ≤ 10 ^ 11 := Nat.pow_le_pow_right (by decide) (Nat.le_trans (ngT_len l) hl)
    omega
  have hb : -100000000000 < sgV (ngB l) u ∧ sgV (ngB l) u < 100000000000 := by unfold sgV; split <;> omega
  refine ⟨fun e => ?_, fun e => ?_, hu⟩
  · have := rdN_itoa (n := sgV (ngB l) u) (by omega) (by omega) (by rw [e]; exact hl)
    rw [e] at this; exact this
  · cases e2 : rdN l with
    | none => rfl
    | some y =>
      exfalso
      have h1 := (rdN_some e2).1
      refine e ?_
      rcases ng_cases l with ⟨hn, hl2⟩ | ⟨hn, hl2⟩
      · by_cases hy : y < 0
        · have h1' := h1
          unfold itoa at h1
          rw [if_pos hy, hl2] at h1
          injection h1 with _ h1
          rw [← h1, dgV_dec] at h
          injection h with h
          have : sgV (ngB l) u = y := by rw [hn]; unfold sgV; simp; omega
          rw [this]; exact h1'
        · unfold itoa at h1
          rw [if_neg hy, hl2] at h1
          have := dec_dig y.toNat 45 (by rw [h1]; simp)
          simp at this
      · by_cases hy : y < 0
        · unfold itoa at h1
          rw [if_pos hy] at h1
          have hx : ngB l = true := by rw [← h1]; rfl
          rw [hx] at hn; cases hn
        · have h1' := h1
          unfold itoa at h1
          rw [if_neg hy] at h1
          rw [hl2, ← h1, dgV_dec] at h
          injection h with h
          have : sgV (ngB l) u = y := by rw [hn]; unfold sgV; simp; omega
          rw [this]; exact h1'
theorem rdN_long {l : List UInt8} (h : 11 < l.length) : rdN l = none := by unfold rdN; rw [if_pos h]
end Go.Proofs.YtmepmiokpcddbabGreatDoor

set_option linter.unusedVariables false
set_option linter.unusedSimpArgs false
namespace Go.Proofs.YtmepmiokpcddbabGreatDoor
open Go.RowKit
open Go.Lib hiding intOf

theorem dig_slice (n : Nat) (h : n < 10) : (ByteArray.mk #[48, 49, 50, 51, 52, 53, 54, 55, 56, 57]).extract n (n + 1) = bs [UInt8.ofNat (48 + n)] := by
  rcases n with _ | _ | _ | _ | _ | _ | _ | _ | _ | _ | n
  all_goals first | (refine ba_ext ?_; decide) | omega
theorem dec_step (n : Nat) (h : ¬ n < 10) : bs (decDigits n) = bs (decDigits (n / 10)) ++ bs (decDigits (n % 10)) := by
  refine ba_ext ?_
  rw [decDigits_one (i := n % 10) (by omega)]
  have : decDigits n = decDigits (n / 10) ++ [UInt8.ofNat (48 + n % 10)] := by rw [decDigits, dif_neg h]
  simp [bs, this]
theorem dec_size (n : Nat) (h : n < 1000000000000000000) : (bs (decDigits n)).size ≤ 18 := by
  rw [bs_size, decDigits_length]
  exact nDigits_le 18 n (by decide) (by omega)
set_option maxHeartbeats 1000000 in
theorem dec_nn (n : Nat) : n < 1000000000000000000 → ∀ w : World, Calls Tryz.prog 76 #[.int .i64 (n : Int)] w fun e w' => e = .returned (.string (bs (decDigits n))) ∧ w = w' := by
  induction n using Nat.strongRecOn with
  | _ n ih =>
    intro hn w
    have g0 : ¬ (n : Int) < 0 := by omega
    by_cases h : n < 10
    · have g1 : (n : Int) < 10 := by omega
      have g2 : (0 : Int) ≤ (n : Int) := by omega
      have g3 : (n : Int) ≤ (n : Int) + 1 := by omega
      have g4 : (n : Int) + 1 ≤ 10 := by omega
      have g5 : (0 : Int) ≤ (n : Int) + 1 := by omega
      have pw : IntKind.i64.wrap ((n : Int) + 1) = (n : Int) + 1 := by simp only [IntKind.wrap_i64]; omega
      have tn : ((n : Int) + 1).toNat = n + 1 := by omega
      have HD := hideP (show bs (decDigits n) = (ByteArray.mk #[48, 49, 50, 51, 52, 53, 54, 55, 56, 57]).extract n (n + 1) by rw [dig_slice n h, decDigits_one h])
      clear ih h hn
      go_enter Tryz.func76, Tryz.ntmps76
      go_wp2_with fail
      go_ret
      exact ⟨by rw [HD.out]; first | rfl | simp, rfl⟩
    · have g1 : ¬ (n : Int) < 10 := by omega
      have HA := hideP (ih (n / 10) (by omega) (by omega) w)
      have HB := hideP (ih (n % 10) (by omega) (by omega) w)
      have HD := hideP (dec_step n h)
      have s1 := dec_size (n / 10) (by omega)
      have s2 := dec_size (n % 10) (by omega)
      have q1 : (n : Int).tdiv 10 = ((n / 10 : Nat) : Int) := by rw [Int.tdiv_eq_ediv_of_nonneg (by omega)]; omega
      have q2 : (n : Int).tmod 10 = ((n % 10 : Nat) : Int) := by rw [Int.tmod_eq_emod_of_nonneg (by omega)]; omega
      have q3 : IntKind.i64.wrap ((n / 10 : Nat) : Int) = ((n / 10 : Nat) : Int) := by simp only [IntKind.wrap_i64]; omega
      have q4 : IntKind.i64.wrap ((n % 10 : Nat) : Int) = ((n % 10 : Nat) : Int) := by simp only [IntKind.wrap_i64]; omega
      clear ih h
      generalize n / 10 = a at HA HD s1 q1 q3
      generalize n % 10 = b at HB HD s2 q2 q4
      generalize bs (decDigits a) = ta at HA HD s1
      generalize bs (decDigits b) = tb at HB HD s2
      have nb : ¬ (9223372036854775807 < ta.size + tb.size) := by omega
      go_enter Tryz.func76, Tryz.ntmps76
      go_wp2_with fail
      refine HA.out.mono ?_
      rintro e w1 ⟨rfl, rfl⟩
      go_wp2_with fail
      refine HB.out.mono ?_
      rintro e w1 ⟨rfl, rfl⟩
      go_wp2_with fail
      go_ret
      exact ⟨by rw [HD.out]; rfl, rfl⟩
set_option maxHeartbeats 1000000 in
theorem dec_any (n : Int) (h0 : -1000000000000000000 < n) (h1 : n < 1000000000000000000) (w : World) :
    Calls Tryz.prog 76 #[.int .i64 n] w fun e w' => e = .returned (.string (bs (itoa n))) ∧ w = w' := by
  by_cases hn : n < 0
  · have HA := hideP (dec_nn n.natAbs (by omega) w)
    have s1 := dec_size n.natAbs (by omega)
    have hw : ((n.natAbs : Nat) : Int) = -n := by omega
    have pw : IntKind.i64.wrap (-n) = -n := by simp only [IntKind.wrap_i64]; omega
    have HD := hideP (show bs (itoa n) = ⟨#[45]⟩ ++ bs (decDigits n.natAbs) by
      refine ba_ext ?_
      unfold itoa
      rw [if_pos hn]
      simp [bs])
    rw [hw] at HA
    clear hw
    generalize bs (decDigits n.natAbs) = ta at HA HD s1
    have nb : ¬ (9223372036854775807 < 1 + ta.size) := by omega
    go_enter Tryz.func76, Tryz.ntmps76
    go_wp2_with fail
    refine HA.out.mono ?_
    rintro e w1 ⟨rfl, rfl⟩
    go_wp2_with fail
    all_goals
      first
      | (exfalso; rename_i hbig; simp at hbig; omega)
      | (go_ret
         exact ⟨by rw [HD.out]; rfl, rfl⟩)
  · have h2 := dec_nn n.toNat (by omega) w
    have e1 : ((n.toNat : Nat) : Int) = n := by omega
    have e2 : itoa n = decDigits n.toNat := by unfold itoa; rw [if_neg hn]
    rw [e1] at h2
    rw [e2]
    exact h2
end Go.Proofs.YtmepmiokpcddbabGreatDoor
