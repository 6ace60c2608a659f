/-
  store.Check: what it answers.
  A pair in a slice of one.
  There are no more valid keys than 27^6, so that a valid store is no longer (no program in it).
-/
import Derived.Test.YtpefdonhacmaoaaGreatBd4
import Derived.Test.YtpefdonhacmaoaaGreatBd7
import Derived.WalkKit
import Derived.Test.YtpefdonhacmaoaaGreatBd6
set_option linter.unusedVariables false
set_option linter.unusedSimpArgs false
namespace Go.Proofs.YtpefdonhacmaoaaGreat
open Go.RowKit

set_option maxHeartbeats 400000 in
theorem check_any (A : Option Addr) (c : Nat) (l : List Pr) (w : World) (hA : PS w w.heap.size A l) (hl : l.length < 4611686018427387904) :
    Calls Tryz.prog 61 #[.slice A l.length c] w fun e w' => e = .returned (.int .i64 (chk ByteArray.empty l)) ∧ Below w.heap.size w w' := by
  go_enter Tryz.func61, Tryz.ntmps61
  go_wp2
  go_loopw [3, 8] (fun s i wr => ∃ (k : Nat) (bf : ByteArray), k ≤ l.length ∧ i = .int .i64 k ∧ s = .string bf ∧ chk ByteArray.empty l = chk bf (l.drop k) ∧ Below w.heap.size w wr) (fun _ i _ => l.length - (intOf i).toNat)
  case atStart => exact ⟨0, ByteArray.empty, Nat.zero_le _, rfl, rfl, rfl, Below.refl _ _⟩
  case round =>
    obtain ⟨k, bf, hk, rfl, rfl, hchk, hb⟩ := hrel
    have HC := hideP hchk
    clear hchk
    by_cases hlt : k < l.length
    · obtain ⟨b, o, rfl, hbl, c1, c2⟩ := hA.below hb k _ (List.getElem?_eq_getElem hlt)
      clear hA
      generalize hp : l[k] = p at c1 c2
      have HP := hideP hp
      clear hp
      have hsz := hb.size
      have HB := (hb.alloc hb.size (.cells #[.string p.1, .int .i64 p.2] 51))
      cases hkb : keyB p.1
      · go_wp2_with fail
        refine (key_any _ _).mono ?_
        rintro e w' ⟨rfl, rfl⟩
        go_wp2_with fail
        go_ret
        exact ⟨ret_int (by rw [HC.out, chk_key hlt HP.out hkb]), HB⟩
      · cases hvb : valB p.2
        · go_wp2_with fail
          refine (key_any _ _).mono ?_
          rintro e w' ⟨rfl, rfl⟩
          go_wp2_with fail
          refine (value_any _ _).mono ?_
          rintro e w' ⟨rfl, rfl⟩
          go_wp2_with fail
          go_ret
          exact ⟨ret_int (by rw [HC.out, chk_val hlt HP.out hkb hvb]), HB⟩
        · by_cases h0 : p.2 = 0
          · have d0 : (p.2 == 0) = true := by simp [h0]
            have H0 := hideP h0
            clear h0
            go_wp2_with fail
            refine (key_any _ _).mono ?_
            rintro e w' ⟨rfl, rfl⟩
            go_wp2_with fail
            refine (value_any _ _).mono ?_
            rintro e w' ⟨rfl, rfl⟩
            go_wp2_with fail
            go_ret
            exact ⟨ret_int (by rw [HC.out, chk_zero hlt HP.out hkb hvb H0.out]), HB⟩
          · have d0 : (p.2 == 0) = false := by simp [h0]
            have H0 := hideP h0
            clear h0
            cases hle : leB p.1 bf
            · have HL := hideP hle
              have d1 : Op.bytesLess p.1.toList bf.toList = false := by simp [leB] at hle; exact hle.1
              have d2 : (p.1.toList == bf.toList) = false := by simp [leB] at hle; simpa using hle.2
              clear hle
              go_wp2_with fail
              refine (key_any _ _).mono ?_
              rintro e w' ⟨rfl, rfl⟩
              go_wp2_with fail
              refine (value_any _ _).mono ?_
              rintro e w' ⟨rfl, rfl⟩
              go_wp2_with fail
              go_roundw
              case rel => exact ⟨k + 1, p.1, by omega, by go_num, rfl, by rw [HC.out, chk_next hlt HP.out hkb hvb H0.out HL.out], HB⟩
              case measure => simp [intOf]; omega
            · have HL := hideP hle
              have d1 : (Op.bytesLess p.1.toList bf.toList || p.1.toList == bf.toList) = true := by simpa [leB] using hle
              clear hle
              go_wp2_with fail
              refine (key_any _ _).mono ?_
              rintro e w' ⟨rfl, rfl⟩
              go_wp2_with fail
              refine (value_any _ _).mono ?_
              rintro e w' ⟨rfl, rfl⟩
              go_wp2_with fail
              go_ret
              exact ⟨ret_int (by rw [HC.out, chk_ord hlt HP.out hkb hvb H0.out HL.out]), HB⟩
    · go_wp2
      go_ret
      exact ⟨ret_int (by rw [HC.out, List.drop_of_length_le (by omega)]; rfl), hb⟩
end Go.Proofs.YtpefdonhacmaoaaGreat

set_option linter.unusedVariables false
set_option linter.unusedSimpArgs false
namespace Go.Proofs.YtpefdonhacmaoaaGreat
open Go.RowKit

theorem PS.one (w : World) (key : ByteArray) (n : Int) (t : TypeId) : PS (w.alloc (.cells #[.string key, .int .i64 n] t)) (w.alloc (.cells #[.string key, .int .i64 n] t)).heap.size (some ⟨w.heap.size, 0, none⟩) [(key, n)] := fun i p hp => by
  cases i with
  | zero => simp at hp; subst hp; exact ⟨w.heap.size, 0, rfl, by simp, by simp, by simp⟩
  | succ i => simp at hp
end Go.Proofs.YtpefdonhacmaoaaGreat

set_option linter.unusedVariables false
set_option linter.unusedSimpArgs false
namespace Go.Proofs.YtpefdonhacmaoaaGreat
open Go.RowKit

/-- a key as a number of n digits to the base 27 -/
def num : Nat → List UInt8 → Nat
  | 0, _ => 0
  | _ + 1, [] => 0
  | n + 1, c :: r => (c.toNat - 96) * 27 ^ n + num n r
theorem low_dig {c : UInt8} (h : lowB c = true) : 1 ≤ c.toNat - 96 ∧ c.toNat - 96 ≤ 26 := by
  simp [lowB] at h; omega
theorem num_lt : ∀ (n : Nat) (l : List UInt8), l.all lowB = true → num n l < 27 ^ n
  | 0, l, _ => by simp [num]
  | n + 1, [], _ => by simp only [num]; exact Nat.pow_pos (by omega)
  | n + 1, c :: r, h => by
    simp only [List.all_cons, Bool.and_eq_true] at h
    have h1 := low_dig h.1
    have h2 := num_lt n r h.2
    simp only [num]
    have h3 : (c.toNat - 96) * 27 ^ n ≤ 26 * 27 ^ n := Nat.mul_le_mul_right _ h1.2
    rw [Nat.pow_succ]
    omega
theorem num_mono : ∀ (n : Nat) (l m : List UInt8), l.all lowB = true → m.all lowB = true → l.length ≤ n → m.length ≤ n → l < m → num n l < num n m
  | 0, l, m, _, _, h1, h2, h => by
    have e1 : l = [] := List.length_eq_zero_iff.1 (by omega)
    have e2 : m = [] := List.length_eq_zero_iff.1 (by omega)
    subst e1; subst e2; exact absurd h (List.lt_irrefl _)
  | n + 1, [], [], _, _, _, _, h => absurd h (List.lt_irrefl _)
  | n + 1, [], c :: r, _, hm, _, _, _ => by
    simp only [List.all_cons, Bool.and_eq_true] at hm
    have h1 := low_dig hm.1
    simp only [num]
    have h3 : 1 * 27 ^ n ≤ (c.toNat - 96) * 27 ^ n := Nat.mul_le_mul_right _ h1.1
    have h4 : 0 < 27 ^ n := Nat.pow_pos (by omega)
    omega
  | n + 1, c :: r, [], _, _, _, _, h => absurd h (List.not_lt_nil _)
  | n + 1, c :: r, d :: s, hl, hm, h1, h2, h => by
    simp only [List.all_cons, Bool.and_eq_true] at hl hm
    have c1 := low_dig hl.1
    have d1 := low_dig hm.1
    have hr := num_lt n r hl.2
    simp only [num]
    rcases List.cons_lt_cons_iff.1 h with hcd | ⟨rfl, hrs⟩
    · have hlt : c.toNat < d.toNat := UInt8.lt_iff_toNat_lt.1 hcd
      have h3 : (c.toNat - 96 + 1) * 27 ^ n ≤ (d.toNat - 96) * 27 ^ n := Nat.mul_le_mul_right _ (by omega)
      rw [Nat.add_mul] at h3
      omega
    · have := num_mono n r s hl.2 hm.2 (by simp at h1; omega) (by simp at h2; omega) hrs
      omega
theorem len_of_incr {B : Nat} : ∀ (l : List Nat) (lo : Nat), l.Pairwise (· < ·) → (∀ x ∈ l, lo ≤ x ∧ x < B) → lo ≤ B → lo + l.length ≤ B
  | [], lo, _, _, h => by simpa using h
  | x :: r, lo, hp, hb, h => by
    have hp' := List.pairwise_cons.1 hp
    have hx := hb x (by simp)
    have := len_of_incr r (x + 1) hp'.2 (fun y hy => ⟨hp'.1 y hy, (hb y (by simp [hy])).2⟩) (by omega)
    simp only [List.length_cons]
    omega
theorem Ok.small {l : List Pr} (h : Ok l) : l.length ≤ 387420489 := by
  have hk : ∀ p ∈ l, (by8 p.1).all lowB = true ∧ (by8 p.1).length ≤ 6 := fun p hp => by
    have := h.key p hp
    simp only [keyB, Bool.and_eq_true, decide_eq_true_eq] at this
    exact ⟨this.2, by have := this.1.2; simpa [by8] using this⟩
  have hp : (l.map fun p => num 6 (by8 p.1)).Pairwise (· < ·) := by
    rw [List.pairwise_map]
    refine h.srt.imp_of_mem ?_
    intro p q hp hq hlt
    exact num_mono 6 _ _ (hk p hp).1 (hk q hq).1 (hk p hp).2 (hk q hq).2 (ltB_iff.1 hlt)
  have := len_of_incr (B := 387420489) _ 0 hp (fun x hx => by
    obtain ⟨p, hp, rfl⟩ := List.mem_map.1 hx
    exact ⟨Nat.zero_le _, num_lt 6 _ (hk p hp).1⟩) (by omega)
  simpa using this
end Go.Proofs.YtpefdonhacmaoaaGreat
