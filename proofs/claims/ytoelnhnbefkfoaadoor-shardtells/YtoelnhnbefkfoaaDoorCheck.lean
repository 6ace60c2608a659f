/-
  store.Check: what it answers.
-/
import Derived.Test.YtoelnhnbefkfoaaDoorSmall
set_option linter.unusedVariables false
set_option linter.unusedSimpArgs false
namespace Go.Proofs.YtoelnhnbefkfoaaDoor
open Go.RowKit

set_option maxHeartbeats 400000 in
theorem check_any (A : Option Addr) (c : Nat) (l : List Pr) (w : World) (hA : PS w w.heap.size A l) (hl : l.length < 4611686018427387904) :
    Calls Tryd.prog 42 #[.slice A l.length c] w fun e w' => e = .returned (.int .i64 (chk ByteArray.empty l)) ∧ Below w.heap.size w w' := by
  go_enter Tryd.func42, Tryd.ntmps42
  go_wp2
  go_loopw [3, 8] (fun s i wr => ∃ (k : Nat) (bf : ByteArray), k ≤ l.length ∧ i = .int .i64 k ∧ s = .string bf ∧ chk ByteArray.empty l = chk bf (l.drop k) ∧ Below w.heap.size w wr) (fun _ i _ => l.length - (intOf i).toNat)
  case atStart => exact ⟨0, ByteArray.empty, Nat.zero_le _, rfl, rfl, rfl, Below.refl _ _⟩
  case round =>
    obtain ⟨k, bf, hk, rfl, rfl, hchk, hb⟩ := hrel
    have HC := hideP hchk
    clear hchk
    by_cases hlt : k < l.length
    · obtain ⟨b, o, rfl, hbl, c1, c2⟩ := hA.below hb k _ (List.getElem?_eq_getElem hlt)
      clear hA
      generalize hp : l[k] = p at c1 c2
      have HP := hideP hp
      clear hp
      have hsz := hb.size
      have HB := (hb.alloc hb.size (.cells #[.string p.1, .int .i64 p.2] 50))
      cases hkb : keyB p.1
      · go_wp2_with fail
        refine (key_any _ _).mono ?_
        rintro e w' ⟨rfl, rfl⟩
        go_wp2_with fail
        go_ret
        exact ⟨ret_int (by rw [HC.out, chk_key hlt HP.out hkb]), HB⟩
      · cases hvb : valB p.2
        · go_wp2_with fail
          refine (key_any _ _).mono ?_
          rintro e w' ⟨rfl, rfl⟩
          go_wp2_with fail
          refine (value_any _ _).mono ?_
          rintro e w' ⟨rfl, rfl⟩
          go_wp2_with fail
          go_ret
          exact ⟨ret_int (by rw [HC.out, chk_val hlt HP.out hkb hvb]), HB⟩
        · by_cases h0 : p.2 = 0
          · have d0 : (p.2 == 0) = true := by simp [h0]
            have H0 := hideP h0
            clear h0
            go_wp2_with fail
            refine (key_any _ _).mono ?_
            rintro e w' ⟨rfl, rfl⟩
            go_wp2_with fail
            refine (value_any _ _).mono ?_
            rintro e w' ⟨rfl, rfl⟩
            go_wp2_with fail
            go_ret
            exact ⟨ret_int (by rw [HC.out, chk_zero hlt HP.out hkb hvb H0.out]), HB⟩
          · have d0 : (p.2 == 0) = false := by simp [h0]
            have H0 := hideP h0
            clear h0
            cases hle : leB p.1 bf
            · have HL := hideP hle
              have d1 : Op.bytesLess p.1.toList bf.toList = false := by simp [leB] at hle; exact hle.1
              have d2 : (p.1.toList == bf.toList) = false := by simp [leB] at hle; simpa using hle.2
              clear hle
              go_wp2_with fail
              refine (key_any _ _).mono ?_
              rintro e w' ⟨rfl, rfl⟩
              go_wp2_with fail
              refine (value_any _ _).mono ?_
              rintro e w' ⟨rfl, rfl⟩
              go_wp2_with fail
              go_roundw
              case rel => exact ⟨k + 1, p.1, by omega, by go_num, rfl, by rw [HC.out, chk_next hlt HP.out hkb hvb H0.out HL.out], HB⟩
              case measure => simp [intOf]; omega
            · have HL := hideP hle
              have d1 : (Op.bytesLess p.1.toList bf.toList || p.1.toList == bf.toList) = true := by simpa [leB] using hle
              clear hle
              go_wp2_with fail
              refine (key_any _ _).mono ?_
              rintro e w' ⟨rfl, rfl⟩
              go_wp2_with fail
              refine (value_any _ _).mono ?_
              rintro e w' ⟨rfl, rfl⟩
              go_wp2_with fail
              go_ret
              exact ⟨ret_int (by rw [HC.out, chk_ord hlt HP.out hkb hvb H0.out HL.out]), HB⟩
    · go_wp2
      go_ret
      exact ⟨ret_int (by rw [HC.out, List.drop_of_length_le (by omega)]; rfl), hb⟩
end Go.Proofs.YtoelnhnbefkfoaaDoor
