/-
  roref.Map: the error of a map.
-/
import Derived.Test.YtoelnhnbefkfoaaDoorShPlain
import Derived.Test.YtoelnhnbefkfoaaDoorSMap
import Derived.Test.YtoelnhnbefkfoaaDoorBox
import Derived.Test.YtoelnhnbefkfoaaDoorRKey
set_option linter.unusedVariables false
set_option linter.unusedSimpArgs false
namespace Go.Proofs.YtoelnhnbefkfoaaDoor
open Go.RowKit

set_option maxHeartbeats 400000 in
theorem rown_any (n : Int) (w : World) : Calls Tryd.prog 34 #[.int .i64 n] w fun e w' => e = .returned (.bool (!ownB n)) ∧ w = w' := by
  go_enter Tryd.func34, Tryd.ntmps34
  go_wp2_with fail
  refine (rwithin_any n 0 3 _).mono ?_
  rintro e w' ⟨rfl, rfl⟩
  generalize hv : (decide (0 ≤ n) && decide (n ≤ 3)) = v
  have HV := hideP hv
  clear hv
  go_wp2_with fail
  go_ret
  exact ⟨by rw [← HV.out]; rfl, rfl⟩

set_option maxHeartbeats 400000 in
set_option maxRecDepth 100000 in
theorem rownIdx_any (A : Option Addr) (c : Nat) (xs : List Int) (w : World) (h1 : IS w A xs) (l1 : xs.length < 4611686018427387904) :
    Calls Tryd.prog 52 #[.slice A xs.length c, .func (.func 34) #[] #[]] w fun e w' => ∃ r : Int, e = .returned (.int .i64 r) ∧ decide (0 ≤ r) = !xs.all ownB ∧ w = w' := by
  go_enter Tryd.func52, Tryd.ntmps52
  go_wp2_with fail
  go_loopw [8] (fun i wr => ∃ k : Nat, k ≤ xs.length ∧ i = .int .i64 k ∧ (xs.take k).all ownB = true ∧ w = wr) (fun i _ => xs.length - (intOf i).toNat)
  case atStart => exact ⟨0, Nat.zero_le _, rfl, rfl, rfl⟩
  case round =>
    obtain ⟨k, hk, rfl, hnot, rfl⟩ := hrel
    have HN := hideP hnot
    clear hnot
    by_cases hlt : k < xs.length
    · obtain ⟨b1, o1, rfl, hbl, q1⟩ := h1 k xs[k] (by simp [hlt])
      have HT := hideP (show (xs.take (k + 1)).all ownB = ((xs.take k).all ownB && ownB xs[k]) by rw [List.take_succ_eq_append_getElem hlt, List.all_append]; simp)
      have HM := hideP (fun (h : ownB xs[k] = false) => show xs.all ownB = false from by
        rw [List.all_eq_false]; exact ⟨xs[k], List.getElem_mem hlt, by simp [h]⟩)
      clear h1
      generalize xs[k] = s at q1 HT HM
      have g1 : (0 : Int) ≤ (k : Int) := by omega
      have g2 : (k : Int) < (xs.length : Int) := by omega
      go_wp2_with fail
      refine (rown_any s _).mono ?_
      rintro e w1 ⟨rfl, rfl⟩
      cases hin : ownB s
      · have HI := hideP hin
        clear hin
        go_wp2_with fail
        go_ret
        exact ⟨k, rfl, by rw [HM.out HI.out]; simp, rfl⟩
      · have HI := hideP hin
        clear hin
        go_wp2_with fail
        go_roundw
        case rel => exact ⟨k + 1, by omega, by go_num, by rw [HT.out, HN.out, HI.out]; rfl, trivial⟩
        case measure => simp [intOf]; omega
    · go_wp2_with fail
      go_ret
      exact ⟨-1, rfl, by have := HN.out; rw [List.take_of_length_le (by omega)] at this; rw [this]; rfl, rfl⟩

set_option maxHeartbeats 400000 in
set_option maxRecDepth 100000 in
theorem rownHas_any (A : Option Addr) (c : Nat) (xs : List Int) (w : World) (h1 : IS w A xs) (l1 : xs.length < 4611686018427387904) :
    Calls Tryd.prog 33 #[.slice A xs.length c, .func (.func 34) #[] #[]] w fun e w' => e = .returned (.bool (!xs.all ownB)) ∧ w = w' := by
  go_enter Tryd.func33, Tryd.ntmps33
  go_wp2_with fail
  refine (rownIdx_any A c xs _ h1 l1).mono ?_
  rintro e w' ⟨r, rfl, hr, rfl⟩
  have HR := hideP hr
  clear hr
  go_wp2_with fail
  go_ret
  exact ⟨ret_bool HR.out, rfl⟩

set_option maxHeartbeats 1000000 in
set_option maxRecDepth 100000 in
theorem rmap_any (m : Mp) (w : World) (hm : MS w m) (l2 : m.os.length ≤ 9223372036854775807) :
    Calls Tryd.prog 9 #[.agg #[.slice m.A m.cs.length m.ca, .slice m.O m.os.length m.co]] w fun e w' => e = .returned (.int .i64 (chkM m.cs m.os)) ∧ Below w.heap.size w w' := by
  have b0 := (Below.refl w.heap.size w).alloc (Nat.le_refl _) (.cells #[.slice m.A m.cs.length m.ca, .slice m.O m.os.length m.co] 25)
  have x0 := Box.new w 25 #[.slice m.A m.cs.length m.ca, .slice m.O m.os.length m.co]
  have hm1 := hm.below b0
  obtain ⟨A, ca, cs, O, co, os⟩ := m
  simp only at hm1 b0 x0 l2 ⊢
  have c0 := x0.cell 0 (v := .slice A cs.length ca) rfl
  have c1 := x0.cell 1 (v := .slice O os.length co) rfl
  have hlt := x0.lt
  clear hm
  go_enter Tryd.func9, Tryd.ntmps9
  by_cases h12 : 12 < cs.length
  · have g : (12 : Int) < (cs.length : Int) := by omega
    have HC := hideP (show chkM cs os = 2 by unfold chkM; rw [if_pos h12])
    clear h12
    go_wp2_with fail
    go_ret
    exact ⟨ret_int (by rw [HC.out]), b0⟩
  have g : ¬ (12 : Int) < (cs.length : Int) := by omega
  have pw : IntKind.i64.wrap ((os.length : Int) - (cs.length : Int)) = (os.length : Int) - (cs.length : Int) := by simp only [IntKind.wrap_i64]; omega
  by_cases hl : os.length = cs.length + 1
  · have e1 : ((os.length : Int) - (cs.length : Int)) = 1 := by omega
    have HC := hideP (show chkM cs os = if cutsB ByteArray.empty cs = false then 3 else if os.all ownB = false then 1 else 0 by unfold chkM; rw [if_neg h12, if_neg (by simp [hl])])
    have HL := hideP hl
    clear hl h12
    go_wp2_with fail
    generalize w.alloc (.cells #[.slice A cs.length ca, .slice O os.length co] 25) = w1 at b0 x0 hm1 c0 c1 hlt ⊢
    have HB := hideP b0
    clear b0 x0
    generalize w.heap.size = g at c0 c1 hlt ⊢
    go_loopw [3, 21] (fun s i wr => ∃ (k : Nat) (bf : ByteArray), k ≤ cs.length ∧ i = .int .i64 k ∧ s = .string bf ∧ cutsB ByteArray.empty cs = cutsB bf (cs.drop k) ∧ Below w1.heap.size w1 wr) (fun _ i _ => cs.length - (intOf i).toNat)
    case atStart => exact ⟨0, ByteArray.empty, Nat.zero_le _, rfl, rfl, rfl, Below.refl _ _⟩
    case round =>
      obtain ⟨k, bf, hk, rfl, rfl, hchk, hb⟩ := hrel
      have HK := hideP hchk
      clear hchk
      have HBB := hideP (HB.out.trans (hb.mono HB.out.size))
      by_cases hkl : k < cs.length
      · obtain ⟨b, o, e, hbl, q1⟩ := hm1.cuts.below hb k (.string cs[k]) (by simp [hkl])
        simp only at e
        subst e
        have HT := hideP (cutsB_next (last := bf) hkl)
        generalize cs[k] = c at q1 HT
        have g1 : (0 : Int) ≤ (k : Int) := by omega
        have g2 : (k : Int) < (cs.length : Int) := by omega
        go_wp2_with fail
        refine (rkeyR_any _ _).mono ?_
        rintro e w2 ⟨rfl, hb2⟩
        have hb3 := hb.trans (hb2.mono hb.size)
        have HB3 := hideP (HB.out.trans (hb3.mono HB.out.size))
        cases hkb : keyB c
        · have HKB := hideP hkb
          clear hkb
          go_wp2_with fail
          go_ret
          exact ⟨ret_int (by rw [HC.out, HK.out, HT.out, HKB.out]; rfl), HB3.out⟩
        · have HKB := hideP hkb
          clear hkb
          cases hle : leB c bf
          · have HL2 := hideP (leB_no.1 hle)
            have d1 : Op.bytesLess c.toList bf.toList = false := by simp [leB] at hle; exact hle.1
            have d2 : (c.toList == bf.toList) = false := by simp [leB] at hle; simpa using hle.2
            clear hle
            go_wp2_with fail
            go_roundw
            case rel => exact ⟨k + 1, c, by omega, by go_num, rfl, by rw [HK.out, HT.out, HKB.out, HL2.out]; rfl, hb3⟩
            case measure => simp [intOf]; omega
          · have HL2 := hideP (leB_iff.1 hle)
            have d1 : (Op.bytesLess c.toList bf.toList || c.toList == bf.toList) = true := by simpa [leB] using hle
            clear hle
            go_wp2_with fail
            go_ret
            exact ⟨ret_int (by rw [HC.out, HK.out, HT.out, HL2.out]; simp), HB3.out⟩
      · have HE := hideP (show cutsB ByteArray.empty cs = true by rw [HK.out, List.drop_of_length_le (by omega)]; rfl)
        have c1' := (hb.cell (p := ⟨g, 1, none⟩) hlt).trans c1
        have hi := hm1.own.below hb
        simp only at hi
        clear hm1
        go_wp2_with fail
        have hos : os.length < 4611686018427387904 := by have := HL.out; omega
        refine (rownHas_any O co os _ hi hos).mono ?_
        rintro e w2 ⟨rfl, rfl⟩
        cases hall : os.all ownB
        · have HA := hideP hall
          clear hall
          go_wp2_with fail
          go_ret
          exact ⟨ret_int (by rw [HC.out, HE.out, HA.out]; rfl), HBB.out⟩
        · have HA := hideP hall
          clear hall
          go_wp2_with fail
          go_ret
          exact ⟨ret_int (by rw [HC.out, HE.out, HA.out]; rfl), HBB.out⟩
  · have e1 : (((os.length : Int) - (cs.length : Int)) == 1) = false := by simp; omega
    have HC := hideP (show chkM cs os = 3 by unfold chkM; rw [if_neg h12, if_pos hl])
    clear hl h12
    go_wp2_with fail
    go_ret
    exact ⟨ret_int (by rw [HC.out]), b0⟩
end Go.Proofs.YtoelnhnbefkfoaaDoor
