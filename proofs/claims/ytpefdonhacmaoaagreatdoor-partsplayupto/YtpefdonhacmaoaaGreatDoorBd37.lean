/-
  roref.Map: the error of a map.
  slices.Equal at pairs: two that read the same are equal.
  roref.Whose.
-/
import Derived.Test.YtpefdonhacmaoaaGreatDoorBd2
import Derived.Test.YtpefdonhacmaoaaGreatDoorBd36
import Derived.Test.YtpefdonhacmaoaaGreatDoorBd4
import Derived.Test.YtpefdonhacmaoaaGreatDoorBd29
import Derived.Test.YtpefdonhacmaoaaGreatDoorBd7
import Derived.WalkKit
import Derived.WalkSpells
import Derived.WalkLawsBesides
import Derived.Deep.QuietTactic
import Derived.BigQuiet
import Derived.Laws.StructEq
set_option linter.unusedVariables false
set_option linter.unusedSimpArgs false
namespace Go.Proofs.YtpefdonhacmaoaaGreatDoor
open Go.RowKit

set_option maxHeartbeats 400000 in
theorem rown_any (n : Int) (w : World) : Calls Tryz.prog 33 #[.int .i64 n] w fun e w' => e = .returned (.bool (!ownB n)) ∧ w = w' := by
  go_enter Tryz.func33, Tryz.ntmps33
  go_wp2_with fail
  refine (rwithin_any n 0 3 _).mono ?_
  rintro e w' ⟨rfl, rfl⟩
  generalize hv : (decide (0 ≤ n) && decide (n ≤ 3)) = v
  have HV := hideP hv
  clear hv
  go_wp2_with fail
  go_ret
  exact ⟨by rw [← HV.out]; rfl, rfl⟩

set_option maxHeartbeats 400000 in
set_option maxRecDepth 100000 in
theorem rownIdx_any (A : Option Addr) (c : Nat) (xs : List Int) (w : World) (h1 : IS w A xs) (l1 : xs.length < 4611686018427387904) :
    Calls Tryz.prog 52 #[.slice A xs.length c, .func (.func 33) #[] #[]] w fun e w' => ∃ r : Int, e = .returned (.int .i64 r) ∧ decide (0 ≤ r) = !xs.all ownB ∧ w = w' := by
  go_enter Tryz.func52, Tryz.ntmps52
  go_wp2_with fail
  go_loopw [8] (fun i wr => ∃ k : Nat, k ≤ xs.length ∧ i = .int .i64 k ∧ (xs.take k).all ownB = true ∧ w = wr) (fun i _ => xs.length - (intOf i).toNat)
  case atStart => exact ⟨0, Nat.zero_le _, rfl, rfl, rfl⟩
  case round =>
    obtain ⟨k, hk, rfl, hnot, rfl⟩ := hrel
    have HN := hideP hnot
    clear hnot
    by_cases hlt : k < xs.length
    · obtain ⟨b1, o1, rfl, hbl, q1⟩ := h1 k xs[k] (by simp [hlt])
      have HT := hideP (show (xs.take (k + 1)).all ownB = ((xs.take k).all ownB && ownB xs[k]) by rw [List.take_succ_eq_append_getElem hlt, List.all_append]; simp)
      have HM := hideP (fun (h : ownB xs[k] = false) => show xs.all ownB = false from by
        rw [List.all_eq_false]; exact ⟨xs[k], List.getElem_mem hlt, by simp [h]⟩)
      clear h1
      generalize xs[k] = s at q1 HT HM
      have g1 : (0 : Int) ≤ (k : Int) := by omega
      have g2 : (k : Int) < (xs.length : Int) := by omega
      go_wp2_with fail
      refine (rown_any s _).mono ?_
      rintro e w1 ⟨rfl, rfl⟩
      cases hin : ownB s
      · have HI := hideP hin
        clear hin
        go_wp2_with fail
        go_ret
        exact ⟨k, rfl, by rw [HM.out HI.out]; simp, rfl⟩
      · have HI := hideP hin
        clear hin
        go_wp2_with fail
        go_roundw
        case rel => exact ⟨k + 1, by omega, by go_num, by rw [HT.out, HN.out, HI.out]; rfl, trivial⟩
        case measure => simp [intOf]; omega
    · go_wp2_with fail
      go_ret
      exact ⟨-1, rfl, by have := HN.out; rw [List.take_of_length_le (by omega)] at this; rw [this]; rfl, rfl⟩

set_option maxHeartbeats 400000 in
set_option maxRecDepth 100000 in
theorem rownHas_any (A : Option Addr) (c : Nat) (xs : List Int) (w : World) (h1 : IS w A xs) (l1 : xs.length < 4611686018427387904) :
    Calls Tryz.prog 32 #[.slice A xs.length c, .func (.func 33) #[] #[]] w fun e w' => e = .returned (.bool (!xs.all ownB)) ∧ w = w' := by
  go_enter Tryz.func32, Tryz.ntmps32
  go_wp2_with fail
  refine (rownIdx_any A c xs _ h1 l1).mono ?_
  rintro e w' ⟨r, rfl, hr, rfl⟩
  have HR := hideP hr
  clear hr
  go_wp2_with fail
  go_ret
  exact ⟨ret_bool HR.out, rfl⟩

set_option maxHeartbeats 1000000 in
set_option maxRecDepth 100000 in
theorem rmap_any (m : Mp) (w : World) (hm : MS w m) (l2 : m.os.length ≤ 9223372036854775807) :
    Calls Tryz.prog 6 #[.agg #[.slice m.A m.cs.length m.ca, .slice m.O m.os.length m.co]] w fun e w' => e = .returned (.int .i64 (chkM m.cs m.os)) ∧ Below w.heap.size w w' := by
  have b0 := (Below.refl w.heap.size w).alloc (Nat.le_refl _) (.cells #[.slice m.A m.cs.length m.ca, .slice m.O m.os.length m.co] 25)
  have x0 := Box.new w 25 #[.slice m.A m.cs.length m.ca, .slice m.O m.os.length m.co]
  have hm1 := hm.below b0
  obtain ⟨A, ca, cs, O, co, os⟩ := m
  simp only at hm1 b0 x0 l2 ⊢
  have c0 := x0.cell 0 (v := .slice A cs.length ca) rfl
  have c1 := x0.cell 1 (v := .slice O os.length co) rfl
  have hlt := x0.lt
  clear hm
  go_enter Tryz.func6, Tryz.ntmps6
  by_cases h12 : 12 < cs.length
  · have g : (12 : Int) < (cs.length : Int) := by omega
    have HC := hideP (show chkM cs os = 2 by unfold chkM; rw [if_pos h12])
    clear h12
    go_wp2_with fail
    go_ret
    exact ⟨ret_int (by rw [HC.out]), b0⟩
  have g : ¬ (12 : Int) < (cs.length : Int) := by omega
  have pw : IntKind.i64.wrap ((os.length : Int) - (cs.length : Int)) = (os.length : Int) - (cs.length : Int) := by simp only [IntKind.wrap_i64]; omega
  by_cases hl : os.length = cs.length + 1
  · have e1 : ((os.length : Int) - (cs.length : Int)) = 1 := by omega
    have HC := hideP (show chkM cs os = if cutsB ByteArray.empty cs = false then 3 else if os.all ownB = false then 1 else 0 by unfold chkM; rw [if_neg h12, if_neg (by simp [hl])])
    have HL := hideP hl
    clear hl h12
    go_wp2_with fail
    generalize w.alloc (.cells #[.slice A cs.length ca, .slice O os.length co] 25) = w1 at b0 x0 hm1 c0 c1 hlt ⊢
    have HB := hideP b0
    clear b0 x0
    generalize w.heap.size = g at c0 c1 hlt ⊢
    go_loopw [3, 21] (fun s i wr => ∃ (k : Nat) (bf : ByteArray), k ≤ cs.length ∧ i = .int .i64 k ∧ s = .string bf ∧ cutsB ByteArray.empty cs = cutsB bf (cs.drop k) ∧ Below w1.heap.size w1 wr) (fun _ i _ => cs.length - (intOf i).toNat)
    case atStart => exact ⟨0, ByteArray.empty, Nat.zero_le _, rfl, rfl, rfl, Below.refl _ _⟩
    case round =>
      obtain ⟨k, bf, hk, rfl, rfl, hchk, hb⟩ := hrel
      have HK := hideP hchk
      clear hchk
      have HBB := hideP (HB.out.trans (hb.mono HB.out.size))
      by_cases hkl : k < cs.length
      · obtain ⟨b, o, e, hbl, q1⟩ := hm1.cuts.below hb k (.string cs[k]) (by simp [hkl])
        simp only at e
        subst e
        have HT := hideP (cutsB_next (last := bf) hkl)
        generalize cs[k] = c at q1 HT
        have g1 : (0 : Int) ≤ (k : Int) := by omega
        have g2 : (k : Int) < (cs.length : Int) := by omega
        go_wp2_with fail
        refine (rkeyR_any _ _).mono ?_
        rintro e w2 ⟨rfl, hb2⟩
        have hb3 := hb.trans (hb2.mono hb.size)
        have HB3 := hideP (HB.out.trans (hb3.mono HB.out.size))
        cases hkb : keyB c
        · have HKB := hideP hkb
          clear hkb
          go_wp2_with fail
          go_ret
          exact ⟨ret_int (by rw [HC.out, HK.out, HT.out, HKB.out]; rfl), HB3.out⟩
        · have HKB := hideP hkb
          clear hkb
          cases hle : leB c bf
          · have HL2 := hideP (leB_no.1 hle)
            have d1 : Op.bytesLess c.toList bf.toList = false := by simp [leB] at hle; exact hle.1
            have d2 : (c.toList == bf.toList) = false := by simp [leB] at hle; simpa using hle.2
            clear hle
            go_wp2_with fail
            go_roundw
            case rel => exact ⟨k + 1, c, by omega, by go_num, rfl, by rw [HK.out, HT.out, HKB.out, HL2.out]; rfl, hb3⟩
            case measure => simp [intOf]; omega
          · have HL2 := hideP (leB_iff.1 hle)
            have d1 : (Op.bytesLess c.toList bf.toList || c.toList == bf.toList) = true := by simpa [leB] using hle
            clear hle
            go_wp2_with fail
            go_ret
            exact ⟨ret_int (by rw [HC.out, HK.out, HT.out, HL2.out]; simp), HB3.out⟩
      · have HE := hideP (show cutsB ByteArray.empty cs = true by rw [HK.out, List.drop_of_length_le (by omega)]; rfl)
        have c1' := (hb.cell (p := ⟨g, 1, none⟩) hlt).trans c1
        have hi := hm1.own.below hb
        simp only at hi
        clear hm1
        go_wp2_with fail
        have hos : os.length < 4611686018427387904 := by have := HL.out; omega
        refine (rownHas_any O co os _ hi hos).mono ?_
        rintro e w2 ⟨rfl, rfl⟩
        cases hall : os.all ownB
        · have HA := hideP hall
          clear hall
          go_wp2_with fail
          go_ret
          exact ⟨ret_int (by rw [HC.out, HE.out, HA.out]; rfl), HBB.out⟩
        · have HA := hideP hall
          clear hall
          go_wp2_with fail
          go_ret
          exact ⟨ret_int (by rw [HC.out, HE.out, HA.out]; rfl), HBB.out⟩
  · have e1 : (((os.length : Int) - (cs.length : Int)) == 1) = false := by simp; omega
    have HC := hideP (show chkM cs os = 3 by unfold chkM; rw [if_neg h12, if_pos hl])
    clear hl h12
    go_wp2_with fail
    go_ret
    exact ⟨ret_int (by rw [HC.out]), b0⟩
end Go.Proofs.YtpefdonhacmaoaaGreatDoor

set_option linter.unusedVariables false
set_option linter.unusedSimpArgs false
namespace Go.Proofs.YtpefdonhacmaoaaGreatDoor
open Go.RowKit

theorem run_neq_pair (k : ByteArray) (n : Int) (w : World) : (binOp .neq 55 (.agg #[.string k, .int .i64 n]) (.agg #[.string k, .int .i64 n])).run Tryz.prog w = .ok (.bool false) w := by
  have u3 := Tryz.underlying3
  have u9 := Tryz.underlying9
  have a3 := Tryz.isAgg3
  have z3 := Tryz.sizeOf3
  have a9 := Tryz.isAgg9
  have z9 := Tryz.sizeOf9
  have hS : Tryz.prog.underlying 55 = some (.struct (Tryz.prog.fieldsOf 55)) := by kernel_rfl
  have hp : Tryz.prog.stoodInHeld 55 = false := by kernel_rfl
  rw [run_neq_struct, show (10000 : Nat) = 9999 + 1 from rfl, run_equalIn_agg w 9999 55 _ _ hS hp]
  simp only [Program.fieldsOf, Tryz.underlying55]
  go_simp

theorem guard_pair (x y : Operand) (xs ys : Array Value) (w : World) : (eqGuard .neq 55 x y (.agg xs) (.agg ys)).run Tryz.prog w = .ok () w := run_eqGuard_agg w .neq 55 x y xs ys (by kernel_rfl)

set_option maxHeartbeats 400000 in
set_option maxRecDepth 100000 in
theorem equal_same (A1 A2 : Option Addr) (c1 c2 : Nat) (l : List Pr) (w : World) (h1 : PS w w.heap.size A1 l) (h2 : PS w w.heap.size A2 l) (hl : l.length < 4611686018427387904) :
    Calls Tryz.prog 24 #[.slice A1 l.length c1, .slice A2 l.length c2] w fun e w' => e = .returned (.bool true) ∧ Below w.heap.size w w' := by
  have d0 : ((l.length : Int) != (l.length : Int)) = false := by simp
  go_enter Tryz.func24, Tryz.ntmps24
  go_wp2_with fail
  go_loopw [13] (fun i wr => ∃ k : Nat, k ≤ l.length ∧ i = .int .i64 k ∧ Below w.heap.size w wr) (fun i _ => l.length - (intOf i).toNat)
  case atStart => exact ⟨0, Nat.zero_le _, rfl, Below.refl _ _⟩
  case round =>
    obtain ⟨k, hk, rfl, hb⟩ := hrel
    by_cases hlt : k < l.length
    · obtain ⟨b, o, rfl, hbl, q1, q2⟩ := h1.below hb k _ (List.getElem?_eq_getElem hlt)
      obtain ⟨b', o', rfl, hbl', q3, q4⟩ := h2.below hb k _ (List.getElem?_eq_getElem hlt)
      clear h1 h2
      generalize l[k] = p at q1 q2 q3 q4
      have g1 : (0 : Int) ≤ (k : Int) := by omega
      have g2 : (k : Int) < (l.length : Int) := by omega
      have n1 := run_neq_pair p.1 p.2
      have n2 := guard_pair
      go_wp2_with fail
      go_quiet (fail)
      go_wp2_with fail
      go_roundw
      case rel => exact ⟨k + 1, by omega, by go_num, ⟨hb.os, hb.tape, hb.output, hb.size, hb.block⟩⟩
      case measure => simp [intOf]; omega
    · go_wp2_with fail
      go_ret
      exact ⟨rfl, hb⟩
end Go.Proofs.YtpefdonhacmaoaaGreatDoor

set_option linter.unusedVariables false
set_option linter.unusedSimpArgs false
namespace Go.Proofs.YtpefdonhacmaoaaGreatDoor
open Go.RowKit

def WhI (cs : List ByteArray) (os : List Int) (key : ByteArray) (w1 : World) (n i : Value) (wr : World) : Prop := ∃ k : Nat, k ≤ cs.length ∧ n = .int .i64 (os.getD (atC (cs.take k) key) 0) ∧ i = .int .i64 k ∧ w1 = wr
set_option maxHeartbeats 1000000 in
set_option maxRecDepth 100000 in
theorem rwhose_any (m : Mp) (key : ByteArray) (w : World) (hm : MS w m) (hok : OkM m.cs m.os) :
    Calls Tryz.prog 17 #[.agg #[.slice m.A m.cs.length m.ca, .slice m.O m.os.length m.co], .string key] w fun e w' => e = .returned (.int .i64 (whV m.cs m.os key)) ∧ Below w.heap.size w w' := by
  have b0 := (Below.refl w.heap.size w).alloc (Nat.le_refl _) (.cells #[.slice m.A m.cs.length m.ca, .slice m.O m.os.length m.co] 25)
  have x0 := Box.new w 25 #[.slice m.A m.cs.length m.ca, .slice m.O m.os.length m.co]
  have hm1 := hm.below b0
  have hfew := hok.few
  have hlen := hok.len
  have hcut := (cutsB_iff.1 hok.cuts).2
  obtain ⟨A, ca, cs, O, co, os⟩ := m
  simp only at hm1 b0 x0 hfew hlen hcut ⊢
  have c0 := x0.cell 0 (v := .slice A cs.length ca) rfl
  have c1 := x0.cell 1 (v := .slice O os.length co) rfl
  obtain ⟨b, o, e, hbl, z0⟩ := hm1.own 0 (os.getD 0 0) (by simp [List.getD_eq_getElem?_getD, show 0 < os.length by omega])
  simp only at e
  subst e
  have g0 : (0 : Int) < (os.length : Int) := by omega
  have HL := hideP hlen
  clear hm hok hlen
  simp only [Nat.add_zero] at z0
  generalize hz : os.getD 0 0 = zf at z0
  have HZ := hideP hz
  clear hz
  go_enter Tryz.func17, Tryz.ntmps17
  go_wp2_with fail
  generalize w.alloc (.cells #[.slice A cs.length ca, .slice (some ⟨b, o, none⟩) os.length co] 25) = w1 at b0 x0 hm1 c0 c1 z0 hbl ⊢
  have HB := hideP b0
  clear b0
  generalize w.heap.size = g at x0 c0 c1 ⊢
  go_loopw [5, 15] (WhI cs os key w1) (fun _ i _ => cs.length - (intOf i).toNat)
  case atStart => exact ⟨0, Nat.zero_le _, by rw [← HZ.out]; simp [atC], rfl, rfl⟩
  case round =>
    obtain ⟨k, hk, rfl, rfl, rfl⟩ := hrel
    by_cases hlt : k < cs.length
    · obtain ⟨b2, o2, e2, hb2, q1⟩ := hm1.cuts k (.string cs[k]) (by simp [hlt])
      simp only at e2
      subst e2
      have hsn := atC_snoc (cs.take k) cs[k] key
      have hcd : cs.getD k ByteArray.empty = cs[k] := by simp [List.getD_eq_getElem?_getD, hlt]
      rw [← hcd, ← take_snoc_ hlt, hcd] at hsn
      have htl : (cs.take k).length = k := by rw [List.length_take]; omega
      rw [htl] at hsn
      have hall : leB cs[k] key = true → atC (cs.take k) key = k := fun hc => by
        have h := atC_all (l := cs.take k) (key := key) fun x hx => by
          obtain ⟨i, hi, e⟩ := List.getElem_of_mem hx
          rw [List.getElem_take] at e
          rw [← e]
          exact leB_trans_ (List.pairwise_iff_getElem.1 hcut i k (by omega) hlt (by omega)) hc
        rw [h, htl]
      have g1 : (k : Int) < (cs.length : Int) := by omega
      have g2 : (0 : Int) ≤ (k : Int) := by omega
      have pk : IntKind.i64.wrap ((k : Int) + 1) = (k : Int) + 1 := by simp only [IntKind.wrap_i64]; omega
      have hk1 : k + 1 < os.length := by have := HL.out; omega
      have g3 : (k : Int) + 1 < (os.length : Int) := by omega
      have g4 : (0 : Int) ≤ (k : Int) + 1 := by omega
      have g5 : ((k : Int) + 1).toNat = k + 1 := by omega
      obtain ⟨b3, o3, e3, hb3, q2⟩ := hm1.own (k + 1) (os.getD (k + 1) 0) (by simp [List.getD_eq_getElem?_getD, hk1])
      injection e3 with e3
      injection e3 with e4 e5
      subst e4; subst e5
      generalize cs[k] = c at q1 hsn hall
      cases hc : leB c key with
      | true =>
        rw [if_pos ⟨hall hc, hc⟩] at hsn
        have HS := hideP hsn
        generalize hv : os.getD (k + 1) 0 = v at q2
        have HV := hideP hv
        generalize os.getD (atC (cs.take k) key) 0 = v0
        have d : Op.bytesLess key.toList c.toList = false := leB_iff.1 hc
        clear hsn hv hall hc
        go_wp2_with fail
        exact ⟨⟨k + 1, hlt, by rw [HS.out, HV.out], by simp, rfl⟩, by simp only [intOf]; omega⟩
      | false =>
        rw [if_neg (by simp [hc])] at hsn
        have HS := hideP hsn
        generalize hv : os.getD (atC (cs.take k) key) 0 = v0
        have HV := hideP hv
        have d : Op.bytesLess key.toList c.toList = true := leB_no.1 hc
        clear hsn hall hv q2 hc
        go_wp2_with fail
        exact ⟨⟨k + 1, hlt, by rw [HS.out, HV.out], by simp, rfl⟩, by simp only [intOf]; omega⟩
    · have hkk : k = cs.length := by omega
      subst hkk
      rw [List.take_length]
      generalize hv : os.getD (atC cs key) 0 = v0
      have HV := hideP hv
      clear hv
      go_wp2_with fail
      go_ret
      exact ⟨by rw [← HV.out]; rfl, HB.out⟩
end Go.Proofs.YtpefdonhacmaoaaGreatDoor
