/-
  roref.Whose.
-/
import Derived.Test.YtoelnhnbefkfoaaDoorShPlain
import Derived.Test.YtoelnhnbefkfoaaDoorSMap
import Derived.Test.YtoelnhnbefkfoaaDoorBox
set_option linter.unusedVariables false
set_option linter.unusedSimpArgs false
namespace Go.Proofs.YtoelnhnbefkfoaaDoor
open Go.RowKit

def WhI (cs : List ByteArray) (os : List Int) (key : ByteArray) (w1 : World) (n i : Value) (wr : World) : Prop := ∃ k : Nat, k ≤ cs.length ∧ n = .int .i64 (os.getD (atC (cs.take k) key) 0) ∧ i = .int .i64 k ∧ w1 = wr
set_option maxHeartbeats 1000000 in
set_option maxRecDepth 100000 in
theorem rwhose_any (m : Mp) (key : ByteArray) (w : World) (hm : MS w m) (hok : OkM m.cs m.os) :
    Calls Tryd.prog 14 #[.agg #[.slice m.A m.cs.length m.ca, .slice m.O m.os.length m.co], .string key] w fun e w' => e = .returned (.int .i64 (whV m.cs m.os key)) ∧ Below w.heap.size w w' := by
  have b0 := (Below.refl w.heap.size w).alloc (Nat.le_refl _) (.cells #[.slice m.A m.cs.length m.ca, .slice m.O m.os.length m.co] 25)
  have x0 := Box.new w 25 #[.slice m.A m.cs.length m.ca, .slice m.O m.os.length m.co]
  have hm1 := hm.below b0
  have hfew := hok.few
  have hlen := hok.len
  have hcut := (cutsB_iff.1 hok.cuts).2
  obtain ⟨A, ca, cs, O, co, os⟩ := m
  simp only at hm1 b0 x0 hfew hlen hcut ⊢
  have c0 := x0.cell 0 (v := .slice A cs.length ca) rfl
  have c1 := x0.cell 1 (v := .slice O os.length co) rfl
  obtain ⟨b, o, e, hbl, z0⟩ := hm1.own 0 (os.getD 0 0) (by simp [List.getD_eq_getElem?_getD, show 0 < os.length by omega])
  simp only at e
  subst e
  have g0 : (0 : Int) < (os.length : Int) := by omega
  have HL := hideP hlen
  clear hm hok hlen
  simp only [Nat.add_zero] at z0
  generalize hz : os.getD 0 0 = zf at z0
  have HZ := hideP hz
  clear hz
  go_enter Tryd.func14, Tryd.ntmps14
  go_wp2_with fail
  generalize w.alloc (.cells #[.slice A cs.length ca, .slice (some ⟨b, o, none⟩) os.length co] 25) = w1 at b0 x0 hm1 c0 c1 z0 hbl ⊢
  have HB := hideP b0
  clear b0
  generalize w.heap.size = g at x0 c0 c1 ⊢
  go_loopw [5, 15] (WhI cs os key w1) (fun _ i _ => cs.length - (intOf i).toNat)
  case atStart => exact ⟨0, Nat.zero_le _, by rw [← HZ.out]; simp [atC], rfl, rfl⟩
  case round =>
    obtain ⟨k, hk, rfl, rfl, rfl⟩ := hrel
    by_cases hlt : k < cs.length
    · obtain ⟨b2, o2, e2, hb2, q1⟩ := hm1.cuts k (.string cs[k]) (by simp [hlt])
      simp only at e2
      subst e2
      have hsn := atC_snoc (cs.take k) cs[k] key
      have hcd : cs.getD k ByteArray.empty = cs[k] := by simp [List.getD_eq_getElem?_getD, hlt]
      rw [← hcd, ← take_snoc_ hlt, hcd] at hsn
      have htl : (cs.take k).length = k := by rw [List.length_take]; omega
      rw [htl] at hsn
      have hall : leB cs[k] key = true → atC (cs.take k) key = k := fun hc => by
        have h := atC_all (l := cs.take k) (key := key) fun x hx => by
          obtain ⟨i, hi, e⟩ := List.getElem_of_mem hx
          rw [List.getElem_take] at e
          rw [← e]
          exact leB_trans_ (List.pairwise_iff_getElem.1 hcut i k (by omega) hlt (by omega)) hc
        rw [h, htl]
      have g1 : (k : Int) < (cs.length : Int) := by omega
      have g2 : (0 : Int) ≤ (k : Int) := by omega
      have pk : IntKind.i64.wrap ((k : Int) + 1) = (k : Int) + 1 := by simp only [IntKind.wrap_i64]; omega
      have hk1 : k + 1 < os.length := by have := HL.out; omega
      have g3 : (k : Int) + 1 < (os.length : Int) := by omega
      have g4 : (0 : Int) ≤ (k : Int) + 1 := by omega
      have g5 : ((k : Int) + 1).toNat = k + 1 := by omega
      obtain ⟨b3, o3, e3, hb3, q2⟩ := hm1.own (k + 1) (os.getD (k + 1) 0) (by simp [List.getD_eq_getElem?_getD, hk1])
      injection e3 with e3
      injection e3 with e4 e5
      subst e4; subst e5
      generalize cs[k] = c at q1 hsn hall
      cases hc : leB c key with
      | true =>
        rw [if_pos ⟨hall hc, hc⟩] at hsn
        have HS := hideP hsn
        generalize hv : os.getD (k + 1) 0 = v at q2
        have HV := hideP hv
        generalize os.getD (atC (cs.take k) key) 0 = v0
        have d : Op.bytesLess key.toList c.toList = false := leB_iff.1 hc
        clear hsn hv hall hc
        go_wp2_with fail
        exact ⟨⟨k + 1, hlt, by rw [HS.out, HV.out], by simp, rfl⟩, by simp only [intOf]; omega⟩
      | false =>
        rw [if_neg (by simp [hc])] at hsn
        have HS := hideP hsn
        generalize hv : os.getD (atC (cs.take k) key) 0 = v0
        have HV := hideP hv
        have d : Op.bytesLess key.toList c.toList = true := leB_no.1 hc
        clear hsn hall hv q2 hc
        go_wp2_with fail
        exact ⟨⟨k + 1, hlt, by rw [HS.out, HV.out], by simp, rfl⟩, by simp only [intOf]; omega⟩
    · have hkk : k = cs.length := by omega
      subst hkk
      rw [List.take_length]
      generalize hv : os.getD (atC cs key) 0 = v0
      have HV := hideP hv
      clear hv
      go_wp2_with fail
      go_ret
      exact ⟨by rw [← HV.out]; rfl, HB.out⟩
end Go.Proofs.YtoelnhnbefkfoaaDoor
