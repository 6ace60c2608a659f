/-
  slices.EqualFunc of entries by roref.SameEntry.
  slices.Equal at ints.
  slices.Equal at bools.
  slices.Equal at pairs: two that read the same are equal.
  roref.Whose.
  roref.Owned: the values whose keys belong to an owner.
  Literals in memory (no body of the program in it).
  Rows that make lays, a slice cut short.
-/
import Derived.Test.YtefdipjhjgmokaaGreatDoorBx39
import Derived.Test.YtefdipjhjgmokaaGreatDoorBx3
import Derived.Test.YtefdipjhjgmokaaGreatDoorBx1
import Derived.WalkKit
import Derived.WalkSpells
import Derived.WalkLawsBesides
import Derived.Deep.QuietTactic
import Derived.BigQuiet
import Derived.Test.YtefdipjhjgmokaaGreatDoorBx8
import Derived.Laws.StructEq
import Derived.Test.YtefdipjhjgmokaaGreatDoorBx7
import Derived.Test.YtefdipjhjgmokaaGreatDoorBx35
import Derived.Test.YtefdipjhjgmokaaGreatDoorBx2
import Derived.Test.YtefdipjhjgmokaaGreatDoorBx29
import Derived.Deep.RegionHeld3
import Derived.Laws.MakeOwn
set_option linter.unusedVariables false
set_option linter.unusedSimpArgs false
namespace Go.Proofs.YtefdipjhjgmokaaGreatDoor
open Go.RowKit

theorem sameE_iff {x y : Em} : sameE x y = true ↔ entOf x = entOf y := by
  obtain ⟨D, c, d, isM, ⟨A, ca, cs, O, co, os⟩⟩ := x
  obtain ⟨D', c', d', isM', ⟨A', ca', cs', O', co', os'⟩⟩ := y
  unfold sameE sameB entOf
  simp only [Bool.and_eq_true, beq_iff_eq, decide_eq_true_eq, Ent.mk.injEq]
/-- do two lists read alike? -/
noncomputable def sameL (l m : List Em) : Bool := @decide (l.map entOf = m.map entOf) (Classical.propDecidable _)
theorem sameL_true {l m : List Em} (h : l.map entOf = m.map entOf) : sameL l m = true := by unfold sameL; exact @decide_eq_true _ (Classical.propDecidable _) h
theorem sameL_false {l m : List Em} (h : l.map entOf ≠ m.map entOf) : sameL l m = false := by unfold sameL; exact @decide_eq_false _ (Classical.propDecidable _) h
set_option maxHeartbeats 2000000 in
set_option maxRecDepth 100000 in
theorem eqfE_any (A1 A2 : Option Addr) (c1 c2 : Nat) (l m : List Em) (w : World) (h1 : EL w A1 l) (h2 : EL w A2 m) (hl : ∀ x ∈ l, x.d.length < 4611686018427387904) (hll : l.length < 4611686018427387904) :
    Calls Tryz.prog 39 #[.slice A1 l.length c1, .slice A2 m.length c2, .func (.func 28) #[] #[]] w fun e w' => e = .returned (.bool (sameL l m)) ∧ Below w.heap.size w w' := by
  by_cases hlen : l.length = m.length
  · have d0 : ((l.length : Int) != (m.length : Int)) = false := by simp [hlen]
    have HLE := hideP hlen
    clear hlen
    go_enter Tryz.func39, Tryz.ntmps39
    go_wp2_with fail
    go_loopw [17] (fun i wr => ∃ k : Nat, k ≤ l.length ∧ i = .int .i64 k ∧ (l.take k).map entOf = (m.take k).map entOf ∧ Below w.heap.size w wr) (fun i _ => l.length - (intOf i).toNat)
    case atStart => exact ⟨0, Nat.zero_le _, rfl, rfl, Below.refl _ _⟩
    case round =>
      obtain ⟨k, hk, rfl, heq, hb⟩ := hrel
      have HEQ := hideP heq
      clear heq
      by_cases hlt : k < l.length
      · have hlm : k < m.length := by rw [← HLE.out]; exact hlt
        have e1 := h1.below hb
        have e2 := h2.below hb
        obtain ⟨b1, o1, hA1, hb1, p0, p1, p2, p3⟩ := e1.cells k l[k] (List.getElem?_eq_getElem hlt)
        obtain ⟨b2, o2, hA2, hb2, q0, q1, q2, q3⟩ := e2.cells k m[k] (List.getElem?_eq_getElem hlm)
        have hx := e1.es _ (List.getElem_mem hlt)
        have hy := e2.es _ (List.getElem_mem hlm)
        have hxl := hl _ (List.getElem_mem hlt)
        subst hA1
        subst hA2
        have HT := hideP (fun (h : entOf l[k] = entOf m[k]) => show (l.take (k + 1)).map entOf = (m.take (k + 1)).map entOf by
          rw [List.take_succ_eq_append_getElem hlt, List.take_succ_eq_append_getElem hlm, List.map_append, List.map_append, HEQ.out]; simp [h])
        have HF := hideP (fun (h : entOf l[k] ≠ entOf m[k]) => show sameL l m = false from sameL_false fun e => h (by
          have := congrArg (fun z => z[k]?) e
          simp only [List.getElem?_map, List.getElem?_eq_getElem hlt, List.getElem?_eq_getElem hlm, Option.map_some, Option.some.injEq] at this
          exact this))
        generalize l[k] = x at p0 p1 p2 p3 hx hxl HT HF
        generalize m[k] = y at q0 q1 q2 q3 hy HT HF
        have al := ((Below.refl wr.heap.size wr).alloc (Nat.le_refl _) (.cells (emC x) 42)).alloc (by simp) (.cells (emC y) 42)
        have bE := hb.trans (al.mono hb.size)
        have x0 := (Box.new wr 42 (emC x)).alloc (.cells (emC y) 42)
        have x1 := Box.new (wr.alloc (.cells (emC x) 42)) 42 (emC y)
        simp only [World.size_alloc] at x1
        have HS := hideP (sameent_any x y _ (hx.below al) (hy.below al) hxl)
        have c0 := x0.cell 0 (v := .slice x.D x.d.length x.c) rfl
        have c1 := x0.cell 1 (v := .bool x.isM) rfl
        have c2 := x0.cell 2 (v := .slice x.m.A x.m.cs.length x.m.ca) rfl
        have c3 := x0.cell 3 (v := .slice x.m.O x.m.os.length x.m.co) rfl
        have d0 := x1.cell 0 (v := .slice y.D y.d.length y.c) rfl
        have d1 := x1.cell 1 (v := .bool y.isM) rfl
        have d2 := x1.cell 2 (v := .slice y.m.A y.m.cs.length y.m.ca) rfl
        have d3 := x1.cell 3 (v := .slice y.m.O y.m.os.length y.m.co) rfl
        have g1 : (0 : Int) ≤ (k : Int) := by omega
        have g2 : (k : Int) < (l.length : Int) := by omega
        have g3 : (k : Int) < (m.length : Int) := by omega
        clear h1 h2 e1 e2 hx hy al x0 x1 HLE hl hxl
        unfold emV at HS
        unfold emC at HS c0 c1 c2 c3 d0 d1 d2 d3 bE
        go_wp2_with fail
        refine HS.out.mono ?_
        clear HS
        rintro e w2 ⟨rfl, hbn⟩
        have b2 := bE.trans (hbn.mono bE.size)
        cases hs : sameE x y
        · have HR := hideP (HF.out fun e => by rw [sameE_iff.2 e] at hs; cases hs)
          clear hs
          go_wp2_with fail
          go_ret
          exact ⟨by rw [HR.out]; rfl, b2⟩
        · have HR := hideP (HT.out (sameE_iff.1 hs))
          clear hs
          go_wp2_with fail
          go_roundw
          case rel => exact ⟨k + 1, by omega, by go_num, HR.out, b2⟩
          case measure => simp [intOf]; omega
      · have HR := hideP (show sameL l m = true from sameL_true (by have := HEQ.out; rw [List.take_of_length_le (by omega), List.take_of_length_le (by have := HLE.out; omega)] at this; exact this))
        go_wp2_with fail
        go_ret
        exact ⟨by rw [HR.out]; rfl, hb⟩
  · have d0 : ((l.length : Int) != (m.length : Int)) = true := by simp; omega
    have HR := hideP (show sameL l m = false from sameL_false fun e => hlen (by have := congrArg List.length e; simpa using this))
    clear hlen
    go_enter Tryz.func39, Tryz.ntmps39
    go_wp2_with fail
    go_ret
    exact ⟨by rw [HR.out]; rfl, Below.refl _ _⟩
end Go.Proofs.YtefdipjhjgmokaaGreatDoor

set_option linter.unusedVariables false
set_option linter.unusedSimpArgs false
namespace Go.Proofs.YtefdipjhjgmokaaGreatDoor
open Go.RowKit

set_option maxHeartbeats 400000 in
set_option maxRecDepth 100000 in
theorem iequal_same (A1 A2 : Option Addr) (c1 c2 : Nat) (l : List Nat) (w : World) (h1 : VS w A1 (nV l)) (h2 : VS w A2 (nV l)) (hl : l.length < 4611686018427387904) :
    Calls Tryz.prog 58 #[.slice A1 l.length c1, .slice A2 l.length c2] w fun e w' => e = .returned (.bool true) ∧ Below w.heap.size w w' := by
  have d0 : ((l.length : Int) != (l.length : Int)) = false := by simp
  go_enter Tryz.func58, Tryz.ntmps58
  go_wp2_with fail
  go_loopw [13] (fun i wr => ∃ k : Nat, k ≤ l.length ∧ i = .int .i64 k ∧ Below w.heap.size w wr) (fun i _ => l.length - (intOf i).toNat)
  case atStart => exact ⟨0, Nat.zero_le _, rfl, Below.refl _ _⟩
  case round =>
    obtain ⟨k, hk, rfl, hb⟩ := hrel
    by_cases hlt : k < l.length
    · obtain ⟨b, o, rfl, hbl, q1⟩ := h1.below hb k (.int .i64 (l[k] : Int)) (by simp [nV, hlt])
      obtain ⟨b', o', rfl, hbl', q2⟩ := h2.below hb k (.int .i64 (l[k] : Int)) (by simp [nV, hlt])
      clear h1 h2
      generalize (l[k] : Int) = p at q1 q2
      have g1 : (0 : Int) ≤ (k : Int) := by omega
      have g2 : (k : Int) < (l.length : Int) := by omega
      have dp : (p != p) = false := by simp
      go_wp2_with fail
      go_quiet (fail)
      go_wp2_with fail
      go_roundw
      case rel => exact ⟨k + 1, by omega, by go_num, ⟨hb.os, hb.tape, hb.output, hb.size, hb.block⟩⟩
      case measure => simp [intOf]; omega
    · go_wp2_with fail
      go_ret
      exact ⟨rfl, hb⟩
end Go.Proofs.YtefdipjhjgmokaaGreatDoor

set_option linter.unusedVariables false
set_option linter.unusedSimpArgs false
namespace Go.Proofs.YtefdipjhjgmokaaGreatDoor
open Go.RowKit

set_option maxHeartbeats 400000 in
set_option maxRecDepth 100000 in
theorem bequal_same (A1 A2 : Option Addr) (c1 c2 : Nat) (l : List Bool) (w : World) (h1 : VS w A1 (l.map Value.bool)) (h2 : VS w A2 (l.map Value.bool)) (hl : l.length < 4611686018427387904) :
    Calls Tryz.prog 63 #[.slice A1 l.length c1, .slice A2 l.length c2] w fun e w' => e = .returned (.bool true) ∧ Below w.heap.size w w' := by
  have d0 : ((l.length : Int) != (l.length : Int)) = false := by simp
  go_enter Tryz.func63, Tryz.ntmps63
  go_wp2_with fail
  go_loopw [13] (fun i wr => ∃ k : Nat, k ≤ l.length ∧ i = .int .i64 k ∧ Below w.heap.size w wr) (fun i _ => l.length - (intOf i).toNat)
  case atStart => exact ⟨0, Nat.zero_le _, rfl, Below.refl _ _⟩
  case round =>
    obtain ⟨k, hk, rfl, hb⟩ := hrel
    by_cases hlt : k < l.length
    · obtain ⟨b, o, rfl, hbl, q1⟩ := h1.below hb k (.bool l[k]) (by simp [hlt])
      obtain ⟨b', o', rfl, hbl', q2⟩ := h2.below hb k (.bool l[k]) (by simp [hlt])
      clear h1 h2
      generalize l[k] = p at q1 q2
      have g1 : (0 : Int) ≤ (k : Int) := by omega
      have g2 : (k : Int) < (l.length : Int) := by omega
      have dp : (p != p) = false := by simp
      go_wp2_with fail
      go_quiet (fail)
      go_wp2_with fail
      go_roundw
      case rel => exact ⟨k + 1, by omega, by go_num, ⟨hb.os, hb.tape, hb.output, hb.size, hb.block⟩⟩
      case measure => simp [intOf]; omega
    · go_wp2_with fail
      go_ret
      exact ⟨rfl, hb⟩
end Go.Proofs.YtefdipjhjgmokaaGreatDoor

set_option linter.unusedVariables false
set_option linter.unusedSimpArgs false
namespace Go.Proofs.YtefdipjhjgmokaaGreatDoor
open Go.RowKit

theorem run_neq_pair (k : ByteArray) (n : Int) (w : World) : (binOp .neq 63 (.agg #[.string k, .int .i64 n]) (.agg #[.string k, .int .i64 n])).run Tryz.prog w = .ok (.bool false) w := by
  have u3 := Tryz.underlying3
  have u9 := Tryz.underlying9
  have a3 := Tryz.isAgg3
  have z3 := Tryz.sizeOf3
  have a9 := Tryz.isAgg9
  have z9 := Tryz.sizeOf9
  have hS : Tryz.prog.underlying 63 = some (.struct (Tryz.prog.fieldsOf 63)) := by kernel_rfl
  have hp : Tryz.prog.stoodInHeld 63 = false := by kernel_rfl
  rw [run_neq_struct, show (10000 : Nat) = 9999 + 1 from rfl, run_equalIn_agg w 9999 63 _ _ hS hp]
  simp only [Program.fieldsOf, Tryz.underlying63]
  go_simp

theorem guard_pair (x y : Operand) (xs ys : Array Value) (w : World) : (eqGuard .neq 63 x y (.agg xs) (.agg ys)).run Tryz.prog w = .ok () w := run_eqGuard_agg w .neq 63 x y xs ys (by kernel_rfl)

set_option maxHeartbeats 400000 in
set_option maxRecDepth 100000 in
theorem equal_same (A1 A2 : Option Addr) (c1 c2 : Nat) (l : List Pr) (w : World) (h1 : PS w w.heap.size A1 l) (h2 : PS w w.heap.size A2 l) (hl : l.length < 4611686018427387904) :
    Calls Tryz.prog 20 #[.slice A1 l.length c1, .slice A2 l.length c2] w fun e w' => e = .returned (.bool true) ∧ Below w.heap.size w w' := by
  have d0 : ((l.length : Int) != (l.length : Int)) = false := by simp
  go_enter Tryz.func20, Tryz.ntmps20
  go_wp2_with fail
  go_loopw [13] (fun i wr => ∃ k : Nat, k ≤ l.length ∧ i = .int .i64 k ∧ Below w.heap.size w wr) (fun i _ => l.length - (intOf i).toNat)
  case atStart => exact ⟨0, Nat.zero_le _, rfl, Below.refl _ _⟩
  case round =>
    obtain ⟨k, hk, rfl, hb⟩ := hrel
    by_cases hlt : k < l.length
    · obtain ⟨b, o, rfl, hbl, q1, q2⟩ := h1.below hb k _ (List.getElem?_eq_getElem hlt)
      obtain ⟨b', o', rfl, hbl', q3, q4⟩ := h2.below hb k _ (List.getElem?_eq_getElem hlt)
      clear h1 h2
      generalize l[k] = p at q1 q2 q3 q4
      have g1 : (0 : Int) ≤ (k : Int) := by omega
      have g2 : (k : Int) < (l.length : Int) := by omega
      have n1 := run_neq_pair p.1 p.2
      have n2 := guard_pair
      go_wp2_with fail
      go_quiet (fail)
      go_wp2_with fail
      go_roundw
      case rel => exact ⟨k + 1, by omega, by go_num, ⟨hb.os, hb.tape, hb.output, hb.size, hb.block⟩⟩
      case measure => simp [intOf]; omega
    · go_wp2_with fail
      go_ret
      exact ⟨rfl, hb⟩
end Go.Proofs.YtefdipjhjgmokaaGreatDoor

set_option linter.unusedVariables false
set_option linter.unusedSimpArgs false
namespace Go.Proofs.YtefdipjhjgmokaaGreatDoor
open Go.RowKit

def WhI (cs : List ByteArray) (os : List Int) (key : ByteArray) (w1 : World) (n i : Value) (wr : World) : Prop := ∃ k : Nat, k ≤ cs.length ∧ n = .int .i64 (os.getD (atC (cs.take k) key) 0) ∧ i = .int .i64 k ∧ w1 = wr
set_option maxHeartbeats 1000000 in
set_option maxRecDepth 100000 in
theorem rwhose_any (m : Mp) (key : ByteArray) (w : World) (hm : MS w m) (hok : OkM m.cs m.os) :
    Calls Tryz.prog 116 #[.agg #[.slice m.A m.cs.length m.ca, .slice m.O m.os.length m.co], .string key] w fun e w' => e = .returned (.int .i64 (whV m.cs m.os key)) ∧ Below w.heap.size w w' := by
  have b0 := (Below.refl w.heap.size w).alloc (Nat.le_refl _) (.cells #[.slice m.A m.cs.length m.ca, .slice m.O m.os.length m.co] 34)
  have x0 := Box.new w 34 #[.slice m.A m.cs.length m.ca, .slice m.O m.os.length m.co]
  have hm1 := hm.below b0
  have hfew := hok.few
  have hlen := hok.len
  have hcut := (cutsB_iff.1 hok.cuts).2
  obtain ⟨A, ca, cs, O, co, os⟩ := m
  simp only at hm1 b0 x0 hfew hlen hcut ⊢
  have c0 := x0.cell 0 (v := .slice A cs.length ca) rfl
  have c1 := x0.cell 1 (v := .slice O os.length co) rfl
  obtain ⟨b, o, e, hbl, z0⟩ := hm1.own 0 (os.getD 0 0) (by simp [List.getD_eq_getElem?_getD, show 0 < os.length by omega])
  simp only at e
  subst e
  have g0 : (0 : Int) < (os.length : Int) := by omega
  have HL := hideP hlen
  clear hm hok hlen
  simp only [Nat.add_zero] at z0
  generalize hz : os.getD 0 0 = zf at z0
  have HZ := hideP hz
  clear hz
  go_enter Tryz.func116, Tryz.ntmps116
  go_wp2_with fail
  generalize w.alloc (.cells #[.slice A cs.length ca, .slice (some ⟨b, o, none⟩) os.length co] 34) = w1 at b0 x0 hm1 c0 c1 z0 hbl ⊢
  have HB := hideP b0
  clear b0
  generalize w.heap.size = g at x0 c0 c1 ⊢
  go_loopw [5, 15] (WhI cs os key w1) (fun _ i _ => cs.length - (intOf i).toNat)
  case atStart => exact ⟨0, Nat.zero_le _, by rw [← HZ.out]; simp [atC], rfl, rfl⟩
  case round =>
    obtain ⟨k, hk, rfl, rfl, rfl⟩ := hrel
    by_cases hlt : k < cs.length
    · obtain ⟨b2, o2, e2, hb2, q1⟩ := hm1.cuts k (.string cs[k]) (by simp [hlt])
      simp only at e2
      subst e2
      have hsn := atC_snoc (cs.take k) cs[k] key
      have hcd : cs.getD k ByteArray.empty = cs[k] := by simp [List.getD_eq_getElem?_getD, hlt]
      rw [← hcd, ← take_snoc_ hlt, hcd] at hsn
      have htl : (cs.take k).length = k := by rw [List.length_take]; omega
      rw [htl] at hsn
      have hall : leB cs[k] key = true → atC (cs.take k) key = k := fun hc => by
        have h := atC_all (l := cs.take k) (key := key) fun x hx => by
          obtain ⟨i, hi, e⟩ := List.getElem_of_mem hx
          rw [List.getElem_take] at e
          rw [← e]
          exact leB_trans_ (List.pairwise_iff_getElem.1 hcut i k (by omega) hlt (by omega)) hc
        rw [h, htl]
      have g1 : (k : Int) < (cs.length : Int) := by omega
      have g2 : (0 : Int) ≤ (k : Int) := by omega
      have pk : IntKind.i64.wrap ((k : Int) + 1) = (k : Int) + 1 := by simp only [IntKind.wrap_i64]; omega
      have hk1 : k + 1 < os.length := by have := HL.out; omega
      have g3 : (k : Int) + 1 < (os.length : Int) := by omega
      have g4 : (0 : Int) ≤ (k : Int) + 1 := by omega
      have g5 : ((k : Int) + 1).toNat = k + 1 := by omega
      obtain ⟨b3, o3, e3, hb3, q2⟩ := hm1.own (k + 1) (os.getD (k + 1) 0) (by simp [List.getD_eq_getElem?_getD, hk1])
      injection e3 with e3
      injection e3 with e4 e5
      subst e4; subst e5
      generalize cs[k] = c at q1 hsn hall
      cases hc : leB c key with
      | true =>
        rw [if_pos ⟨hall hc, hc⟩] at hsn
        have HS := hideP hsn
        generalize hv : os.getD (k + 1) 0 = v at q2
        have HV := hideP hv
        generalize os.getD (atC (cs.take k) key) 0 = v0
        have d : Op.bytesLess key.toList c.toList = false := leB_iff.1 hc
        clear hsn hv hall hc
        go_wp2_with fail
        exact ⟨⟨k + 1, hlt, by rw [HS.out, HV.out], by simp, rfl⟩, by simp only [intOf]; omega⟩
      | false =>
        rw [if_neg (by simp [hc])] at hsn
        have HS := hideP hsn
        generalize hv : os.getD (atC (cs.take k) key) 0 = v0
        have HV := hideP hv
        have d : Op.bytesLess key.toList c.toList = true := leB_no.1 hc
        clear hsn hall hv q2 hc
        go_wp2_with fail
        exact ⟨⟨k + 1, hlt, by rw [HS.out, HV.out], by simp, rfl⟩, by simp only [intOf]; omega⟩
    · have hkk : k = cs.length := by omega
      subst hkk
      rw [List.take_length]
      generalize hv : os.getD (atC cs key) 0 = v0
      have HV := hideP hv
      clear hv
      go_wp2_with fail
      go_ret
      exact ⟨by rw [← HV.out]; rfl, HB.out⟩
end Go.Proofs.YtefdipjhjgmokaaGreatDoor

set_option linter.unusedVariables false
set_option linter.unusedSimpArgs false
namespace Go.Proofs.YtefdipjhjgmokaaGreatDoor
open Go.RowKit Go.WideMaps Go.Maps

/-- whose a key is decides -/
def ownF (cs : List ByteArray) (os : List Int) (n : Int) (f : VF) : VF := fun k => if whV cs os k = n then f k else 0
/-- while the values are picked -/
def OwnInv (w : World) (m : Mp) (o : Int) (b it bo n : Nat) (D : DataW Unit) (wr : World) : Prop :=
  ∃ (left : Lit → Bool) (cnt q : Nat) (g : VF), wr.ranges Tryz.prog 9 (plainElem Tryz.prog 3) b it n D left cnt ∧ MV wr bo q g ∧ (∀ k, g k = if left (kl k) = false ∧ whV m.cs m.os k = o then mv D k else 0) ∧ q + cnt ≤ Maps.size D ∧ MH w w.heap.size m wr

set_option maxRecDepth 100000 in
set_option maxHeartbeats 4000000 in
theorem rowned_any (m : Mp) (b n : Nat) (f : VF) (o : Int) (w : World) (hM : MV w b n f) (hn : n ≤ 500000000) (hm : MS w m) (hok : OkM m.cs m.os) :
    Calls Tryz.prog 65 #[.agg #[.slice m.A m.cs.length m.ca, .slice m.O m.os.length m.co], .map (some b), .int .i64 o] w fun e w' => ∃ bo, e = .returned (.map (some bo)) ∧ MV w' bo n (ownF m.cs m.os o f) ∧ Below w.heap.size w w' := by
  have hmm := @run_makeMap Tryz.prog
  have hbl := hM.lt
  obtain ⟨D, hown, hIM, hmv⟩ := hM.ex
  have hsd := hown.size_le
  have hH0 := MH.new hm
  have HW := hideP (fun (key : ByteArray) (W : World) (h : MS W m) => rwhose_any m key W h hok)
  go_enter Tryz.func65, Tryz.ntmps65
  go_wp2_with (first
    | (at_range; refine wpList_range_own _ rfl _ 103 rfl 9 3 law9 Tryz.underlying103 _ b n _ rfl ((hown.alloc _).alloc _) ?_; intro w0 hrg0 hg0 hs0)
    | go_in)
  go_frame
  have e1 : ((w.alloc (.cells #[.slice m.A m.cs.length m.ca, .slice m.O m.os.length m.co] 34)).alloc (.map #[] 0)).heap.size = w.heap.size + 1 + 1 := by simp
  rw [e1] at hrg0 hs0 ⊢
  have hbA : Below w.heap.size w ((w.alloc (.cells #[.slice m.A m.cs.length m.ca, .slice m.O m.os.length m.co] 34)).alloc (.map #[] 0)) := ((Below.refl _ w).alloc (Nat.le_refl _) _).alloc (by simp) _
  have hb0 : Below w.heap.size w w0 := hbA.grown hg0 hbA.size (fun j hj => by cases hj)
  have hMo : MV w0 (w.heap.size + 1) 0 (fun _ => 0) := by
    have h1 := World.ownsMap_made (H := Unit) (w.alloc (.cells #[.slice m.A m.cs.length m.ca, .slice m.O m.os.length m.co] 34)) Tryz.prog 9 (plainElem Tryz.prog 3)
    rw [World.size_alloc] at h1
    exact MV.kept ⟨.map [], h1, isMap_empty, fun k => mv_empty k⟩ hg0 (by simp)
  have hH : MH w w.heap.size m w0 := ⟨(hH0.x0.alloc _).grown hg0 (by simp), hm.below hb0, hb0⟩
  have hs1 : w0.heap.size = w.heap.size + 3 := by omega
  clear hg0 hs0 e1 hbA hown hH0
  go_loopw [] (fun wr => OwnInv w m o b (w.heap.size + 1 + 1) (w.heap.size + 1) n D wr ∧ w.heap.size + 3 ≤ wr.heap.size) (fun wr => wr.rangeLeft b (w.heap.size + 1 + 1))
  case atStart => exact ⟨⟨_, _, 0, _, hrg0, hMo, (fun k => by
      by_cases h : Maps.has D (kl k) = false ∧ whV m.cs m.os k = o
      · rw [if_pos h, mv_none h.1]
      · rw [if_neg h]), by simp, hH⟩, by omega⟩
  case round =>
    obtain ⟨⟨left, cnt, q, g, hrg, hMr, hgk, hmc, hHr⟩, hsz⟩ := hrel
    have HGK := hideP hgk
    clear hrg0 hMo hb0 hH hs1 hgk
    go_wp2_with (first
      | (at_next; refine wpList_next_ranges _ rfl _ rfl 9 law9 (plainElem Tryz.prog 3) Value.string (Value.int .i64) (fun key kl hk => by obtain ⟨x, hx, _⟩ := Maps.keyOf_str Tryz.underlying9 hk; exact ⟨_, hx⟩) (fun v y hv => by obtain ⟨c, rfl, _⟩ := plainElem_int_inv Tryz.underlying3 hv; exact ⟨c, rfl⟩) b (w.heap.size + 1 + 1) n _ _ _ rfl hrg ?_ ?_)
      | go_in)
    · intro hc0 hl0
      have hgf : g = ownF m.cs m.os o f := funext fun k => by
        rw [HGK.out]; unfold ownF
        by_cases h : whV m.cs m.os k = o
        · rw [if_pos ⟨hl0 _, h⟩, if_pos h, hmv]
        · rw [if_neg (fun e => h e.2), if_neg h]
      rw [hgf] at hMr
      have hMn := hMr.mono (show q ≤ n by omega)
      have hbe := hHr.be
      clear HGK hmv hrg hl0 hgf hMr hIM hsd hmc
      go_wp2_with fail
      go_ret
      exact ⟨_, rfl, hMn, hbe⟩
    · intro x cv kl' yd yp w2 cnt2 hkey hlk hv hat hrg2 hlt hg2 hs2 hen
      obtain ⟨x', ex, rfl, hxs⟩ := Maps.keyOf_str Tryz.underlying9 hkey
      obtain rfl : x' = x.data.toList := by unfold encStr at ex; injection ex with ex; rw [ex]
      obtain ⟨c', ec, hyd, hwf⟩ := plainElem_int_inv Tryz.underlying3 hv
      obtain rfl : cv = c' := by injection ec
      have hmvx : mv D x = cv := mv_of (k := x) (fun z => by rw [show kl x = .string x.data.toList from rfl, hat z]; exact congrArg Prod.fst hyd)
      have hM2 := hMr.kept hg2 (by intro e; injection e with e; omega)
      have hb2 : Below w.heap.size w w2 := hHr.be.grown hg2 hHr.be.size (fun j hj => by cases hj; omega)
      have hH2 : MH w w.heap.size m w2 := ⟨hHr.x0.grown hg2 (by intro e; injection e with e; omega), hm.below hb2, hb2⟩
      have hxm : x.size ≤ maxLen := by simpa using hxs
      have hns : ∀ k, k ≠ x → (kl k).sameKey (kl x) = false := fun k e => by
        cases h : (kl k).sameKey (kl x)
        · rfl
        · exact absurd (same_kl h) e
      have hsz2 : w.heap.size + 3 ≤ w2.heap.size := by have := hg2.size; omega
      have HW2 := hideP (HW.out x)
      have HNS := hideP hns
      have HMX := hideP hmvx
      have HWF := hideP hwf
      clear hkey hv hat ex hyd ec hg2 hs2 hxs hb2 hMr hHr hns hmvx hwf
      obtain ⟨z1, z2⟩ := hH2.c
      go_wp2_with fail
      refine (HW2.out _ hH2.ms).mono ?_
      rintro e w3 ⟨rfl, hb3⟩
      dsimp only
      have hgn : w2.grownBy w3 none := ⟨hb3.os, hb3.tape, hb3.output, hb3.size, fun k hk _ => hb3.block k hk⟩
      have hM3 := hM2.below hb3
      have hH3 := hH2.below hb3
      have hrg3 := hrg2.kept hgn (by simp) (by simp)
      have hsz3 : w.heap.size + 3 ≤ w3.heap.size := Nat.le_trans hsz2 hb3.size
      clear hb3 hgn hM2 hH2 hrg2 hsz2 z1 z2 HW2
      by_cases hwo : whV m.cs m.os x = o
      · have dd : (whV m.cs m.os x == o) = true := by simp [hwo]
        obtain ⟨w4, hrun, hM4, hg4⟩ := hM3.put (by omega) x hxm cv HWF.out
        have hb4 : Below w.heap.size w w4 := hH3.be.grown hg4 hH3.be.size (fun j hj => by cases hj; omega)
        have hH4 : MH w w.heap.size m w4 := ⟨hH3.x0.grown hg4 (by intro e; injection e with e; omega), hm.below hb4, hb4⟩
        have hrg4 := hrg3.kept hg4 (by intro e; injection e with e; omega) (by intro e; injection e with e; omega)
        have HGK2 := hideP (show ∀ k, upd g x cv k = if (left (kl k) && !(kl k).sameKey (kl x)) = false ∧ whV m.cs m.os k = o then mv D k else 0 from fun k => by
          by_cases e : k = x
          · subst e
            rw [upd_same, if_pos ⟨by simp [kl, Lit.sameKey], hwo⟩, HMX.out]
          · rw [upd_other _ _ e, HGK.out, HNS.out k e]; simp)
        have hsz4 : w.heap.size + 3 ≤ w4.heap.size := by have := hg4.size; omega
        clear hM3 hH3 hrg3 hg4 hb4 hsz3 HGK HNS HMX HWF hlk hwo
        go_wp2_with fail
        go_roundw
        case rel => exact ⟨⟨_, cnt2, q + 1, _, hrg4, hM4, HGK2.out, by omega, hH4⟩, hsz4⟩
        case measure => rw [hrg4.left_eq, hrg.left_eq]; exact hlt
      · have dd : (whV m.cs m.os x == o) = false := by simp [hwo]
        have HGK2 := hideP (show ∀ k, g k = if (left (kl k) && !(kl k).sameKey (kl x)) = false ∧ whV m.cs m.os k = o then mv D k else 0 from fun k => by
          by_cases e : k = x
          · subst e
            rw [HGK.out, if_neg (fun e => hwo e.2), if_neg (fun e => hwo e.2)]
          · rw [HGK.out, HNS.out k e]; simp)
        clear HGK HNS HMX HWF hlk hwo
        go_wp2_with fail
        go_roundw
        case rel => exact ⟨⟨_, cnt2, q, _, hrg3, hM3, HGK2.out, by omega, hH3⟩, hsz3⟩
        case measure => rw [hrg3.left_eq, hrg.left_eq]; exact hlt
end Go.Proofs.YtefdipjhjgmokaaGreatDoor

set_option linter.unusedVariables false
set_option linter.unusedSimpArgs false
namespace Go.Proofs.YtefdipjhjgmokaaGreatDoor
open Go.RowKit

theorem OS.lit1 (w W : World) (o : Opr) (t : TypeId) (hW : W = w.alloc (.cells #[.int .i64 o.kind, .string o.key, .string o.src, .int .i64 o.n] t)) (g : Nat) (hg : g = w.heap.size) : OS W W.heap.size (some ⟨g, 0, none⟩) [o] := by
  subst hW; subst hg
  intro i p hp
  cases i with
  | zero => simp at hp; subst hp; exact ⟨w.heap.size, 0, rfl, by simp, by simp, by simp, by simp, by simp⟩
  | succ i => simp at hp
theorem VS.lit0 (w : World) (t : TypeId) : VS (w.alloc (.cells #[.int .i64 0] t)) (some ⟨w.heap.size, 0, none⟩) (nV [0]) := fun i v hv => by
  cases i with
  | zero => simp [nV] at hv; subst hv; exact ⟨w.heap.size, 0, rfl, by simp, by simp⟩
  | succ i => simp [nV] at hv

end Go.Proofs.YtefdipjhjgmokaaGreatDoor

set_option linter.unusedVariables false
set_option linter.unusedSimpArgs false
namespace Go.Proofs.YtefdipjhjgmokaaGreatDoor
open Go.RowKit

theorem made_bools (n : Nat) : (madeCells (Value.bool false).cells (n * 1)).toList = (List.replicate n false).map Value.bool := by
  rw [Nat.mul_one, madeCells, Array.toList_map]
  apply List.ext_getElem?
  intro i
  simp [Value.cells, Nat.mod_one]
  by_cases h : i < n <;> simp [h, List.getElem?_replicate]
theorem rep_false (n i : Nat) : (List.replicate n false).getD i false = false := by
  rw [List.getD_eq_getElem?_getD, List.getElem?_replicate]; split <;> rfl
theorem slice_upto (T : Option Addr) (n ct m : Nat) (hm : m ≤ ct) (hn : T = none → ct = 0) (w : World) : (Instr.slice 22 (.slice T n ct) none (some (.int .i64 (m : Int))) none).run Tryz.prog w = .ok (.slice T m ct) w := by
  have g1 : (0 : Int) ≤ (m : Int) := by omega
  have g2 : (m : Int) ≤ (ct : Int) := by omega
  cases T with
  | none =>
    obtain rfl := hn rfl
    obtain rfl : m = 0 := by omega
    clear hn hm
    go_simp
  | some a =>
    clear hn hm
    go_simp
theorem made_ints (n : Nat) : (madeCells (Value.int .i64 0).cells (n * 1)).toList = nV (List.replicate n 0) := by
  rw [Nat.mul_one, madeCells, Array.toList_map]
  apply List.ext_getElem?
  intro i
  simp [Value.cells, Nat.mod_one, nV]
  by_cases h : i < n <;> simp [h, List.getElem?_replicate]
end Go.Proofs.YtefdipjhjgmokaaGreatDoor
