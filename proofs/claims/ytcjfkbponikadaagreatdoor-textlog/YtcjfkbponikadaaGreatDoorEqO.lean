/-
  slices.Equal of operations, and roref.SameDeed.
-/
import Derived.Test.YtcjfkbponikadaaGreatDoorOpMem
import Derived.Test.YtcjfkbponikadaaGreatDoorBox
import Derived.Laws.StructEq
import Derived.WalkKit
import Derived.WalkSpells
import Derived.WalkLawsBesides
import Derived.Deep.QuietTactic
import Derived.BigQuiet
set_option linter.unusedVariables false
set_option linter.unusedSimpArgs false
namespace Go.Proofs.YtcjfkbponikadaaGreatDoor
open Go.RowKit

noncomputable def sameB (a b : List Opr) : Bool := @decide (a = b) (Classical.propDecidable _)
theorem sameB_true {a b : List Opr} (h : a = b) : sameB a b = true := by unfold sameB; exact @decide_eq_true _ (Classical.propDecidable _) h
theorem sameB_false {a b : List Opr} (h : a ≠ b) : sameB a b = false := by unfold sameB; exact @decide_eq_false _ (Classical.propDecidable _) h
def opEq (p q : Opr) : Bool := p.kind == q.kind && (p.key.toList == q.key.toList && (p.src.toList == q.src.toList && p.n == q.n))
theorem opB_ext {a b : ByteArray} (h : a.data.toList = b.data.toList) : a = b := by
  cases a with | mk a => cases b with | mk b => simp at h; rw [h]
theorem opEq_iff {p q : Opr} : opEq p q = true ↔ p = q := by
  obtain ⟨a, b, c, d⟩ := p
  obtain ⟨a', b', c', d'⟩ := q
  simp only [opEq, Bool.and_eq_true, beq_iff_eq, Opr.mk.injEq]
  constructor
  · rintro ⟨h1, h2, h3, h4⟩
    rw [ByteArray.toList_eq, ByteArray.toList_eq] at h2 h3
    exact ⟨h1, opB_ext h2, opB_ext h3, h4⟩
  · rintro ⟨h1, h2, h3, h4⟩
    exact ⟨h1, by rw [h2], by rw [h3], h4⟩
theorem run_neq_ops (p q : Opr) (w : World) : (binOp .neq 97 (.agg #[.int .i64 p.kind, .string p.key, .string p.src, .int .i64 p.n]) (.agg #[.int .i64 q.kind, .string q.key, .string q.src, .int .i64 q.n])).run Tryz.prog w = .ok (.bool (!opEq p q)) w := by
  have u3 := Tryz.underlying3
  have u9 := Tryz.underlying9
  have a3 := Tryz.isAgg3
  have z3 := Tryz.sizeOf3
  have a9 := Tryz.isAgg9
  have z9 := Tryz.sizeOf9
  have hS : Tryz.prog.underlying 97 = some (.struct (Tryz.prog.fieldsOf 97)) := by kernel_rfl
  have hp : Tryz.prog.stoodInHeld 97 = false := by kernel_rfl
  rw [run_neq_struct, show (10000 : Nat) = 9999 + 1 from rfl, run_equalIn_agg w 9999 97 _ _ hS hp]
  simp only [Program.fieldsOf, Tryz.underlying97]
  unfold opEq
  generalize hx1 : (p.kind == q.kind) = x1
  generalize hx2 : (p.key.toList == q.key.toList) = x2
  generalize hx3 : (p.src.toList == q.src.toList) = x3
  generalize hx4 : (p.n == q.n) = x4
  cases x1 <;> cases x2 <;> cases x3 <;> cases x4 <;> go_simp <;> simp [hx1, hx2, hx3, hx4]
theorem guard_ops (x y : Operand) (xs ys : Array Value) (w : World) : (eqGuard .neq 97 x y (.agg xs) (.agg ys)).run Tryz.prog w = .ok () w := run_eqGuard_agg w .neq 97 x y xs ys (by kernel_rfl)
set_option maxHeartbeats 1000000 in
set_option maxRecDepth 100000 in
theorem equalO_any (A1 A2 : Option Addr) (c1 c2 : Nat) (l m : List Opr) (w : World) (h1 : OS w w.heap.size A1 l) (h2 : OS w w.heap.size A2 m) (hl : l.length < 4611686018427387904) :
    Calls Tryz.prog 60 #[.slice A1 l.length c1, .slice A2 m.length c2] w fun e w' => e = .returned (.bool (sameB l m)) ∧ Below w.heap.size w w' := by
  by_cases hlm : l.length = m.length
  · have d0 : ((l.length : Int) != (m.length : Int)) = false := by simp; omega
    have HLM := hideP hlm
    clear hlm
    go_enter Tryz.func60, Tryz.ntmps60
    go_wp2_with fail
    go_loopw [13] (fun i wr => ∃ k : Nat, k ≤ l.length ∧ i = .int .i64 k ∧ l.take k = m.take k ∧ Below w.heap.size w wr) (fun i _ => l.length - (intOf i).toNat)
    case atStart => exact ⟨0, Nat.zero_le _, rfl, rfl, Below.refl _ _⟩
    case round =>
      obtain ⟨k, hk, rfl, heq, hb⟩ := hrel
      have HEQ := hideP heq
      clear heq
      by_cases hlt : k < l.length
      · have hltm : k < m.length := by rw [← HLM.out]; exact hlt
        obtain ⟨b, o, rfl, hbl, q1, q2, q3, q4⟩ := h1.below hb k _ (List.getElem?_eq_getElem hlt)
        obtain ⟨b', o', rfl, hbl', q5, q6, q7, q8⟩ := h2.below hb k _ (List.getElem?_eq_getElem hltm)
        clear h1 h2
        have HS := hideP (fun (h : l[k] = m[k]) => show l.take (k + 1) = m.take (k + 1) by rw [List.take_succ_eq_append_getElem hlt, List.take_succ_eq_append_getElem hltm, HEQ.out, h])
        have HD := hideP (fun (h : l[k] ≠ m[k]) => show l ≠ m from fun e => h (by subst e; rfl))
        generalize l[k] = p at q1 q2 q3 q4 HS HD
        generalize m[k] = r at q5 q6 q7 q8 HS HD
        have g1 : (0 : Int) ≤ (k : Int) := by omega
        have g2 : (k : Int) < (l.length : Int) := by omega
        have g3 : (k : Int) < (m.length : Int) := by omega
        have n1 := run_neq_ops p r
        have n2 := guard_ops
        cases he : opEq p r
        · have HN := hideP (HD.out fun e => by rw [opEq_iff.2 e] at he; cases he)
          rw [he] at n1
          clear he
          go_wp2_with fail
          go_quiet (fail)
          go_wp2_with fail
          go_ret
          exact ⟨by rw [sameB_false HN.out]; rfl, ⟨hb.os, hb.tape, hb.output, hb.size, hb.block⟩⟩
        · have HN := hideP (HS.out (opEq_iff.1 he))
          rw [he] at n1
          clear he
          go_wp2_with fail
          go_quiet (fail)
          go_wp2_with fail
          go_roundw
          case rel => exact ⟨k + 1, by omega, by go_num, HN.out, ⟨hb.os, hb.tape, hb.output, hb.size, hb.block⟩⟩
          case measure => simp [intOf]; omega
      · have HE := hideP (show l = m by
          have := HEQ.out
          rwa [List.take_of_length_le (by omega), List.take_of_length_le (by have := HLM.out; omega)] at this)
        go_wp2_with fail
        go_ret
        exact ⟨by rw [sameB_true HE.out]; rfl, hb⟩
  · have d0 : ((l.length : Int) != (m.length : Int)) = true := by simp; omega
    have HE := hideP (show l ≠ m from fun e => hlm (by rw [e]))
    clear hlm
    go_enter Tryz.func60, Tryz.ntmps60
    go_wp2_with fail
    go_ret
    exact ⟨by rw [sameB_false HE.out]; rfl, Below.refl _ _⟩
set_option maxHeartbeats 1000000 in
set_option maxRecDepth 100000 in
theorem samedeed_any (D1 D2 : Option Addr) (k1 k2 : Nat) (a b : List Opr) (w : World) (ha : OS w w.heap.size D1 a) (hb : OS w w.heap.size D2 b) (hl : a.length < 4611686018427387904) :
    Calls Tryz.prog 18 #[.agg #[.slice D1 a.length k1], .agg #[.slice D2 b.length k2]] w fun e w' => e = .returned (.bool (sameB a b)) ∧ Below w.heap.size w w' := by
  have h0 := ((Below.refl w.heap.size w).alloc (Nat.le_refl _) (.cells #[.slice D1 a.length k1] 24)).alloc (by simp) (.cells #[.slice D2 b.length k2] 24)
  have HQ := hideP (equalO_any D1 D2 k1 k2 a b _ (ha.go h0) (hb.go h0) hl)
  go_enter Tryz.func18, Tryz.ntmps18
  go_wp2_with fail
  refine HQ.out.mono ?_
  clear HQ
  generalize (w.alloc (.cells #[.slice D1 a.length k1] 24)).alloc (.cells #[.slice D2 b.length k2] 24) = w1 at h0 ⊢
  rintro e w2 ⟨rfl, hb2⟩
  have hb3 := h0.trans (hb2.mono h0.size)
  generalize hq : sameB a b = q at ⊢
  have HQ := hideP hq
  clear hq
  go_wp2_with fail
  go_ret
  exact ⟨by rw [HQ.out]; rfl, hb3⟩
end Go.Proofs.YtcjfkbponikadaaGreatDoor
