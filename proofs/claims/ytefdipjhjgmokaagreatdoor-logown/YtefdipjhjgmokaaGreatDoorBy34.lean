/-
  slices.Equal of operations, and roref.SameDeed.
  slices.Equal at strings and at ints, whatever the two slices hold.
  roref.SameMap.
  roref.SameEntry.
  slices.EqualFunc of entries by roref.SameEntry.
-/
import Derived.Test.YtefdipjhjgmokaaGreatDoorBy2
import Derived.Laws.StructEq
import Derived.WalkKit
import Derived.WalkSpells
import Derived.WalkLawsBesides
import Derived.Deep.QuietTactic
import Derived.BigQuiet
import Derived.Test.YtefdipjhjgmokaaGreatDoorBy1
import Derived.Test.YtefdipjhjgmokaaGreatDoorBy3
set_option linter.unusedVariables false
set_option linter.unusedSimpArgs false
namespace Go.Proofs.YtefdipjhjgmokaaGreatDoor
open Go.RowKit

noncomputable def sameB (a b : List Opr) : Bool := @decide (a = b) (Classical.propDecidable _)
theorem sameB_true {a b : List Opr} (h : a = b) : sameB a b = true := by unfold sameB; exact @decide_eq_true _ (Classical.propDecidable _) h
theorem sameB_false {a b : List Opr} (h : a ≠ b) : sameB a b = false := by unfold sameB; exact @decide_eq_false _ (Classical.propDecidable _) h
def opEq (p q : Opr) : Bool := p.kind == q.kind && (p.key.toList == q.key.toList && (p.src.toList == q.src.toList && p.n == q.n))
theorem opB_ext {a b : ByteArray} (h : a.data.toList = b.data.toList) : a = b := by
  cases a with | mk a => cases b with | mk b => simp at h; rw [h]
theorem opEq_iff {p q : Opr} : opEq p q = true ↔ p = q := by
  obtain ⟨a, b, c, d⟩ := p
  obtain ⟨a', b', c', d'⟩ := q
  simp only [opEq, Bool.and_eq_true, beq_iff_eq, Opr.mk.injEq]
  constructor
  · rintro ⟨h1, h2, h3, h4⟩
    rw [ByteArray.toList_eq, ByteArray.toList_eq] at h2 h3
    exact ⟨h1, opB_ext h2, opB_ext h3, h4⟩
  · rintro ⟨h1, h2, h3, h4⟩
    exact ⟨h1, by rw [h2], by rw [h3], h4⟩
theorem run_neq_ops (p q : Opr) (w : World) : (binOp .neq 71 (.agg #[.int .i64 p.kind, .string p.key, .string p.src, .int .i64 p.n]) (.agg #[.int .i64 q.kind, .string q.key, .string q.src, .int .i64 q.n])).run Tryz.prog w = .ok (.bool (!opEq p q)) w := by
  have u3 := Tryz.underlying3
  have u9 := Tryz.underlying9
  have a3 := Tryz.isAgg3
  have z3 := Tryz.sizeOf3
  have a9 := Tryz.isAgg9
  have z9 := Tryz.sizeOf9
  have hS : Tryz.prog.underlying 71 = some (.struct (Tryz.prog.fieldsOf 71)) := by kernel_rfl
  have hp : Tryz.prog.stoodInHeld 71 = false := by kernel_rfl
  rw [run_neq_struct, show (10000 : Nat) = 9999 + 1 from rfl, run_equalIn_agg w 9999 71 _ _ hS hp]
  simp only [Program.fieldsOf, Tryz.underlying71]
  unfold opEq
  generalize hx1 : (p.kind == q.kind) = x1
  generalize hx2 : (p.key.toList == q.key.toList) = x2
  generalize hx3 : (p.src.toList == q.src.toList) = x3
  generalize hx4 : (p.n == q.n) = x4
  cases x1 <;> cases x2 <;> cases x3 <;> cases x4 <;> go_simp <;> simp [hx1, hx2, hx3, hx4]
theorem guard_ops (x y : Operand) (xs ys : Array Value) (w : World) : (eqGuard .neq 71 x y (.agg xs) (.agg ys)).run Tryz.prog w = .ok () w := run_eqGuard_agg w .neq 71 x y xs ys (by kernel_rfl)
set_option maxHeartbeats 1000000 in
set_option maxRecDepth 100000 in
theorem equalO_any (A1 A2 : Option Addr) (c1 c2 : Nat) (l m : List Opr) (w : World) (h1 : OS w w.heap.size A1 l) (h2 : OS w w.heap.size A2 m) (hl : l.length < 4611686018427387904) :
    Calls Tryz.prog 128 #[.slice A1 l.length c1, .slice A2 m.length c2] w fun e w' => e = .returned (.bool (sameB l m)) ∧ Below w.heap.size w w' := by
  by_cases hlm : l.length = m.length
  · have d0 : ((l.length : Int) != (m.length : Int)) = false := by simp; omega
    have HLM := hideP hlm
    clear hlm
    go_enter Tryz.func128, Tryz.ntmps128
    go_wp2_with fail
    go_loopw [13] (fun i wr => ∃ k : Nat, k ≤ l.length ∧ i = .int .i64 k ∧ l.take k = m.take k ∧ Below w.heap.size w wr) (fun i _ => l.length - (intOf i).toNat)
    case atStart => exact ⟨0, Nat.zero_le _, rfl, rfl, Below.refl _ _⟩
    case round =>
      obtain ⟨k, hk, rfl, heq, hb⟩ := hrel
      have HEQ := hideP heq
      clear heq
      by_cases hlt : k < l.length
      · have hltm : k < m.length := by rw [← HLM.out]; exact hlt
        obtain ⟨b, o, rfl, hbl, q1, q2, q3, q4⟩ := h1.below hb k _ (List.getElem?_eq_getElem hlt)
        obtain ⟨b', o', rfl, hbl', q5, q6, q7, q8⟩ := h2.below hb k _ (List.getElem?_eq_getElem hltm)
        clear h1 h2
        have HS := hideP (fun (h : l[k] = m[k]) => show l.take (k + 1) = m.take (k + 1) by rw [List.take_succ_eq_append_getElem hlt, List.take_succ_eq_append_getElem hltm, HEQ.out, h])
        have HD := hideP (fun (h : l[k] ≠ m[k]) => show l ≠ m from fun e => h (by subst e; rfl))
        generalize l[k] = p at q1 q2 q3 q4 HS HD
        generalize m[k] = r at q5 q6 q7 q8 HS HD
        have g1 : (0 : Int) ≤ (k : Int) := by omega
        have g2 : (k : Int) < (l.length : Int) := by omega
        have g3 : (k : Int) < (m.length : Int) := by omega
        have n1 := run_neq_ops p r
        have n2 := guard_ops
        cases he : opEq p r
        · have HN := hideP (HD.out fun e => by rw [opEq_iff.2 e] at he; cases he)
          rw [he] at n1
          clear he
          go_wp2_with fail
          go_quiet (fail)
          go_wp2_with fail
          go_ret
          exact ⟨by rw [sameB_false HN.out]; rfl, ⟨hb.os, hb.tape, hb.output, hb.size, hb.block⟩⟩
        · have HN := hideP (HS.out (opEq_iff.1 he))
          rw [he] at n1
          clear he
          go_wp2_with fail
          go_quiet (fail)
          go_wp2_with fail
          go_roundw
          case rel => exact ⟨k + 1, by omega, by go_num, HN.out, ⟨hb.os, hb.tape, hb.output, hb.size, hb.block⟩⟩
          case measure => simp [intOf]; omega
      · have HE := hideP (show l = m by
          have := HEQ.out
          rwa [List.take_of_length_le (by omega), List.take_of_length_le (by have := HLM.out; omega)] at this)
        go_wp2_with fail
        go_ret
        exact ⟨by rw [sameB_true HE.out]; rfl, hb⟩
  · have d0 : ((l.length : Int) != (m.length : Int)) = true := by simp; omega
    have HE := hideP (show l ≠ m from fun e => hlm (by rw [e]))
    clear hlm
    go_enter Tryz.func128, Tryz.ntmps128
    go_wp2_with fail
    go_ret
    exact ⟨by rw [sameB_false HE.out]; rfl, Below.refl _ _⟩
set_option maxHeartbeats 1000000 in
set_option maxRecDepth 100000 in
theorem samedeed_any (D1 D2 : Option Addr) (k1 k2 : Nat) (a b : List Opr) (w : World) (ha : OS w w.heap.size D1 a) (hb : OS w w.heap.size D2 b) (hl : a.length < 4611686018427387904) :
    Calls Tryz.prog 76 #[.agg #[.slice D1 a.length k1], .agg #[.slice D2 b.length k2]] w fun e w' => e = .returned (.bool (sameB a b)) ∧ Below w.heap.size w w' := by
  have h0 := ((Below.refl w.heap.size w).alloc (Nat.le_refl _) (.cells #[.slice D1 a.length k1] 40)).alloc (by simp) (.cells #[.slice D2 b.length k2] 40)
  have HQ := hideP (equalO_any D1 D2 k1 k2 a b _ (ha.go h0) (hb.go h0) hl)
  go_enter Tryz.func76, Tryz.ntmps76
  go_wp2_with fail
  refine HQ.out.mono ?_
  clear HQ
  generalize (w.alloc (.cells #[.slice D1 a.length k1] 40)).alloc (.cells #[.slice D2 b.length k2] 40) = w1 at h0 ⊢
  rintro e w2 ⟨rfl, hb2⟩
  have hb3 := h0.trans (hb2.mono h0.size)
  generalize hq : sameB a b = q at ⊢
  have HQ := hideP hq
  clear hq
  go_wp2_with fail
  go_ret
  exact ⟨by rw [HQ.out]; rfl, hb3⟩
end Go.Proofs.YtefdipjhjgmokaaGreatDoor

set_option linter.unusedVariables false
set_option linter.unusedSimpArgs false
namespace Go.Proofs.YtefdipjhjgmokaaGreatDoor
open Go.RowKit

theorem take_next_eq {α : Type} {xs ys : List α} {k : Nat} (hx : k < xs.length) (hy : k < ys.length) (h : xs.take k = ys.take k) (he : xs[k] = ys[k]) : xs.take (k + 1) = ys.take (k + 1) := by
  rw [List.take_succ_eq_append_getElem hx, List.take_succ_eq_append_getElem hy, h, he]
theorem ne_of_get {α : Type} {xs ys : List α} {k : Nat} (hx : k < xs.length) (hy : k < ys.length) (he : xs[k] ≠ ys[k]) : xs ≠ ys := fun e => by subst e; exact he rfl
def EqInv {α : Type} (w : World) (xs ys : List α) (i : Value) (wr : World) : Prop := ∃ k : Nat, k ≤ xs.length ∧ i = .int .i64 k ∧ xs.take k = ys.take k ∧ Below w.heap.size w wr

set_option maxHeartbeats 400000 in
set_option maxRecDepth 100000 in
theorem sequal_any (A1 A2 : Option Addr) (c1 c2 : Nat) (xs ys : List ByteArray) (w : World) (h1 : VS w A1 (xs.map Value.string)) (h2 : VS w A2 (ys.map Value.string)) (l1 : xs.length ≤ 9223372036854775807) (l2 : ys.length ≤ 9223372036854775807) :
    Calls Tryz.prog 123 #[.slice A1 xs.length c1, .slice A2 ys.length c2] w fun e w' => e = .returned (.bool (decide (xs = ys))) ∧ Below w.heap.size w w' := by
  by_cases hl : xs.length = ys.length
  · have d0 : ((xs.length : Int) != (ys.length : Int)) = false := by simp [hl]
    have hle : xs.length ≤ ys.length := by omega
    have HL := hideP hl
    clear hl
    go_enter Tryz.func123, Tryz.ntmps123
    go_wp2_with fail
    go_loopw [13] (EqInv w xs ys) (fun i _ => xs.length - (intOf i).toNat)
    case atStart => exact ⟨0, Nat.zero_le _, rfl, rfl, Below.refl _ _⟩
    case round =>
      obtain ⟨k, hk, rfl, heq, hb⟩ := hrel
      have HE := hideP heq
      clear heq
      by_cases hlt : k < xs.length
      · have hlt2 : k < ys.length := by omega
        obtain ⟨b, o, rfl, hbl, q1⟩ := h1.below hb k (.string xs[k]) (by simp [hlt])
        obtain ⟨b', o', rfl, hbl', q2⟩ := h2.below hb k (.string ys[k]) (by simp [hlt2])
        have HT := hideP (fun he => take_next_eq hlt hlt2 HE.out he)
        have HN := hideP (fun he => ne_of_get hlt hlt2 he)
        clear h1 h2
        generalize xs[k] = x at q1 HT HN
        generalize ys[k] = y at q2 HT HN
        have g1 : (0 : Int) ≤ (k : Int) := by omega
        have g2 : (k : Int) < (xs.length : Int) := by omega
        have g3 : (k : Int) < (ys.length : Int) := by omega
        by_cases he : x = y
        · have HT' := hideP (HT.out he)
          have d1 : (x.toList != y.toList) = false := by simp [he]
          have d2 := bytes_eq he
          clear he HT HN
          go_wp2_with fail
          go_quiet (fail)
          go_wp2_with fail
          go_roundw
          case rel => exact ⟨k + 1, by omega, by go_num, HT'.out, ⟨hb.os, hb.tape, hb.output, hb.size, hb.block⟩⟩
          case measure => simp [intOf] <;> omega
        · have HN' := hideP (HN.out he)
          have d1 : (x.toList != y.toList) = true := by unfold bne; rw [bytes_ne he]; rfl
          have d2 := bytes_ne he
          clear he HT HN
          go_wp2_with fail
          go_quiet (fail)
          go_wp2_with fail
          go_ret
          exact ⟨ret_bool (by rw [decide_eq_false HN'.out]), ⟨hb.os, hb.tape, hb.output, hb.size, hb.block⟩⟩
      · have HX := hideP (show xs = ys by have := HE.out; rwa [List.take_of_length_le (by omega), List.take_of_length_le (by have := HL.out; omega)] at this)
        go_wp2_with fail
        go_ret
        exact ⟨ret_bool (by rw [decide_eq_true HX.out]), hb⟩
  · have d0 : ((xs.length : Int) != (ys.length : Int)) = true := by simp; omega
    have HN := hideP (show xs ≠ ys from fun e => hl (by rw [e]))
    clear hl
    go_enter Tryz.func123, Tryz.ntmps123
    go_wp2_with fail
    go_ret
    exact ⟨ret_bool (by rw [decide_eq_false HN.out]), Below.refl _ _⟩

set_option maxHeartbeats 400000 in
set_option maxRecDepth 100000 in
theorem ieq_any (A1 A2 : Option Addr) (c1 c2 : Nat) (xs ys : List Int) (w : World) (h1 : IS w A1 xs) (h2 : IS w A2 ys) (l1 : xs.length ≤ 9223372036854775807) (l2 : ys.length ≤ 9223372036854775807) :
    Calls Tryz.prog 58 #[.slice A1 xs.length c1, .slice A2 ys.length c2] w fun e w' => e = .returned (.bool (decide (xs = ys))) ∧ Below w.heap.size w w' := by
  by_cases hl : xs.length = ys.length
  · have d0 : ((xs.length : Int) != (ys.length : Int)) = false := by simp [hl]
    have hle : xs.length ≤ ys.length := by omega
    have HL := hideP hl
    clear hl
    go_enter Tryz.func58, Tryz.ntmps58
    go_wp2_with fail
    go_loopw [13] (EqInv w xs ys) (fun i _ => xs.length - (intOf i).toNat)
    case atStart => exact ⟨0, Nat.zero_le _, rfl, rfl, Below.refl _ _⟩
    case round =>
      obtain ⟨k, hk, rfl, heq, hb⟩ := hrel
      have HE := hideP heq
      clear heq
      by_cases hlt : k < xs.length
      · have hlt2 : k < ys.length := by omega
        obtain ⟨b, o, rfl, hbl, q1⟩ := h1.below hb k xs[k] (List.getElem?_eq_getElem hlt)
        obtain ⟨b', o', rfl, hbl', q2⟩ := h2.below hb k ys[k] (List.getElem?_eq_getElem hlt2)
        have HT := hideP (fun he => take_next_eq hlt hlt2 HE.out he)
        have HN := hideP (fun he => ne_of_get hlt hlt2 he)
        clear h1 h2
        generalize xs[k] = x at q1 HT HN
        generalize ys[k] = y at q2 HT HN
        have g1 : (0 : Int) ≤ (k : Int) := by omega
        have g2 : (k : Int) < (xs.length : Int) := by omega
        have g3 : (k : Int) < (ys.length : Int) := by omega
        by_cases he : x = y
        · have HT' := hideP (HT.out he)
          have d1 : (x != y) = false := by simp [he]
          clear he HT HN
          go_wp2_with fail
          go_quiet (fail)
          go_wp2_with fail
          go_roundw
          case rel => exact ⟨k + 1, by omega, by go_num, HT'.out, ⟨hb.os, hb.tape, hb.output, hb.size, hb.block⟩⟩
          case measure => simp [intOf] <;> omega
        · have HN' := hideP (HN.out he)
          have d1 : (x != y) = true := by simp [he]
          clear he HT HN
          go_wp2_with fail
          go_quiet (fail)
          go_wp2_with fail
          go_ret
          exact ⟨ret_bool (by rw [decide_eq_false HN'.out]), ⟨hb.os, hb.tape, hb.output, hb.size, hb.block⟩⟩
      · have HX := hideP (show xs = ys by have := HE.out; rwa [List.take_of_length_le (by omega), List.take_of_length_le (by have := HL.out; omega)] at this)
        go_wp2_with fail
        go_ret
        exact ⟨ret_bool (by rw [decide_eq_true HX.out]), hb⟩
  · have d0 : ((xs.length : Int) != (ys.length : Int)) = true := by simp; omega
    have HN := hideP (show xs ≠ ys from fun e => hl (by rw [e]))
    clear hl
    go_enter Tryz.func58, Tryz.ntmps58
    go_wp2_with fail
    go_ret
    exact ⟨ret_bool (by rw [decide_eq_false HN.out]), Below.refl _ _⟩
end Go.Proofs.YtefdipjhjgmokaaGreatDoor

set_option linter.unusedVariables false
set_option linter.unusedSimpArgs false
namespace Go.Proofs.YtefdipjhjgmokaaGreatDoor
open Go.RowKit

set_option maxHeartbeats 400000 in
set_option maxRecDepth 100000 in
theorem samemap_any (a b : Mp) (w : World) (ha : MS w a) (hb : MS w b) :
    Calls Tryz.prog 70 #[.agg #[.slice a.A a.cs.length a.ca, .slice a.O a.os.length a.co], .agg #[.slice b.A b.cs.length b.ca, .slice b.O b.os.length b.co]] w fun e w' => e = .returned (.bool (decide (a.cs = b.cs) && decide (a.os = b.os))) ∧ Below w.heap.size w w' := by
  have b0 := ((Below.refl w.heap.size w).alloc (Nat.le_refl _) (.cells #[.slice a.A a.cs.length a.ca, .slice a.O a.os.length a.co] 34)).alloc (by simp) (.cells #[.slice b.A b.cs.length b.ca, .slice b.O b.os.length b.co] 34)
  have ha0 := ha.below b0
  have hb0 := hb.below b0
  have l1 := ha.lc
  have l2 := hb.lc
  have l3 := ha.lo
  have l4 := hb.lo
  have m1 := ha.mc
  have m2 := hb.mc
  have m3 := ha.mo
  have m4 := hb.mo
  unfold maxLen at m1 m2 m3 m4
  clear ha hb
  obtain ⟨Aa, ca, cs, Oa, co, os⟩ := a
  obtain ⟨Ab, cb, ds, Ob, cp, ps⟩ := b
  simp only at ha0 hb0 b0 l1 l2 l3 l4 m1 m2 m3 m4 ⊢
  have x0 : ((w.alloc (.cells #[.slice Aa cs.length ca, .slice Oa os.length co] 34)).alloc (.cells #[.slice Ab ds.length cb, .slice Ob ps.length cp] 34)).cell? ⟨w.heap.size, 1, none⟩ = some (.slice Oa os.length co) := by simp
  have x1 : ((w.alloc (.cells #[.slice Aa cs.length ca, .slice Oa os.length co] 34)).alloc (.cells #[.slice Ab ds.length cb, .slice Ob ps.length cp] 34)).cell? ⟨w.heap.size + 1, 1, none⟩ = some (.slice Ob ps.length cp) := by simp
  have hlt : w.heap.size + 1 < ((w.alloc (.cells #[.slice Aa cs.length ca, .slice Oa os.length co] 34)).alloc (.cells #[.slice Ab ds.length cb, .slice Ob ps.length cp] 34)).heap.size := by simp
  go_enter Tryz.func70, Tryz.ntmps70
  go_wp2_with fail
  generalize (w.alloc (.cells #[.slice Aa cs.length ca, .slice Oa os.length co] 34)).alloc (.cells #[.slice Ab ds.length cb, .slice Ob ps.length cp] 34) = w1 at b0 ha0 hb0 x0 x1 hlt ⊢
  have b1 := b0.size
  generalize hg : w.heap.size = g at x0 x1 hlt ⊢
  clear hg
  refine (sequal_any Aa Ab ca cb cs ds w1 ha0.cuts hb0.cuts (by omega) (by omega)).mono ?_
  rintro e w2 ⟨rfl, hb2⟩
  have hb3 := b0.trans (hb2.mono b0.size)
  have y0 := (hb2.cell (p := ⟨g, 1, none⟩) (show g < _ by omega)).trans x0
  have y1 := (hb2.cell (p := ⟨g + 1, 1, none⟩) hlt).trans x1
  have o0 := ha0.own.below hb2
  have o1 := hb0.own.below hb2
  have HQ := hideP (ieq_any Oa Ob co cp os ps w2 o0 o1 (by omega) (by omega))
  clear ha0 hb0 x0 x1 hlt o0 o1
  generalize hp1 : decide (cs = ds) = p1 at ⊢
  generalize hp2 : decide (os = ps) = p2 at HQ
  have HP1 := hideP hp1
  have HP2 := hideP hp2
  clear hp1 hp2
  cases p1
  · go_wp2_with fail
    go_ret
    exact ⟨ret_bool (by rw [HP1.out]; rfl), hb3⟩
  · go_wp2_with fail
    refine HQ.out.mono ?_
    rintro e w3 ⟨rfl, hb4⟩
    have hb5 := hb3.trans (hb4.mono (Nat.le_trans b0.size hb2.size))
    go_wp2_with fail
    go_ret
    exact ⟨ret_bool (by rw [HP1.out, HP2.out]; rfl), hb5⟩
end Go.Proofs.YtefdipjhjgmokaaGreatDoor

set_option linter.unusedVariables false
set_option linter.unusedSimpArgs false
namespace Go.Proofs.YtefdipjhjgmokaaGreatDoor
open Go.RowKit

/-- are two entries the same? -/
noncomputable def sameE (x y : Em) : Bool := (x.isM == y.isM) && (sameB x.d y.d && (decide (x.m.cs = y.m.cs) && decide (x.m.os = y.m.os)))
set_option maxHeartbeats 2000000 in
set_option maxRecDepth 100000 in
theorem sameent_any (x y : Em) (w : World) (hx : ES w x) (hy : ES w y) (hl : x.d.length < 4611686018427387904) :
    Calls Tryz.prog 28 #[emV x, emV y] w fun e w' => e = .returned (.bool (sameE x y)) ∧ Below w.heap.size w w' := by
  have b0 := ((Below.refl w.heap.size w).alloc (Nat.le_refl _) (.cells (emC x) 42)).alloc (by simp) (.cells (emC y) 42)
  have x0 := (Box.new w 42 (emC x)).alloc (.cells (emC y) 42)
  have x1 := Box.new (w.alloc (.cells (emC x) 42)) 42 (emC y)
  simp only [World.size_alloc] at x1
  have hx1 := hx.below b0
  have hy1 := hy.below b0
  have HS := hideP (fun W (h1 : ES W x) (h2 : ES W y) => samedeed_any x.D y.D x.c y.c x.d y.d W h1.ops h2.ops hl)
  have HM := hideP (fun W (h1 : ES W x) (h2 : ES W y) => samemap_any x.m y.m W h1.map h2.map)
  generalize hs : sameE x y = sq
  unfold sameE at hs
  have HE : Hid (_ = sq) := hideP hs
  clear hs hx hy
  generalize sameB x.d y.d = q1 at HS HE
  generalize (decide (x.m.cs = y.m.cs) && decide (x.m.os = y.m.os)) = q2 at HM HE
  unfold emV
  have c0 := x0.cell 0 (v := .slice x.D x.d.length x.c) rfl
  have c1 := x0.cell 1 (v := .bool x.isM) rfl
  have c2 := x0.cell 2 (v := .slice x.m.A x.m.cs.length x.m.ca) rfl
  have c3 := x0.cell 3 (v := .slice x.m.O x.m.os.length x.m.co) rfl
  have d0 := x1.cell 0 (v := .slice y.D y.d.length y.c) rfl
  have d1 := x1.cell 1 (v := .bool y.isM) rfl
  have d2 := x1.cell 2 (v := .slice y.m.A y.m.cs.length y.m.ca) rfl
  have d3 := x1.cell 3 (v := .slice y.m.O y.m.os.length y.m.co) rfl
  unfold emC at *
  go_enter Tryz.func28, Tryz.ntmps28
  generalize hq0 : (x.isM == y.isM) = q0 at HE
  have k0 := x0.lt
  have k1 := x1.lt
  cases q0
  · have HR := hideP (show sq = false by rw [← HE.out]; rfl)
    clear HE HS HM
    go_wp2_with fail
    go_ret
    exact ⟨by rw [HR.out]; rfl, b0⟩
  · go_wp2_with fail
    refine (HS.out _ hx1 hy1).mono ?_
    rintro e w2 ⟨rfl, hb2⟩
    have b2 := b0.trans (hb2.mono b0.size)
    have x02 := x0.below hb2
    have x12 := x1.below hb2
    have hx2 := hx1.below hb2
    have hy2 := hy1.below hb2
    clear HS c0 c1 c2 c3 d0 d1 d2 d3
    have c2 := x02.cell 2 (v := .slice x.m.A x.m.cs.length x.m.ca) rfl
    have c3 := x02.cell 3 (v := .slice x.m.O x.m.os.length x.m.co) rfl
    have d2 := x12.cell 2 (v := .slice y.m.A y.m.cs.length y.m.ca) rfl
    have d3 := x12.cell 3 (v := .slice y.m.O y.m.os.length y.m.co) rfl
    cases q1
    · have HR := hideP (show sq = false by rw [← HE.out]; rfl)
      clear HE HM
      go_wp2_with fail
      go_ret
      exact ⟨by rw [HR.out]; rfl, b2⟩
    · have HR := hideP (show sq = q2 by rw [← HE.out]; rfl)
      clear HE
      have HM2 := hideP (HM.out w2 hx2 hy2)
      clear HM
      go_wp2_with fail
      refine HM2.out.mono ?_
      rintro e w3 ⟨rfl, hb3⟩
      have b3 := b2.trans (hb3.mono b2.size)
      go_wp2_with fail
      go_ret
      exact ⟨by rw [HR.out]; rfl, b3⟩
end Go.Proofs.YtefdipjhjgmokaaGreatDoor

set_option linter.unusedVariables false
set_option linter.unusedSimpArgs false
namespace Go.Proofs.YtefdipjhjgmokaaGreatDoor
open Go.RowKit

theorem sameE_iff {x y : Em} : sameE x y = true ↔ entOf x = entOf y := by
  obtain ⟨D, c, d, isM, ⟨A, ca, cs, O, co, os⟩⟩ := x
  obtain ⟨D', c', d', isM', ⟨A', ca', cs', O', co', os'⟩⟩ := y
  unfold sameE sameB entOf
  simp only [Bool.and_eq_true, beq_iff_eq, decide_eq_true_eq, Ent.mk.injEq]
/-- do two lists read alike? -/
noncomputable def sameL (l m : List Em) : Bool := @decide (l.map entOf = m.map entOf) (Classical.propDecidable _)
theorem sameL_true {l m : List Em} (h : l.map entOf = m.map entOf) : sameL l m = true := by unfold sameL; exact @decide_eq_true _ (Classical.propDecidable _) h
theorem sameL_false {l m : List Em} (h : l.map entOf ≠ m.map entOf) : sameL l m = false := by unfold sameL; exact @decide_eq_false _ (Classical.propDecidable _) h
set_option maxHeartbeats 2000000 in
set_option maxRecDepth 100000 in
theorem eqfE_any (A1 A2 : Option Addr) (c1 c2 : Nat) (l m : List Em) (w : World) (h1 : EL w A1 l) (h2 : EL w A2 m) (hl : ∀ x ∈ l, x.d.length < 4611686018427387904) (hll : l.length < 4611686018427387904) :
    Calls Tryz.prog 39 #[.slice A1 l.length c1, .slice A2 m.length c2, .func (.func 28) #[] #[]] w fun e w' => e = .returned (.bool (sameL l m)) ∧ Below w.heap.size w w' := by
  by_cases hlen : l.length = m.length
  · have d0 : ((l.length : Int) != (m.length : Int)) = false := by simp [hlen]
    have HLE := hideP hlen
    clear hlen
    go_enter Tryz.func39, Tryz.ntmps39
    go_wp2_with fail
    go_loopw [17] (fun i wr => ∃ k : Nat, k ≤ l.length ∧ i = .int .i64 k ∧ (l.take k).map entOf = (m.take k).map entOf ∧ Below w.heap.size w wr) (fun i _ => l.length - (intOf i).toNat)
    case atStart => exact ⟨0, Nat.zero_le _, rfl, rfl, Below.refl _ _⟩
    case round =>
      obtain ⟨k, hk, rfl, heq, hb⟩ := hrel
      have HEQ := hideP heq
      clear heq
      by_cases hlt : k < l.length
      · have hlm : k < m.length := by rw [← HLE.out]; exact hlt
        have e1 := h1.below hb
        have e2 := h2.below hb
        obtain ⟨b1, o1, hA1, hb1, p0, p1, p2, p3⟩ := e1.cells k l[k] (List.getElem?_eq_getElem hlt)
        obtain ⟨b2, o2, hA2, hb2, q0, q1, q2, q3⟩ := e2.cells k m[k] (List.getElem?_eq_getElem hlm)
        have hx := e1.es _ (List.getElem_mem hlt)
        have hy := e2.es _ (List.getElem_mem hlm)
        have hxl := hl _ (List.getElem_mem hlt)
        subst hA1
        subst hA2
        have HT := hideP (fun (h : entOf l[k] = entOf m[k]) => show (l.take (k + 1)).map entOf = (m.take (k + 1)).map entOf by
          rw [List.take_succ_eq_append_getElem hlt, List.take_succ_eq_append_getElem hlm, List.map_append, List.map_append, HEQ.out]; simp [h])
        have HF := hideP (fun (h : entOf l[k] ≠ entOf m[k]) => show sameL l m = false from sameL_false fun e => h (by
          have := congrArg (fun z => z[k]?) e
          simp only [List.getElem?_map, List.getElem?_eq_getElem hlt, List.getElem?_eq_getElem hlm, Option.map_some, Option.some.injEq] at this
          exact this))
        generalize l[k] = x at p0 p1 p2 p3 hx hxl HT HF
        generalize m[k] = y at q0 q1 q2 q3 hy HT HF
        have al := ((Below.refl wr.heap.size wr).alloc (Nat.le_refl _) (.cells (emC x) 42)).alloc (by simp) (.cells (emC y) 42)
        have bE := hb.trans (al.mono hb.size)
        have x0 := (Box.new wr 42 (emC x)).alloc (.cells (emC y) 42)
        have x1 := Box.new (wr.alloc (.cells (emC x) 42)) 42 (emC y)
        simp only [World.size_alloc] at x1
        have HS := hideP (sameent_any x y _ (hx.below al) (hy.below al) hxl)
        have c0 := x0.cell 0 (v := .slice x.D x.d.length x.c) rfl
        have c1 := x0.cell 1 (v := .bool x.isM) rfl
        have c2 := x0.cell 2 (v := .slice x.m.A x.m.cs.length x.m.ca) rfl
        have c3 := x0.cell 3 (v := .slice x.m.O x.m.os.length x.m.co) rfl
        have d0 := x1.cell 0 (v := .slice y.D y.d.length y.c) rfl
        have d1 := x1.cell 1 (v := .bool y.isM) rfl
        have d2 := x1.cell 2 (v := .slice y.m.A y.m.cs.length y.m.ca) rfl
        have d3 := x1.cell 3 (v := .slice y.m.O y.m.os.length y.m.co) rfl
        have g1 : (0 : Int) ≤ (k : Int) := by omega
        have g2 : (k : Int) < (l.length : Int) := by omega
        have g3 : (k : Int) < (m.length : Int) := by omega
        clear h1 h2 e1 e2 hx hy al x0 x1 HLE hl hxl
        unfold emV at HS
        unfold emC at HS c0 c1 c2 c3 d0 d1 d2 d3 bE
        go_wp2_with fail
        refine HS.out.mono ?_
        clear HS
        rintro e w2 ⟨rfl, hbn⟩
        have b2 := bE.trans (hbn.mono bE.size)
        cases hs : sameE x y
        · have HR := hideP (HF.out fun e => by rw [sameE_iff.2 e] at hs; cases hs)
          clear hs
          go_wp2_with fail
          go_ret
          exact ⟨by rw [HR.out]; rfl, b2⟩
        · have HR := hideP (HT.out (sameE_iff.1 hs))
          clear hs
          go_wp2_with fail
          go_roundw
          case rel => exact ⟨k + 1, by omega, by go_num, HR.out, b2⟩
          case measure => simp [intOf]; omega
      · have HR := hideP (show sameL l m = true from sameL_true (by have := HEQ.out; rw [List.take_of_length_le (by omega), List.take_of_length_le (by have := HLE.out; omega)] at this; exact this))
        go_wp2_with fail
        go_ret
        exact ⟨by rw [HR.out]; rfl, hb⟩
  · have d0 : ((l.length : Int) != (m.length : Int)) = true := by simp; omega
    have HR := hideP (show sameL l m = false from sameL_false fun e => hlen (by have := congrArg List.length e; simpa using this))
    clear hlen
    go_enter Tryz.func39, Tryz.ntmps39
    go_wp2_with fail
    go_ret
    exact ⟨by rw [HR.out]; rfl, Below.refl _ _⟩
end Go.Proofs.YtefdipjhjgmokaaGreatDoor
