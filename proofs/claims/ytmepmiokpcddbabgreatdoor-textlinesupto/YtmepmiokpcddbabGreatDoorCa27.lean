/-
  text.Log: what it answers.
  slices.Equal of operations, and roref.SameDeed.
  slices.Equal at strings and at ints, whatever the two slices hold.
  roref.SameMap.
-/
import Derived.Test.YtmepmiokpcddbabGreatDoorCa18
import Derived.Test.YtmepmiokpcddbabGreatDoorCa26
import Derived.Test.YtmepmiokpcddbabGreatDoorCa5
import Derived.Test.YtmepmiokpcddbabGreatDoorCa4
import Derived.Laws.StructEq
import Derived.WalkKit
import Derived.WalkSpells
import Derived.WalkLawsBesides
import Derived.Deep.QuietTactic
import Derived.BigQuiet
import Derived.Test.YtmepmiokpcddbabGreatDoorCa1
set_option linter.unusedVariables false
set_option linter.unusedSimpArgs false
namespace Go.Proofs.YtmepmiokpcddbabGreatDoor
open Go.RowKit
open Go.Lib hiding intOf

/-- what Log hands back -/
def RetLg (w : World) (l : List UInt8) (e : Ending) (w' : World) : Prop :=
  ∃ (q : Int) (A : Option Addr) (c : Nat) (xs : List Em) (k : Nat), LogIs l q (xs.map entOf) k ∧ e = .returned (.tuple #[.slice A xs.length c, .int .i64 (k : Nat), .int .i64 q]) ∧ EW w' w.heap.size A c xs ∧ Below w.heap.size w w'
/-- while the lines are read -/
def LgI (w : World) (l : List UInt8) (s i : Value) (wr : World) : Prop :=
  ∃ (A : Option Addr) (c : Nat) (xs : List Em) (k : Nat), s = .slice A xs.length c ∧ i = .int .i64 (k : Nat) ∧ LogTo l (xs.map entOf) k ∧ EW wr w.heap.size A c xs ∧ Below w.heap.size w wr
set_option maxHeartbeats 2000000 in
set_option maxRecDepth 100000 in
theorem log_any (s : ByteArray) (w : World) (hg : Gl w) :
    Calls Tryz.prog 20 #[.string s] w (RetLg w s.data.toList) := by
  have hsl : s.data.toList.length = s.size := by simp
  by_cases hbig : 20000 < s.size
  · have g1 : (20000 : Int) < (s.size : Int) := by omega
    have HL := hideP (show LogIs s.data.toList 2 (([] : List Em).map entOf) 0 from .large (by omega))
    clear hsl
    go_enter Tryz.func20, Tryz.ntmps20
    go_wp2_with fail
    go_ret3
    exact ⟨2, none, 0, [], 0, HL.out, rfl, EW.nil _ _, Below.refl _ _⟩
  · have g1 : ¬ (20000 : Int) < (s.size : Int) := by omega
    have HLE := hideP (show s.data.toList.length ≤ 20000 by omega)
    have HSL := hideP hsl
    have hs2 : s.size ≤ 20000 := by omega
    clear hsl hbig
    go_enter Tryz.func20, Tryz.ntmps20
    go_wp2_with fail
    go_loopw [5, 6] (LgI w s.data.toList) (fun _ i _ => s.size + 1 - (intOf i).toNat)
    case atStart => exact ⟨none, 0, [], 0, rfl, rfl, .nil, EW.nil _ _, Below.refl _ _⟩
    case round =>
      obtain ⟨A, c, xs, k, rfl, rfl, hto, hW, hb⟩ := hrel
      have hkl := hto.le
      have hrm := hto.room
      rw [HSL.out] at hkl
      rw [List.length_map] at hrm
      have g2 : (0 : Int) ≤ (k : Int) := by omega
      have g3 : (k : Int) ≤ (s.size : Int) := by omega
      have hxl : xs.length ≤ 20000 := by omega
      have hsz : (s.extract k s.size).size < 4294967281 := by
        have h1 : (s.extract k s.size).data.toList.length = (s.extract k s.size).size := by simp
        rw [ext_drop1, List.length_drop] at h1
        have := HSL.out
        omega
      have HR := hideP (rdentry_any (s.extract k s.size) wr (hg.below hb) hsz)
      unfold RetRe at HR
      rw [ext_drop1] at HR
      have hlen := fun x n (h : rdE (s.data.toList.drop k) = (0, x, n)) => rdE_len h
      rw [List.length_drop, HSL.out] at hlen
      obtain ⟨q, en, n, hq⟩ : ∃ q en n, rdE (s.data.toList.drop k) = (q, en, n) := ⟨_, _, _, rfl⟩
      rw [hq] at HR hlen
      have HQ := hideP hq
      have HT := hideP hto
      clear hq hto hrm hsz
      simp only at HR
      go_wp2_with fail
      refine HR.out.mono ?_
      clear HR
      rintro e w2 ⟨x, rfl, hx, hbd, heo, hb2⟩
      have b2 := hb.trans (hb2.mono hb.size)
      have hW2 := hW.below hb2
      have HX := hideP hx
      clear hx hW
      by_cases h7 : q = 7
      · subst h7
        have HL := hideP (LogIs.ok HLE.out HT.out (by rw [HQ.out]))
        have al := b2.alloc b2.size (.cells (emC x) 45)
        have hW3 := hW2.below ((Below.refl w2.heap.size w2).alloc (Nat.le_refl _) (.cells (emC x) 45))
        clear HX heo hbd hlen
        obtain ⟨D, cd, d, isM, ⟨A2, ca, cs, O, co, os⟩⟩ := x
        unfold emV
        unfold emC at al hW3 ⊢
        simp only at al hW3 ⊢
        go_wp2_with fail
        go_ret3
        exact ⟨0, A, c, xs, k, HL.out, rfl, hW3, al⟩
      · by_cases h0 : q = 0
        · subst h0
          obtain ⟨hn2, hnl⟩ := hlen en n rfl
          have HT2 := hideP (HT.out.snoc HQ.out)
          have al := (Below.refl w2.heap.size w2).alloc (Nat.le_refl _) (.cells (emC x) 45)
          have b3 := b2.alloc b2.size (.cells (emC x) 45)
          have hW3 := hW2.below al
          have heo3 := (heo.below al).mono hb.size
          have xe := Box.new w2 45 (emC x)
          obtain ⟨A', c', w4, hrun, hW4, _, hbel, _⟩ := app_ent _ w.heap.size 49 A c xs hW3 x heo3 hbd (by omega) b3.size
          have b4 := hbel _ _ (Nat.le_refl _) b3
          simp only [World.size_alloc] at hrun
          have HRN := hideP hrun
          have g4 : IntKind.i64.wrap ((k : Int) + (n : Int)) = (k : Int) + (n : Int) := by simp only [IntKind.wrap_i64]; omega
          have HXE := hideP (show (xs ++ [x]).map entOf = xs.map entOf ++ [en] by rw [List.map_append, HX.out]; rfl)
          clear hrun hW3 heo3 heo hbel al b3 hbd hb2 hW2 hlen HX
          generalize hxx : xs ++ [x] = xx at HRN hW4 HXE
          clear hxx
          obtain ⟨D, cd, d, isM, ⟨A2, ca, cs, O, co, os⟩⟩ := x
          unfold emV
          unfold emC at xe HRN ⊢
          simp only at xe HRN ⊢
          have e0 := xe.cell 0 (v := .slice D d.length cd) rfl
          have e1 := xe.cell 1 (v := .bool isM) rfl
          have e2 := xe.cell 2 (v := .slice A2 cs.length ca) rfl
          have e3 := xe.cell 3 (v := .slice O os.length co) rfl
          clear xe
          go_wp2_with (at_builtin; refine Lib.wpList_append_run _ rfl _ _ _ _ rfl _ _ rfl rfl _ _ HRN.out ?_)
          go_roundw
          case rel => exact ⟨A', c', xx, k + n, rfl, by go_num, by rw [HXE.out]; exact HT2.out, hW4, b4⟩
          case measure => simp [intOf]; omega
        · have HL := hideP (show LogIs s.data.toList q (([] : List Em).map entOf) 0 from LogIs.bad HLE.out HT.out (by rw [HQ.out]) h0 h7)
          have al := b2.alloc b2.size (.cells (emC x) 45)
          have d1 : (q == 7) = false := by simpa using h7
          have d2 : (q != 0) = true := by simpa using h0
          clear HX heo hbd hlen HQ h7 h0
          obtain ⟨D, cd, d, isM, ⟨A2, ca, cs, O, co, os⟩⟩ := x
          unfold emV
          unfold emC at al ⊢
          simp only at al ⊢
          go_wp2_with fail
          go_ret3
          exact ⟨q, none, 0, [], 0, HL.out, rfl, EW.nil _ _, al⟩
end Go.Proofs.YtmepmiokpcddbabGreatDoor

set_option linter.unusedVariables false
set_option linter.unusedSimpArgs false
namespace Go.Proofs.YtmepmiokpcddbabGreatDoor
open Go.RowKit

noncomputable def sameB (a b : List Opr) : Bool := @decide (a = b) (Classical.propDecidable _)
theorem sameB_true {a b : List Opr} (h : a = b) : sameB a b = true := by unfold sameB; exact @decide_eq_true _ (Classical.propDecidable _) h
theorem sameB_false {a b : List Opr} (h : a ≠ b) : sameB a b = false := by unfold sameB; exact @decide_eq_false _ (Classical.propDecidable _) h
def opEq (p q : Opr) : Bool := p.kind == q.kind && (p.key.toList == q.key.toList && (p.src.toList == q.src.toList && p.n == q.n))
theorem opB_ext {a b : ByteArray} (h : a.data.toList = b.data.toList) : a = b := by
  cases a with | mk a => cases b with | mk b => simp at h; rw [h]
theorem opEq_iff {p q : Opr} : opEq p q = true ↔ p = q := by
  obtain ⟨a, b, c, d⟩ := p
  obtain ⟨a', b', c', d'⟩ := q
  simp only [opEq, Bool.and_eq_true, beq_iff_eq, Opr.mk.injEq]
  constructor
  · rintro ⟨h1, h2, h3, h4⟩
    rw [ByteArray.toList_eq, ByteArray.toList_eq] at h2 h3
    exact ⟨h1, opB_ext h2, opB_ext h3, h4⟩
  · rintro ⟨h1, h2, h3, h4⟩
    exact ⟨h1, by rw [h2], by rw [h3], h4⟩
theorem run_neq_ops (p q : Opr) (w : World) : (binOp .neq 93 (.agg #[.int .i64 p.kind, .string p.key, .string p.src, .int .i64 p.n]) (.agg #[.int .i64 q.kind, .string q.key, .string q.src, .int .i64 q.n])).run Tryz.prog w = .ok (.bool (!opEq p q)) w := by
  have u3 := Tryz.underlying3
  have u9 := Tryz.underlying9
  have a3 := Tryz.isAgg3
  have z3 := Tryz.sizeOf3
  have a9 := Tryz.isAgg9
  have z9 := Tryz.sizeOf9
  have hS : Tryz.prog.underlying 93 = some (.struct (Tryz.prog.fieldsOf 93)) := by kernel_rfl
  have hp : Tryz.prog.stoodInHeld 93 = false := by kernel_rfl
  rw [run_neq_struct, show (10000 : Nat) = 9999 + 1 from rfl, run_equalIn_agg w 9999 93 _ _ hS hp]
  simp only [Program.fieldsOf, Tryz.underlying93]
  unfold opEq
  generalize hx1 : (p.kind == q.kind) = x1
  generalize hx2 : (p.key.toList == q.key.toList) = x2
  generalize hx3 : (p.src.toList == q.src.toList) = x3
  generalize hx4 : (p.n == q.n) = x4
  cases x1 <;> cases x2 <;> cases x3 <;> cases x4 <;> go_simp <;> simp [hx1, hx2, hx3, hx4]
theorem guard_ops (x y : Operand) (xs ys : Array Value) (w : World) : (eqGuard .neq 93 x y (.agg xs) (.agg ys)).run Tryz.prog w = .ok () w := run_eqGuard_agg w .neq 93 x y xs ys (by kernel_rfl)
set_option maxHeartbeats 1000000 in
set_option maxRecDepth 100000 in
theorem equalO_any (A1 A2 : Option Addr) (c1 c2 : Nat) (l m : List Opr) (w : World) (h1 : OS w w.heap.size A1 l) (h2 : OS w w.heap.size A2 m) (hl : l.length < 4611686018427387904) :
    Calls Tryz.prog 56 #[.slice A1 l.length c1, .slice A2 m.length c2] w fun e w' => e = .returned (.bool (sameB l m)) ∧ Below w.heap.size w w' := by
  by_cases hlm : l.length = m.length
  · have d0 : ((l.length : Int) != (m.length : Int)) = false := by simp; omega
    have HLM := hideP hlm
    clear hlm
    go_enter Tryz.func56, Tryz.ntmps56
    go_wp2_with fail
    go_loopw [13] (fun i wr => ∃ k : Nat, k ≤ l.length ∧ i = .int .i64 k ∧ l.take k = m.take k ∧ Below w.heap.size w wr) (fun i _ => l.length - (intOf i).toNat)
    case atStart => exact ⟨0, Nat.zero_le _, rfl, rfl, Below.refl _ _⟩
    case round =>
      obtain ⟨k, hk, rfl, heq, hb⟩ := hrel
      have HEQ := hideP heq
      clear heq
      by_cases hlt : k < l.length
      · have hltm : k < m.length := by rw [← HLM.out]; exact hlt
        obtain ⟨b, o, rfl, hbl, q1, q2, q3, q4⟩ := h1.below hb k _ (List.getElem?_eq_getElem hlt)
        obtain ⟨b', o', rfl, hbl', q5, q6, q7, q8⟩ := h2.below hb k _ (List.getElem?_eq_getElem hltm)
        clear h1 h2
        have HS := hideP (fun (h : l[k] = m[k]) => show l.take (k + 1) = m.take (k + 1) by rw [List.take_succ_eq_append_getElem hlt, List.take_succ_eq_append_getElem hltm, HEQ.out, h])
        have HD := hideP (fun (h : l[k] ≠ m[k]) => show l ≠ m from fun e => h (by subst e; rfl))
        generalize l[k] = p at q1 q2 q3 q4 HS HD
        generalize m[k] = r at q5 q6 q7 q8 HS HD
        have g1 : (0 : Int) ≤ (k : Int) := by omega
        have g2 : (k : Int) < (l.length : Int) := by omega
        have g3 : (k : Int) < (m.length : Int) := by omega
        have n1 := run_neq_ops p r
        have n2 := guard_ops
        cases he : opEq p r
        · have HN := hideP (HD.out fun e => by rw [opEq_iff.2 e] at he; cases he)
          rw [he] at n1
          clear he
          go_wp2_with fail
          go_quiet (fail)
          go_wp2_with fail
          go_ret
          exact ⟨by rw [sameB_false HN.out]; rfl, ⟨hb.os, hb.tape, hb.output, hb.size, hb.block⟩⟩
        · have HN := hideP (HS.out (opEq_iff.1 he))
          rw [he] at n1
          clear he
          go_wp2_with fail
          go_quiet (fail)
          go_wp2_with fail
          go_roundw
          case rel => exact ⟨k + 1, by omega, by go_num, HN.out, ⟨hb.os, hb.tape, hb.output, hb.size, hb.block⟩⟩
          case measure => simp [intOf]; omega
      · have HE := hideP (show l = m by
          have := HEQ.out
          rwa [List.take_of_length_le (by omega), List.take_of_length_le (by have := HLM.out; omega)] at this)
        go_wp2_with fail
        go_ret
        exact ⟨by rw [sameB_true HE.out]; rfl, hb⟩
  · have d0 : ((l.length : Int) != (m.length : Int)) = true := by simp; omega
    have HE := hideP (show l ≠ m from fun e => hlm (by rw [e]))
    clear hlm
    go_enter Tryz.func56, Tryz.ntmps56
    go_wp2_with fail
    go_ret
    exact ⟨by rw [sameB_false HE.out]; rfl, Below.refl _ _⟩
set_option maxHeartbeats 1000000 in
set_option maxRecDepth 100000 in
theorem samedeed_any (D1 D2 : Option Addr) (k1 k2 : Nat) (a b : List Opr) (w : World) (ha : OS w w.heap.size D1 a) (hb : OS w w.heap.size D2 b) (hl : a.length < 4611686018427387904) :
    Calls Tryz.prog 17 #[.agg #[.slice D1 a.length k1], .agg #[.slice D2 b.length k2]] w fun e w' => e = .returned (.bool (sameB a b)) ∧ Below w.heap.size w w' := by
  have h0 := ((Below.refl w.heap.size w).alloc (Nat.le_refl _) (.cells #[.slice D1 a.length k1] 24)).alloc (by simp) (.cells #[.slice D2 b.length k2] 24)
  have HQ := hideP (equalO_any D1 D2 k1 k2 a b _ (ha.go h0) (hb.go h0) hl)
  go_enter Tryz.func17, Tryz.ntmps17
  go_wp2_with fail
  refine HQ.out.mono ?_
  clear HQ
  generalize (w.alloc (.cells #[.slice D1 a.length k1] 24)).alloc (.cells #[.slice D2 b.length k2] 24) = w1 at h0 ⊢
  rintro e w2 ⟨rfl, hb2⟩
  have hb3 := h0.trans (hb2.mono h0.size)
  generalize hq : sameB a b = q at ⊢
  have HQ := hideP hq
  clear hq
  go_wp2_with fail
  go_ret
  exact ⟨by rw [HQ.out]; rfl, hb3⟩
end Go.Proofs.YtmepmiokpcddbabGreatDoor

set_option linter.unusedVariables false
set_option linter.unusedSimpArgs false
namespace Go.Proofs.YtmepmiokpcddbabGreatDoor
open Go.RowKit

theorem take_next_eq {α : Type} {xs ys : List α} {k : Nat} (hx : k < xs.length) (hy : k < ys.length) (h : xs.take k = ys.take k) (he : xs[k] = ys[k]) : xs.take (k + 1) = ys.take (k + 1) := by
  rw [List.take_succ_eq_append_getElem hx, List.take_succ_eq_append_getElem hy, h, he]
theorem ne_of_get {α : Type} {xs ys : List α} {k : Nat} (hx : k < xs.length) (hy : k < ys.length) (he : xs[k] ≠ ys[k]) : xs ≠ ys := fun e => by subst e; exact he rfl
def EqInv {α : Type} (w : World) (xs ys : List α) (i : Value) (wr : World) : Prop := ∃ k : Nat, k ≤ xs.length ∧ i = .int .i64 k ∧ xs.take k = ys.take k ∧ Below w.heap.size w wr

set_option maxHeartbeats 400000 in
set_option maxRecDepth 100000 in
theorem sequal_any (A1 A2 : Option Addr) (c1 c2 : Nat) (xs ys : List ByteArray) (w : World) (h1 : VS w A1 (xs.map Value.string)) (h2 : VS w A2 (ys.map Value.string)) (l1 : xs.length ≤ 9223372036854775807) (l2 : ys.length ≤ 9223372036854775807) :
    Calls Tryz.prog 71 #[.slice A1 xs.length c1, .slice A2 ys.length c2] w fun e w' => e = .returned (.bool (decide (xs = ys))) ∧ Below w.heap.size w w' := by
  by_cases hl : xs.length = ys.length
  · have d0 : ((xs.length : Int) != (ys.length : Int)) = false := by simp [hl]
    have hle : xs.length ≤ ys.length := by omega
    have HL := hideP hl
    clear hl
    go_enter Tryz.func71, Tryz.ntmps71
    go_wp2_with fail
    go_loopw [13] (EqInv w xs ys) (fun i _ => xs.length - (intOf i).toNat)
    case atStart => exact ⟨0, Nat.zero_le _, rfl, rfl, Below.refl _ _⟩
    case round =>
      obtain ⟨k, hk, rfl, heq, hb⟩ := hrel
      have HE := hideP heq
      clear heq
      by_cases hlt : k < xs.length
      · have hlt2 : k < ys.length := by omega
        obtain ⟨b, o, rfl, hbl, q1⟩ := h1.below hb k (.string xs[k]) (by simp [hlt])
        obtain ⟨b', o', rfl, hbl', q2⟩ := h2.below hb k (.string ys[k]) (by simp [hlt2])
        have HT := hideP (fun he => take_next_eq hlt hlt2 HE.out he)
        have HN := hideP (fun he => ne_of_get hlt hlt2 he)
        clear h1 h2
        generalize xs[k] = x at q1 HT HN
        generalize ys[k] = y at q2 HT HN
        have g1 : (0 : Int) ≤ (k : Int) := by omega
        have g2 : (k : Int) < (xs.length : Int) := by omega
        have g3 : (k : Int) < (ys.length : Int) := by omega
        by_cases he : x = y
        · have HT' := hideP (HT.out he)
          have d1 : (x.toList != y.toList) = false := by simp [he]
          have d2 := bytes_eq he
          clear he HT HN
          go_wp2_with fail
          go_quiet (fail)
          go_wp2_with fail
          go_roundw
          case rel => exact ⟨k + 1, by omega, by go_num, HT'.out, ⟨hb.os, hb.tape, hb.output, hb.size, hb.block⟩⟩
          case measure => simp [intOf] <;> omega
        · have HN' := hideP (HN.out he)
          have d1 : (x.toList != y.toList) = true := by unfold bne; rw [bytes_ne he]; rfl
          have d2 := bytes_ne he
          clear he HT HN
          go_wp2_with fail
          go_quiet (fail)
          go_wp2_with fail
          go_ret
          exact ⟨ret_bool (by rw [decide_eq_false HN'.out]), ⟨hb.os, hb.tape, hb.output, hb.size, hb.block⟩⟩
      · have HX := hideP (show xs = ys by have := HE.out; rwa [List.take_of_length_le (by omega), List.take_of_length_le (by have := HL.out; omega)] at this)
        go_wp2_with fail
        go_ret
        exact ⟨ret_bool (by rw [decide_eq_true HX.out]), hb⟩
  · have d0 : ((xs.length : Int) != (ys.length : Int)) = true := by simp; omega
    have HN := hideP (show xs ≠ ys from fun e => hl (by rw [e]))
    clear hl
    go_enter Tryz.func71, Tryz.ntmps71
    go_wp2_with fail
    go_ret
    exact ⟨ret_bool (by rw [decide_eq_false HN.out]), Below.refl _ _⟩

set_option maxHeartbeats 400000 in
set_option maxRecDepth 100000 in
theorem ieq_any (A1 A2 : Option Addr) (c1 c2 : Nat) (xs ys : List Int) (w : World) (h1 : IS w A1 xs) (h2 : IS w A2 ys) (l1 : xs.length ≤ 9223372036854775807) (l2 : ys.length ≤ 9223372036854775807) :
    Calls Tryz.prog 72 #[.slice A1 xs.length c1, .slice A2 ys.length c2] w fun e w' => e = .returned (.bool (decide (xs = ys))) ∧ Below w.heap.size w w' := by
  by_cases hl : xs.length = ys.length
  · have d0 : ((xs.length : Int) != (ys.length : Int)) = false := by simp [hl]
    have hle : xs.length ≤ ys.length := by omega
    have HL := hideP hl
    clear hl
    go_enter Tryz.func72, Tryz.ntmps72
    go_wp2_with fail
    go_loopw [13] (EqInv w xs ys) (fun i _ => xs.length - (intOf i).toNat)
    case atStart => exact ⟨0, Nat.zero_le _, rfl, rfl, Below.refl _ _⟩
    case round =>
      obtain ⟨k, hk, rfl, heq, hb⟩ := hrel
      have HE := hideP heq
      clear heq
      by_cases hlt : k < xs.length
      · have hlt2 : k < ys.length := by omega
        obtain ⟨b, o, rfl, hbl, q1⟩ := h1.below hb k xs[k] (List.getElem?_eq_getElem hlt)
        obtain ⟨b', o', rfl, hbl', q2⟩ := h2.below hb k ys[k] (List.getElem?_eq_getElem hlt2)
        have HT := hideP (fun he => take_next_eq hlt hlt2 HE.out he)
        have HN := hideP (fun he => ne_of_get hlt hlt2 he)
        clear h1 h2
        generalize xs[k] = x at q1 HT HN
        generalize ys[k] = y at q2 HT HN
        have g1 : (0 : Int) ≤ (k : Int) := by omega
        have g2 : (k : Int) < (xs.length : Int) := by omega
        have g3 : (k : Int) < (ys.length : Int) := by omega
        by_cases he : x = y
        · have HT' := hideP (HT.out he)
          have d1 : (x != y) = false := by simp [he]
          clear he HT HN
          go_wp2_with fail
          go_quiet (fail)
          go_wp2_with fail
          go_roundw
          case rel => exact ⟨k + 1, by omega, by go_num, HT'.out, ⟨hb.os, hb.tape, hb.output, hb.size, hb.block⟩⟩
          case measure => simp [intOf] <;> omega
        · have HN' := hideP (HN.out he)
          have d1 : (x != y) = true := by simp [he]
          clear he HT HN
          go_wp2_with fail
          go_quiet (fail)
          go_wp2_with fail
          go_ret
          exact ⟨ret_bool (by rw [decide_eq_false HN'.out]), ⟨hb.os, hb.tape, hb.output, hb.size, hb.block⟩⟩
      · have HX := hideP (show xs = ys by have := HE.out; rwa [List.take_of_length_le (by omega), List.take_of_length_le (by have := HL.out; omega)] at this)
        go_wp2_with fail
        go_ret
        exact ⟨ret_bool (by rw [decide_eq_true HX.out]), hb⟩
  · have d0 : ((xs.length : Int) != (ys.length : Int)) = true := by simp; omega
    have HN := hideP (show xs ≠ ys from fun e => hl (by rw [e]))
    clear hl
    go_enter Tryz.func72, Tryz.ntmps72
    go_wp2_with fail
    go_ret
    exact ⟨ret_bool (by rw [decide_eq_false HN.out]), Below.refl _ _⟩
end Go.Proofs.YtmepmiokpcddbabGreatDoor

set_option linter.unusedVariables false
set_option linter.unusedSimpArgs false
namespace Go.Proofs.YtmepmiokpcddbabGreatDoor
open Go.RowKit

set_option maxHeartbeats 400000 in
set_option maxRecDepth 100000 in
theorem samemap_any (a b : Mp) (w : World) (ha : MS w a) (hb : MS w b) :
    Calls Tryz.prog 10 #[.agg #[.slice a.A a.cs.length a.ca, .slice a.O a.os.length a.co], .agg #[.slice b.A b.cs.length b.ca, .slice b.O b.os.length b.co]] w fun e w' => e = .returned (.bool (decide (a.cs = b.cs) && decide (a.os = b.os))) ∧ Below w.heap.size w w' := by
  have b0 := ((Below.refl w.heap.size w).alloc (Nat.le_refl _) (.cells #[.slice a.A a.cs.length a.ca, .slice a.O a.os.length a.co] 28)).alloc (by simp) (.cells #[.slice b.A b.cs.length b.ca, .slice b.O b.os.length b.co] 28)
  have ha0 := ha.below b0
  have hb0 := hb.below b0
  have l1 := ha.lc
  have l2 := hb.lc
  have l3 := ha.lo
  have l4 := hb.lo
  have m1 := ha.mc
  have m2 := hb.mc
  have m3 := ha.mo
  have m4 := hb.mo
  unfold maxLen at m1 m2 m3 m4
  clear ha hb
  obtain ⟨Aa, ca, cs, Oa, co, os⟩ := a
  obtain ⟨Ab, cb, ds, Ob, cp, ps⟩ := b
  simp only at ha0 hb0 b0 l1 l2 l3 l4 m1 m2 m3 m4 ⊢
  have x0 : ((w.alloc (.cells #[.slice Aa cs.length ca, .slice Oa os.length co] 28)).alloc (.cells #[.slice Ab ds.length cb, .slice Ob ps.length cp] 28)).cell? ⟨w.heap.size, 1, none⟩ = some (.slice Oa os.length co) := by simp
  have x1 : ((w.alloc (.cells #[.slice Aa cs.length ca, .slice Oa os.length co] 28)).alloc (.cells #[.slice Ab ds.length cb, .slice Ob ps.length cp] 28)).cell? ⟨w.heap.size + 1, 1, none⟩ = some (.slice Ob ps.length cp) := by simp
  have hlt : w.heap.size + 1 < ((w.alloc (.cells #[.slice Aa cs.length ca, .slice Oa os.length co] 28)).alloc (.cells #[.slice Ab ds.length cb, .slice Ob ps.length cp] 28)).heap.size := by simp
  go_enter Tryz.func10, Tryz.ntmps10
  go_wp2_with fail
  generalize (w.alloc (.cells #[.slice Aa cs.length ca, .slice Oa os.length co] 28)).alloc (.cells #[.slice Ab ds.length cb, .slice Ob ps.length cp] 28) = w1 at b0 ha0 hb0 x0 x1 hlt ⊢
  have b1 := b0.size
  generalize hg : w.heap.size = g at x0 x1 hlt ⊢
  clear hg
  refine (sequal_any Aa Ab ca cb cs ds w1 ha0.cuts hb0.cuts (by omega) (by omega)).mono ?_
  rintro e w2 ⟨rfl, hb2⟩
  have hb3 := b0.trans (hb2.mono b0.size)
  have y0 := (hb2.cell (p := ⟨g, 1, none⟩) (show g < _ by omega)).trans x0
  have y1 := (hb2.cell (p := ⟨g + 1, 1, none⟩) hlt).trans x1
  have o0 := ha0.own.below hb2
  have o1 := hb0.own.below hb2
  have HQ := hideP (ieq_any Oa Ob co cp os ps w2 o0 o1 (by omega) (by omega))
  clear ha0 hb0 x0 x1 hlt o0 o1
  generalize hp1 : decide (cs = ds) = p1 at ⊢
  generalize hp2 : decide (os = ps) = p2 at HQ
  have HP1 := hideP hp1
  have HP2 := hideP hp2
  clear hp1 hp2
  cases p1
  · go_wp2_with fail
    go_ret
    exact ⟨ret_bool (by rw [HP1.out]; rfl), hb3⟩
  · go_wp2_with fail
    refine HQ.out.mono ?_
    rintro e w3 ⟨rfl, hb4⟩
    have hb5 := hb3.trans (hb4.mono (Nat.le_trans b0.size hb2.size))
    go_wp2_with fail
    go_ret
    exact ⟨ret_bool (by rw [HP1.out, HP2.out]; rfl), hb5⟩
end Go.Proofs.YtmepmiokpcddbabGreatDoor
