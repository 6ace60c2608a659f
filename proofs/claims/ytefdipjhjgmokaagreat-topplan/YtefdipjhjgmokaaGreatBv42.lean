/-
  lock's find: the index of an entry.
  lock.waits: does a number wait in the queue of a key?
-/
import Derived.Test.YtefdipjhjgmokaaGreatBv41
import Derived.WalkKit
import Derived.WalkSpells
import Derived.WalkLawsBesides
import Derived.Deep.QuietTactic
import Derived.BigQuiet
import Derived.Laws.StructEq
set_option linter.unusedVariables false
set_option linter.unusedSimpArgs false
namespace Go.Proofs.YtefdipjhjgmokaaGreat
open Go.RowKit

theorem cell_alloc {w : World} {b o : Nat} {v : Value} (hb : b < w.heap.size) (hc : w.cell? ⟨b, o, none⟩ = some v) (x : Obj) : (w.alloc x).cell? ⟨b, o, none⟩ = some v :=
  (((Below.refl w.heap.size w).alloc (Nat.le_refl _) x).cell (p := ⟨b, o, none⟩) hb).trans hc
set_option maxHeartbeats 400000 in
set_option maxRecDepth 100000 in
theorem lfind1_any (b : Nat) (s q : Int) (v : Value) (w : World) (hb : b < w.heap.size) (hc : w.cell? ⟨b, 0, none⟩ = some (.int .i64 s)) :
    Calls Tryz.prog 90 #[.agg #[.int .i64 q, v], .pointer (some ⟨b, 0, none⟩)] w fun e w' => e = .returned (.bool (decide (q = s))) ∧ Below w.heap.size w w' := by
  have hc' := cell_alloc hb hc (.cells #[.int .i64 q, v] 132)
  have hbw := (Below.refl w.heap.size w).alloc (Nat.le_refl _) (.cells #[.int .i64 q, v] 132)
  by_cases h : q = s
  · subst h
    go_enter Tryz.func90, Tryz.ntmps90
    go_wp2_with fail
    go_ret
    exact ⟨by simp, hbw⟩
  · go_enter Tryz.func90, Tryz.ntmps90
    go_wp2_with fail
    go_ret
    exact ⟨by simp [h], hbw⟩

/-- the index of a number among the entries -/
def Ix (left : List En) (s r : Int) : Prop := (∃ i : Nat, ∃ h : i < left.length, r = i ∧ (left[i].seq : Int) = s) ∨ (r = -1 ∧ ∀ e ∈ left, (e.seq : Int) ≠ s)

set_option maxHeartbeats 400000 in
set_option maxRecDepth 100000 in
theorem eindex_any (b : Nat) (s : Int) (A : Option Addr) (c B : Nat) (left : List En) (w : World) (hb : b < w.heap.size) (hc : w.cell? ⟨b, 0, none⟩ = some (.int .i64 s)) (hA : w.ownsRow B 132 2 (.slice A left.length c) left.length (enCells left)) (hl : left.length ≤ 1000) :
    Calls Tryz.prog 89 #[.slice A left.length c, .func (.func 90) #[] #[.pointer (some ⟨b, 0, none⟩)]] w fun e w' => ∃ r : Int, e = .returned (.int .i64 r) ∧ Ix left s r ∧ Below w.heap.size w w' := by
  go_enter Tryz.func89, Tryz.ntmps89
  go_wp2_with fail
  go_loopw [8] (fun i wr => ∃ k : Nat, k ≤ left.length ∧ i = .int .i64 k ∧ (∀ e ∈ left.take k, (e.seq : Int) ≠ s) ∧ Below w.heap.size w wr) (fun i _ => left.length - (intOf i).toNat)
  case atStart => exact ⟨0, Nat.zero_le _, rfl, by simp, Below.refl _ _⟩
  case round =>
    obtain ⟨k, hk, rfl, hnot, hbw⟩ := hrel
    have HN := hideP hnot
    clear hnot
    by_cases hlt : k < left.length
    · have hg := enCells_get left k left[k] (List.getElem?_eq_getElem hlt)
      obtain ⟨b1, rfl, hbl, q1, q2⟩ := own_at (own_below hA hbw) hlt hg.1 hg.2
      have hc' := (hbw.cell (p := ⟨b, 0, none⟩) hb).trans hc
      have hnx := hideP (fun (h2 : (left[k].seq : Int) ≠ s) (e : En) (he : e ∈ left.take (k + 1)) => show (e.seq : Int) ≠ s by
        rw [List.take_succ_eq_append_getElem hlt] at he
        rcases List.mem_append.1 he with he | he
        · exact HN.out e he
        · rw [List.mem_singleton.1 he]; exact h2)
      have hyes := hideP (fun (h2 : (left[k].seq : Int) = s) => show Ix left s k from .inl ⟨k, hlt, rfl, h2⟩)
      clear hA hg
      generalize (left[k].seq : Int) = q at q1 hnx hyes
      generalize kV left[k] = v at q2
      have g1 : (0 : Int) ≤ (k : Int) := by omega
      have g2 : (k : Int) < (left.length : Int) := by omega
      go_wp2_with fail
      refine (lfind1_any b s q v _ (Nat.lt_of_lt_of_le hb hbw.size) hc').mono ?_
      rintro e w1 ⟨rfl, hb1⟩
      have hb2 := hbw.trans (hb1.mono hbw.size)
      by_cases he : q = s
      · have HE := hideP he
        have d : decide (q = s) = true := decide_eq_true he
        clear he
        rw [d]
        go_wp2_with fail
        go_ret
        exact ⟨k, rfl, hyes.out HE.out, hb2⟩
      · have HE := hideP he
        have d : decide (q = s) = false := decide_eq_false he
        clear he
        rw [d]
        go_wp2_with fail
        go_roundw
        case rel => exact ⟨k + 1, by omega, by go_num, hnx.out HE.out, hb2⟩
        case measure => simp [intOf]; omega
    · go_wp2_with fail
      go_ret
      exact ⟨-1, rfl, .inr ⟨rfl, by have := HN.out; rw [List.take_of_length_le (by omega)] at this; exact this⟩, hbw⟩

set_option maxHeartbeats 400000 in
set_option maxRecDepth 100000 in
theorem lfind_any (g B added : Nat) (left : List En) (s : Int) (w : World) (h : TB w B g added left) (hl : left.length ≤ 1000) :
    Calls Tryz.prog 58 #[.pointer (some ⟨g, 0, none⟩), .int .i64 s] w fun e w' => ∃ r : Int, e = .returned (.int .i64 r) ∧ Ix left s r ∧ Below w.heap.size w w' := by
  obtain ⟨lA, lc, m, n, f, h⟩ := h
  have c0 := h.box.cell 0 (v := .int .i64 (added : Int)) rfl
  have c1 := h.box.cell 1 (v := .slice lA left.length lc) rfl
  have hlt := h.box.lt
  have hb := (Below.refl w.heap.size w).alloc (Nat.le_refl _) (.cells #[.int .i64 s] 3)
  have hrow := (h.below hb).row
  clear h
  go_enter Tryz.func58, Tryz.ntmps58
  go_wp2_with fail
  refine (eindex_any w.heap.size s lA lc B left _ (by simp) (by simp) hrow hl).mono ?_
  rintro e w' ⟨r, rfl, hr, hb1⟩
  go_wp2_with fail
  go_ret
  exact ⟨r, rfl, hr, hb.trans (hb1.mono hb.size)⟩
end Go.Proofs.YtefdipjhjgmokaaGreat

set_option linter.unusedVariables false
set_option linter.unusedSimpArgs false
namespace Go.Proofs.YtefdipjhjgmokaaGreat
open Go.RowKit

theorem run_eql_claim (a b : Int) (x y : Bool) (w : World) : (binOp .eql 138 (.agg #[.int .i64 a, .bool x]) (.agg #[.int .i64 b, .bool y])).run Tryz.prog w = .ok (.bool (decide (a = b) && (x == y))) w := by
  have u3 := Tryz.underlying3
  have u9 := Tryz.underlying4
  have a3 := Tryz.isAgg3
  have z3 := Tryz.sizeOf3
  have a9 := Tryz.isAgg4
  have z9 := Tryz.sizeOf4
  have hS : Tryz.prog.underlying 138 = some (.struct (Tryz.prog.fieldsOf 138)) := by kernel_rfl
  have hp : Tryz.prog.stoodInHeld 138 = false := by kernel_rfl
  rw [run_eql_struct, show (10000 : Nat) = 9999 + 1 from rfl, run_equalIn_agg w 9999 138 _ _ hS hp]
  simp only [Program.fieldsOf, Tryz.underlying138]
  by_cases h : a = b
  · subst h; cases x <;> cases y <;> go_simp
  · cases x <;> cases y <;> go_simp <;> simp [h]
theorem guard_claim (x y : Operand) (xs ys : Array Value) (w : World) : (eqGuard .eql 138 x y (.agg xs) (.agg ys)).run Tryz.prog w = .ok () w := run_eqGuard_agg w .eql 138 x y xs ys (by kernel_rfl)

/-- a queue as a slice -/
def QS (w : World) (B : Nat) (A : Option Addr) (c : Nat) (q : List (Nat × Bool)) : Prop := w.ownsRow B 138 2 (.slice A q.length c) q.length (cmCells q)
theorem QS.at_ {w : World} {B : Nat} {A : Option Addr} {c : Nat} {q : List (Nat × Bool)} (h : QS w B A c q) {i : Nat} (hi : i < q.length) :
    ∃ b, A = some ⟨b, 0, none⟩ ∧ b < w.heap.size ∧ w.cell? ⟨b, i * 2, none⟩ = some (.int .i64 (q[i].1 : Int)) ∧ w.cell? ⟨b, i * 2 + 1, none⟩ = some (.bool q[i].2) :=
  have hg := cmCells_get q i q[i] (List.getElem?_eq_getElem hi)
  own_at h hi hg.1 hg.2
theorem QS.below {w w' : World} {B : Nat} {A : Option Addr} {c : Nat} {q : List (Nat × Bool)} (h : QS w B A c q) (hb : Below w.heap.size w w') : QS w' B A c q := own_below h hb

set_option maxHeartbeats 400000 in
set_option maxRecDepth 100000 in
theorem cindex_any (A : Option Addr) (c B : Nat) (q : List (Nat × Bool)) (s : Nat) (w : World) (hA : QS w B A c q) (hl : q.length ≤ 1000) :
    Calls Tryz.prog 138 #[.slice A q.length c, .agg #[.int .i64 (s : Int), .bool true]] w fun e w' => ∃ r : Int, e = .returned (.int .i64 r) ∧ decide (0 ≤ r) = q.contains (s, true) ∧ Below w.heap.size w w' := by
  have hb0 := (Below.refl w.heap.size w).alloc (Nat.le_refl _) (.cells #[.int .i64 (s : Int), .bool true] 138)
  have hA0 := hA.below hb0
  have r1 : (w.alloc (.cells #[.int .i64 (s : Int), .bool true] 138)).cell? ⟨w.heap.size, 0, none⟩ = some (.int .i64 (s : Int)) := by simp
  have r2 : (w.alloc (.cells #[.int .i64 (s : Int), .bool true] 138)).cell? ⟨w.heap.size, 1, none⟩ = some (.bool true) := by simp
  have hlt0 : w.heap.size < (w.alloc (.cells #[.int .i64 (s : Int), .bool true] 138)).heap.size := by simp
  clear hA
  go_enter Tryz.func138, Tryz.ntmps138
  go_wp2_with fail
  generalize w.alloc (.cells #[.int .i64 (s : Int), .bool true] 138) = w0 at hb0 hA0 r1 r2 hlt0 ⊢
  generalize hg0 : w.heap.size = g0 at r1 r2 hlt0 hb0 ⊢
  have HG := hideP hg0
  clear hg0
  go_loopw [8] (fun i wr => ∃ k : Nat, k ≤ q.length ∧ i = .int .i64 k ∧ (q.take k).contains (s, true) = false ∧ Below w0.heap.size w0 wr) (fun i _ => q.length - (intOf i).toNat)
  case atStart => exact ⟨0, Nat.zero_le _, rfl, rfl, Below.refl _ _⟩
  case round =>
    obtain ⟨k, hk, rfl, hnot, hbw⟩ := hrel
    have HN := hideP hnot
    clear hnot
    by_cases hlt : k < q.length
    · obtain ⟨b1, rfl, hbl, q1, q2⟩ := (hA0.below hbw).at_ hlt
      have r3 := (hbw.cell (p := ⟨g0, 0, none⟩) hlt0).trans r1
      have r4 := (hbw.cell (p := ⟨g0, 1, none⟩) hlt0).trans r2
      have hnx := hideP (fun (h2 : (s, true) ≠ q[k]) => show (q.take (k + 1)).contains (s, true) = false by
        have := HN.out
        rw [Bool.eq_false_iff, ne_eq, List.contains_iff_mem] at this ⊢
        rw [List.take_succ_eq_append_getElem hlt, List.mem_append]
        rintro (h | h)
        · exact this h
        · exact h2 (List.mem_singleton.1 h))
      have hyes := hideP (fun (h2 : (s, true) = q[k]) => show q.contains (s, true) = true by rw [List.contains_iff_mem, h2]; exact List.getElem_mem hlt)
      clear hA0 r1 r2
      generalize q[k] = p at q1 q2 hnx hyes
      obtain ⟨p1, p2⟩ := p
      have g1 : (0 : Int) ≤ (k : Int) := by omega
      have g2 : (k : Int) < (q.length : Int) := by omega
      have n1 := run_eql_claim (s : Int) (p1 : Int) true p2
      have n2 := guard_claim
      by_cases he : s = p1 ∧ p2 = true
      · obtain ⟨rfl, rfl⟩ := he
        rw [show (decide ((s : Int) = (s : Int)) && (true == true)) = true by simp] at n1
        have HY := hideP (hyes.out rfl)
        clear hyes hnx
        go_wp2_with fail
        go_quiet (fail)
        go_wp2_with fail
        go_ret
        exact ⟨k, rfl, by rw [HY.out]; simp, by have h := hb0.trans (hbw.mono (Nat.le_of_lt hlt0)); rw [HG.out]; exact ⟨h.os, h.tape, h.output, h.size, h.block⟩⟩
      · rw [show (decide ((s : Int) = (p1 : Int)) && (true == p2)) = false by
          rw [Bool.and_eq_false_iff]
          by_cases e1 : s = p1
          · right; cases p2
            · rfl
            · exact absurd ⟨e1, rfl⟩ he
          · left; simp; omega] at n1
        have HY := hideP (hnx.out (fun e => he (by injection e with e1 e2; exact ⟨e1, e2.symm⟩)))
        clear hyes hnx he
        go_wp2_with fail
        go_quiet (fail)
        go_wp2_with fail
        go_roundw
        case rel => exact ⟨k + 1, by omega, by go_num, HY.out, ⟨hbw.os, hbw.tape, hbw.output, hbw.size, hbw.block⟩⟩
        case measure => simp [intOf]; omega
    · go_wp2_with fail
      go_ret
      exact ⟨-1, rfl, by have := HN.out; rw [List.take_of_length_le (by omega)] at this; rw [this]; rfl, by rw [HG.out]; exact hb0.trans (hbw.mono (Nat.le_of_lt hlt0))⟩


set_option maxHeartbeats 400000 in
set_option maxRecDepth 100000 in
theorem ccontains_any (A : Option Addr) (c B : Nat) (q : List (Nat × Bool)) (s : Nat) (w : World) (hA : QS w B A c q) (hl : q.length ≤ 1000) :
    Calls Tryz.prog 112 #[.slice A q.length c, .agg #[.int .i64 (s : Int), .bool true]] w fun e w' => e = .returned (.bool (q.contains (s, true))) ∧ Below w.heap.size w w' := by
  have hb0 := (Below.refl w.heap.size w).alloc (Nat.le_refl _) (.cells #[.int .i64 (s : Int), .bool true] 138)
  have hA0 := hA.below hb0
  clear hA
  go_enter Tryz.func112, Tryz.ntmps112
  go_wp2_with fail
  refine (cindex_any A c B q s _ hA0 hl).mono ?_
  rintro e w' ⟨r, rfl, hr, hb1⟩
  have HR := hideP hr
  clear hr
  go_wp2_with fail
  go_ret
  exact ⟨ret_bool HR.out, hb0.trans (hb1.mono hb0.size)⟩

/-- what waits$1 asks of a claim -/
def waP (s : Nat) (wr : Bool) (p : Nat × Bool) : Bool := decide (p.1 < s) && (p.2 || wr)
set_option maxHeartbeats 400000 in
set_option maxRecDepth 100000 in
theorem waits1_any (b1 b2 s p1 : Nat) (z p2 : Bool) (w : World) (h1 : b1 < w.heap.size) (h2 : b2 < w.heap.size) (c1 : w.cell? ⟨b1, 0, none⟩ = some (.int .i64 (s : Int))) (c2 : w.cell? ⟨b2, 0, none⟩ = some (.bool z)) :
    Calls Tryz.prog 114 #[.agg #[.int .i64 (p1 : Int), .bool p2], .pointer (some ⟨b1, 0, none⟩), .pointer (some ⟨b2, 0, none⟩)] w fun e w' => e = .returned (.bool (waP s z (p1, p2))) ∧ Below w.heap.size w w' := by
  have d1 := cell_alloc h1 c1 (.cells #[.int .i64 (p1 : Int), .bool p2] 138)
  have d2 := cell_alloc h2 c2 (.cells #[.int .i64 (p1 : Int), .bool p2] 138)
  have hb := (Below.refl w.heap.size w).alloc (Nat.le_refl _) (.cells #[.int .i64 (p1 : Int), .bool p2] 138)
  clear c1 c2
  by_cases hlt : p1 < s
  · have g1 : (p1 : Int) < (s : Int) := by omega
    cases p2
    · cases z
      all_goals
        go_enter Tryz.func114, Tryz.ntmps114
        go_wp2_with fail
        go_ret
        exact ⟨by simp [waP, hlt], hb⟩
    · go_enter Tryz.func114, Tryz.ntmps114
      go_wp2_with fail
      go_ret
      exact ⟨by simp [waP, hlt], hb⟩
  · have g1 : ¬ (p1 : Int) < (s : Int) := by omega
    go_enter Tryz.func114, Tryz.ntmps114
    go_wp2_with fail
    go_ret
    exact ⟨by simp [waP, hlt], hb⟩

set_option maxHeartbeats 400000 in
set_option maxRecDepth 100000 in
theorem cindexFunc_any (b1 b2 s : Nat) (z : Bool) (A : Option Addr) (c B : Nat) (q : List (Nat × Bool)) (w : World) (h1 : b1 < w.heap.size) (h2 : b2 < w.heap.size) (c1 : w.cell? ⟨b1, 0, none⟩ = some (.int .i64 (s : Int))) (c2 : w.cell? ⟨b2, 0, none⟩ = some (.bool z)) (hA : QS w B A c q) (hl : q.length ≤ 1000) :
    Calls Tryz.prog 91 #[.slice A q.length c, .func (.func 114) #[] #[.pointer (some ⟨b1, 0, none⟩), .pointer (some ⟨b2, 0, none⟩)]] w fun e w' => ∃ r : Int, e = .returned (.int .i64 r) ∧ decide (0 ≤ r) = q.any (waP s z) ∧ Below w.heap.size w w' := by
  go_enter Tryz.func91, Tryz.ntmps91
  go_wp2_with fail
  go_loopw [8] (fun i wr => ∃ k : Nat, k ≤ q.length ∧ i = .int .i64 k ∧ (q.take k).any (waP s z) = false ∧ Below w.heap.size w wr) (fun i _ => q.length - (intOf i).toNat)
  case atStart => exact ⟨0, Nat.zero_le _, rfl, rfl, Below.refl _ _⟩
  case round =>
    obtain ⟨k, hk, rfl, hnot, hbw⟩ := hrel
    have HN := hideP hnot
    clear hnot
    by_cases hlt : k < q.length
    · obtain ⟨b3, rfl, hbl, q1, q2⟩ := (hA.below hbw).at_ hlt
      have d1 := (hbw.cell (p := ⟨b1, 0, none⟩) h1).trans c1
      have d2 := (hbw.cell (p := ⟨b2, 0, none⟩) h2).trans c2
      have HT := hideP (show (q.take (k + 1)).any (waP s z) = ((q.take k).any (waP s z) || waP s z q[k]) by rw [List.take_succ_eq_append_getElem hlt, List.any_append]; simp)
      have HM := hideP (fun (h : waP s z q[k] = true) => show q.any (waP s z) = true from List.any_eq_true.2 ⟨q[k], List.getElem_mem hlt, h⟩)
      clear hA c1 c2
      generalize q[k] = p at q1 q2 HT HM
      obtain ⟨p1, p2⟩ := p
      have g1 : (0 : Int) ≤ (k : Int) := by omega
      have g2 : (k : Int) < (q.length : Int) := by omega
      go_wp2_with fail
      refine (waits1_any b1 b2 s p1 z p2 _ (Nat.lt_of_lt_of_le h1 hbw.size) (Nat.lt_of_lt_of_le h2 hbw.size) d1 d2).mono ?_
      rintro e w1 ⟨rfl, hb1⟩
      have hb2 := hbw.trans (hb1.mono hbw.size)
      cases hin : waP s z (p1, p2)
      · have HI := hideP hin
        clear hin
        go_wp2_with fail
        go_roundw
        case rel => exact ⟨k + 1, by omega, by go_num, by rw [HT.out, HN.out, HI.out]; rfl, hb2⟩
        case measure => simp [intOf]; omega
      · have HI := hideP hin
        clear hin
        go_wp2_with fail
        go_ret
        exact ⟨k, rfl, by rw [HM.out HI.out]; simp, hb2⟩
    · go_wp2_with fail
      go_ret
      exact ⟨-1, rfl, by have := HN.out; rw [List.take_of_length_le (by omega)] at this; rw [this]; rfl, hbw⟩

set_option maxHeartbeats 400000 in
set_option maxRecDepth 100000 in
theorem ccontainsFunc_any (b1 b2 s : Nat) (z : Bool) (A : Option Addr) (c B : Nat) (q : List (Nat × Bool)) (w : World) (h1 : b1 < w.heap.size) (h2 : b2 < w.heap.size) (c1 : w.cell? ⟨b1, 0, none⟩ = some (.int .i64 (s : Int))) (c2 : w.cell? ⟨b2, 0, none⟩ = some (.bool z)) (hA : QS w B A c q) (hl : q.length ≤ 1000) :
    Calls Tryz.prog 113 #[.slice A q.length c, .func (.func 114) #[] #[.pointer (some ⟨b1, 0, none⟩), .pointer (some ⟨b2, 0, none⟩)]] w fun e w' => e = .returned (.bool (q.any (waP s z))) ∧ Below w.heap.size w w' := by
  go_enter Tryz.func113, Tryz.ntmps113
  go_wp2_with fail
  refine (cindexFunc_any b1 b2 s z A c B q _ h1 h2 c1 c2 hA hl).mono ?_
  rintro e w' ⟨r, rfl, hr, hb1⟩
  have HR := hideP hr
  clear hr
  go_wp2_with fail
  go_ret
  exact ⟨ret_bool HR.out, hb1⟩

set_option maxHeartbeats 400000 in
set_option maxRecDepth 100000 in
theorem waits_any (A : Option Addr) (c B s : Nat) (q : List (Nat × Bool)) (w : World) (hA : QS w B A c q) (hl : q.length ≤ 1000) :
    Calls Tryz.prog 85 #[.slice A q.length c, .int .i64 (s : Int)] w fun e w' => e = .returned (.bool (waB q s)) ∧ Below w.heap.size w w' := by
  have HW := hideP (show waB q s = q.any (waP s (q.contains (s, true))) from rfl)
  have hb0 := (Below.refl w.heap.size w).alloc (Nat.le_refl _) (.cells #[.int .i64 (s : Int)] 3)
  have hA0 := hA.below hb0
  clear hA
  go_enter Tryz.func85, Tryz.ntmps85
  go_wp2_with fail
  refine (ccontains_any A c B q s _ hA0 hl).mono ?_
  rintro e w1 ⟨rfl, hb1⟩
  generalize q.contains (s, true) = z at HW ⊢
  have hb2 := hb0.trans (hb1.mono hb0.size)
  have hb3 := hb2.alloc hb2.size (.cells #[.bool z] 4)
  have hb4 := (Below.refl w1.heap.size w1).alloc (Nat.le_refl _) (.cells #[.bool z] 4)
  have hlt : w.heap.size < (w.alloc (.cells #[.int .i64 (s : Int)] 3)).heap.size := by simp
  have hlt1 := Nat.lt_of_lt_of_le hlt hb1.size
  have r0 : (w.alloc (.cells #[.int .i64 (s : Int)] 3)).cell? ⟨w.heap.size, 0, none⟩ = some (.int .i64 (s : Int)) := by simp
  have r1 := cell_alloc hlt1 ((hb1.cell (p := ⟨w.heap.size, 0, none⟩) hlt).trans r0) (.cells #[.bool z] 4)
  have r2 : (w1.alloc (.cells #[.bool z] 4)).cell? ⟨w1.heap.size, 0, none⟩ = some (.bool z) := by simp
  have hA1 := (hA0.below hb1).below hb4
  clear hA0
  go_wp2_with fail
  refine (ccontainsFunc_any w.heap.size w1.heap.size s z A c B q _ (Nat.lt_of_lt_of_le hlt1 hb4.size) (by simp) r1 r2 hA1 hl).mono ?_
  rintro e w2 ⟨rfl, hb5⟩
  generalize q.any (waP s z) = y at HW ⊢
  go_wp2_with fail
  go_ret
  exact ⟨ret_bool HW.out.symm, hb3.trans (hb5.mono (Nat.le_trans hb2.size hb4.size))⟩
end Go.Proofs.YtefdipjhjgmokaaGreat
