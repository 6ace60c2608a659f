/-
  lock's find: the index of an entry.
-/
import Derived.Test.YtgcnbifgnaepnaaDoorLMem
import Derived.WalkKit
import Derived.WalkSpells
import Derived.WalkLawsBesides
set_option linter.unusedVariables false
set_option linter.unusedSimpArgs false
namespace Go.Proofs.YtgcnbifgnaepnaaDoor
open Go.RowKit

theorem cell_alloc {w : World} {b o : Nat} {v : Value} (hb : b < w.heap.size) (hc : w.cell? ⟨b, o, none⟩ = some v) (x : Obj) : (w.alloc x).cell? ⟨b, o, none⟩ = some v :=
  (((Below.refl w.heap.size w).alloc (Nat.le_refl _) x).cell (p := ⟨b, o, none⟩) hb).trans hc
set_option maxHeartbeats 400000 in
set_option maxRecDepth 100000 in
theorem lfind1_any (b : Nat) (s q : Int) (v : Value) (w : World) (hb : b < w.heap.size) (hc : w.cell? ⟨b, 0, none⟩ = some (.int .i64 s)) :
    Calls Tryd.prog 41 #[.agg #[.int .i64 q, v], .pointer (some ⟨b, 0, none⟩)] w fun e w' => e = .returned (.bool (decide (q = s))) ∧ Below w.heap.size w w' := by
  have hc' := cell_alloc hb hc (.cells #[.int .i64 q, v] 63)
  have hbw := (Below.refl w.heap.size w).alloc (Nat.le_refl _) (.cells #[.int .i64 q, v] 63)
  by_cases h : q = s
  · subst h
    go_enter Tryd.func41, Tryd.ntmps41
    go_wp2_with fail
    go_ret
    exact ⟨by simp, hbw⟩
  · go_enter Tryd.func41, Tryd.ntmps41
    go_wp2_with fail
    go_ret
    exact ⟨by simp [h], hbw⟩

/-- the index of a number among the entries -/
def Ix (left : List En) (s r : Int) : Prop := (∃ i : Nat, ∃ h : i < left.length, r = i ∧ (left[i].seq : Int) = s) ∨ (r = -1 ∧ ∀ e ∈ left, (e.seq : Int) ≠ s)

set_option maxHeartbeats 400000 in
set_option maxRecDepth 100000 in
theorem eindex_any (b : Nat) (s : Int) (A : Option Addr) (c B : Nat) (left : List En) (w : World) (hb : b < w.heap.size) (hc : w.cell? ⟨b, 0, none⟩ = some (.int .i64 s)) (hA : w.ownsRow B 63 2 (.slice A left.length c) left.length (enCells left)) (hl : left.length ≤ 1000) :
    Calls Tryd.prog 40 #[.slice A left.length c, .func (.func 41) #[] #[.pointer (some ⟨b, 0, none⟩)]] w fun e w' => ∃ r : Int, e = .returned (.int .i64 r) ∧ Ix left s r ∧ Below w.heap.size w w' := by
  go_enter Tryd.func40, Tryd.ntmps40
  go_wp2_with fail
  go_loopw [8] (fun i wr => ∃ k : Nat, k ≤ left.length ∧ i = .int .i64 k ∧ (∀ e ∈ left.take k, (e.seq : Int) ≠ s) ∧ Below w.heap.size w wr) (fun i _ => left.length - (intOf i).toNat)
  case atStart => exact ⟨0, Nat.zero_le _, rfl, by simp, Below.refl _ _⟩
  case round =>
    obtain ⟨k, hk, rfl, hnot, hbw⟩ := hrel
    have HN := hideP hnot
    clear hnot
    by_cases hlt : k < left.length
    · have hg := enCells_get left k left[k] (List.getElem?_eq_getElem hlt)
      obtain ⟨b1, rfl, hbl, q1, q2⟩ := own_at (own_below hA hbw) hlt hg.1 hg.2
      have hc' := (hbw.cell (p := ⟨b, 0, none⟩) hb).trans hc
      have hnx := hideP (fun (h2 : (left[k].seq : Int) ≠ s) (e : En) (he : e ∈ left.take (k + 1)) => show (e.seq : Int) ≠ s by
        rw [List.take_succ_eq_append_getElem hlt] at he
        rcases List.mem_append.1 he with he | he
        · exact HN.out e he
        · rw [List.mem_singleton.1 he]; exact h2)
      have hyes := hideP (fun (h2 : (left[k].seq : Int) = s) => show Ix left s k from .inl ⟨k, hlt, rfl, h2⟩)
      clear hA hg
      generalize (left[k].seq : Int) = q at q1 hnx hyes
      generalize kV left[k] = v at q2
      have g1 : (0 : Int) ≤ (k : Int) := by omega
      have g2 : (k : Int) < (left.length : Int) := by omega
      go_wp2_with fail
      refine (lfind1_any b s q v _ (Nat.lt_of_lt_of_le hb hbw.size) hc').mono ?_
      rintro e w1 ⟨rfl, hb1⟩
      have hb2 := hbw.trans (hb1.mono hbw.size)
      by_cases he : q = s
      · have HE := hideP he
        have d : decide (q = s) = true := decide_eq_true he
        clear he
        rw [d]
        go_wp2_with fail
        go_ret
        exact ⟨k, rfl, hyes.out HE.out, hb2⟩
      · have HE := hideP he
        have d : decide (q = s) = false := decide_eq_false he
        clear he
        rw [d]
        go_wp2_with fail
        go_roundw
        case rel => exact ⟨k + 1, by omega, by go_num, hnx.out HE.out, hb2⟩
        case measure => simp [intOf]; omega
    · go_wp2_with fail
      go_ret
      exact ⟨-1, rfl, .inr ⟨rfl, by have := HN.out; rw [List.take_of_length_le (by omega)] at this; exact this⟩, hbw⟩

set_option maxHeartbeats 400000 in
set_option maxRecDepth 100000 in
theorem lfind_any (g B added : Nat) (left : List En) (s : Int) (w : World) (h : TB w B g added left) (hl : left.length ≤ 1000) :
    Calls Tryd.prog 24 #[.pointer (some ⟨g, 0, none⟩), .int .i64 s] w fun e w' => ∃ r : Int, e = .returned (.int .i64 r) ∧ Ix left s r ∧ Below w.heap.size w w' := by
  obtain ⟨lA, lc, m, n, f, h⟩ := h
  have c0 := h.box.cell 0 (v := .int .i64 (added : Int)) rfl
  have c1 := h.box.cell 1 (v := .slice lA left.length lc) rfl
  have hlt := h.box.lt
  have hb := (Below.refl w.heap.size w).alloc (Nat.le_refl _) (.cells #[.int .i64 s] 3)
  have hrow := (h.below hb).row
  clear h
  go_enter Tryd.func24, Tryd.ntmps24
  go_wp2_with fail
  refine (eindex_any w.heap.size s lA lc B left _ (by simp) (by simp) hrow hl).mono ?_
  rintro e w' ⟨r, rfl, hr, hb1⟩
  go_wp2_with fail
  go_ret
  exact ⟨r, rfl, hr, hb.trans (hb1.mono hb.size)⟩
end Go.Proofs.YtgcnbifgnaepnaaDoor
