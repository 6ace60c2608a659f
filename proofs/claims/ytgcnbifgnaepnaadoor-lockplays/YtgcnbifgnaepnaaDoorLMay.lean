/-
  lock's Left and May.
-/
import Derived.Test.YtgcnbifgnaepnaaDoorLRdy
set_option linter.unusedVariables false
set_option linter.unusedSimpArgs false
namespace Go.Proofs.YtgcnbifgnaepnaaDoor
open Go.RowKit Go.WideMaps Go.Maps

set_option maxHeartbeats 400000 in
set_option maxRecDepth 100000 in
theorem left_any (g B added : Nat) (left : List En) (w : World) (h : TB w B g added left) :
    Calls Tryd.prog 17 #[.pointer (some ⟨g, 0, none⟩)] w fun e w' => e = .returned (.int .i64 (left.length : Int)) ∧ Below w.heap.size w w' := by
  obtain ⟨lA, lc, m, n, f, h⟩ := h
  have c1 := h.box.cell 1 (v := .slice lA left.length lc) rfl
  clear h
  go_enter Tryd.func17, Tryd.ntmps17
  go_wp2_with fail
  go_ret
  exact ⟨rfl, Below.refl _ _⟩

set_option maxHeartbeats 400000 in
set_option maxRecDepth 100000 in
theorem may_any (g B added : Nat) (left : List En) (s : Int) (w : World) (h : TB w B g added left) :
    Calls Tryd.prog 13 #[.pointer (some ⟨g, 0, none⟩), .int .i64 s] w fun e w' => e = .returned (.tuple #[.bool (mayV left s).1, .int .i64 (mayV left s).2]) ∧ Below w.heap.size w w' := by
  have hlen : left.length ≤ 1000 := by obtain ⟨lA, lc, m, n, f, h⟩ := h; have := h.len; omega
  have hasc : Asc left := by obtain ⟨lA, lc, m, n, f, h⟩ := h; exact h.asc
  go_enter Tryd.func13, Tryd.ntmps13
  go_wp2_with fail
  refine (lfind_any g B added left s _ h hlen).mono ?_
  rintro e w1 ⟨r, rfl, hr, hb1⟩
  rcases hr with ⟨i, hi, rfl, hs⟩ | ⟨rfl, hno⟩
  · have HV := hideP (show mayV left s = (ruB left left[i], 0) by unfold mayV; rw [← hs, find_at hasc hi])
    have hT := h.below hb1
    have hT1 := hT
    have hmem := List.getElem_mem hi
    obtain ⟨lA, lc, m, n, f, hX⟩ := hT1
    have c1 := hX.box.cell 1 (v := .slice lA left.length lc) rfl
    obtain ⟨b, rfl, hlt, q1, q2⟩ := hX.at_ hi
    clear hX h hs hasc
    generalize left[i] = e at HV hmem q1 q2
    have g1 : (0 : Int) ≤ (i : Int) := by omega
    have g2 : (i : Int) < (left.length : Int) := by omega
    have g3 : ¬ (i : Int) < 0 := by omega
    go_wp2_with fail
    refine (runnable_any g B added left e hmem _ hT).mono ?_
    rintro x w2 ⟨rfl, hb2⟩
    have hb3 := hb1.trans (hb2.mono hb1.size)
    generalize ruB left e = y at HV ⊢
    go_wp2_with fail
    go_ret2
    exact ⟨by rw [HV.out]; rfl, hb3⟩
  · have HV := hideP (show mayV left s = (false, 4) by unfold mayV; rw [find_no hno])
    clear h hno hasc
    go_wp2_with fail
    go_ret2
    exact ⟨by rw [HV.out]; rfl, hb1⟩
end Go.Proofs.YtgcnbifgnaepnaaDoor
