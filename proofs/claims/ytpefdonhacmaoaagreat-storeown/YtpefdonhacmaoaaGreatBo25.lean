/-
  slices.Delete of one entry.
-/
import Derived.Test.YtpefdonhacmaoaaGreatBo24
set_option linter.unusedVariables false
set_option linter.unusedSimpArgs false
namespace Go.Proofs.YtpefdonhacmaoaaGreat
open Go.RowKit Go.WideMaps Go.Maps

theorem zeroE (w : World) : (zeroValue 155).run Tryz.prog w = .ok (.agg #[.int .i64 0, .slice none 0 0]) w := by kernel_rfl
/-- a row of one's own, cut short -/
theorem own_take {w : World} {B : Nat} {t : TypeId} {g c n : Nat} {xs : List Value} (h : w.ownsRow B t 2 (.slice (some ⟨g, 0, none⟩) n c) n xs) {i : Nat} (hi : i ≤ n) : w.ownsRow B t 2 (.slice (some ⟨g, 0, none⟩) i c) i (xs.take (i * 2)) := by
  rcases h.2 with ⟨hv, _⟩ | ⟨g', cap', cur, hv, hbg, hg, h3, h4, h5, h6⟩
  · cases hv
  · simp only [Value.slice.injEq, Option.some.injEq, Addr.mk.injEq, and_true, true_and] at hv
    obtain ⟨rfl, rfl⟩ := hv
    refine ⟨by rw [List.length_take, h.1]; omega, .inr ⟨g, c, cur, rfl, hbg, hg, by omega, h4, h5, ?_⟩⟩
    rw [← h6, List.take_take]; congr 1; omega

theorem edel_run (g c B i n : Nat) (left : List En) (w : World) (hn : left.length = n + 1) (hi : i ≤ n) (hA : w.ownsRow B 155 2 (.slice (some ⟨g, 0, none⟩) (n + 1) c) (n + 1) (enCells left)) :
    ∃ w2 w3, (∀ ty, (Builtin.append_ #[150, 150] ty #[.slice (some ⟨g, 0, none⟩) i c, .slice (if c = i + 1 then some ⟨g, 0, none⟩ else some ⟨g, (i + 1) * 2, none⟩) (n - i) (c - (i + 1))]).run Tryz.prog w = .ok (.slice (some ⟨g, 0, none⟩) n c) w2) ∧
      (Builtin.clear_ #[150] 0 #[.slice (some ⟨g, n * 2, none⟩) 1 (c - n)]).run Tryz.prog w2 = .ok (.tuple #[]) w3 ∧ w3.ownsRow B 155 2 (.slice (some ⟨g, 0, none⟩) n c) n (enCells (left.eraseIdx i)) ∧ w.grownBy w3 (some g) ∧ n + 1 ≤ c ∧ c ≤ maxLen := by
  obtain ⟨hqc, hcm⟩ : n + 1 ≤ c ∧ c ≤ maxLen := by
    rcases hA.2 with ⟨hv, _⟩ | ⟨g', cap', cur, hv, _, hg, h3, h4, h5, h6⟩
    · cases hv
    · injection hv with _ _ e; subst e; exact ⟨h3, h4⟩
  have e1 : enCells left = enCells (left.take i) ++ enCells (left.drop i) := by rw [← enCells_append, List.take_append_drop]
  have l1 : (enCells (left.take i)).length = i * 2 := by rw [enCells_length, List.length_take]; congr 1; omega
  have e2 : (enCells left).take (i * 2) = enCells (left.take i) := by rw [e1, ← l1, List.take_left]
  have e3 : enCells (left.eraseIdx i) = enCells (left.take i) ++ enCells (left.drop (i + 1)) := by rw [List.eraseIdx_eq_take_drop_succ, enCells_append]
  have l2 : (enCells (left.drop (i + 1))).length = (n - i) * 2 := by rw [enCells_length, List.length_drop]; congr 1; omega
  have hown := own_take hA (i := i) (by omega)
  rw [e2] at hown
  have hcell := World.ownsRow.cells hA (g := g) rfl
  have hsrc : ∀ (j : Nat) (u : Value), (enCells (left.drop (i + 1)))[j]? = some u → w.cell? ((⟨g, (i + 1) * 2, none⟩ : Addr).add j) = some u := by
    intro j u hu
    have h7 : enCells left = enCells (left.take (i + 1)) ++ enCells (left.drop (i + 1)) := by rw [← enCells_append, List.take_append_drop]
    have h8 : (enCells (left.take (i + 1))).length = (i + 1) * 2 := by rw [enCells_length, List.length_take]; congr 1; omega
    have := hcell ((i + 1) * 2 + j) u (by rw [h7, List.getElem?_append_right (by omega), h8]; rw [show (i + 1) * 2 + j - (i + 1) * 2 = j by omega]; exact hu)
    rw [Addr.add_lit] at this ⊢
    rw [Nat.zero_add] at this
    exact this
  obtain ⟨i0, hi0, hz0, hz1, hz2⟩ := info_parts enInfo
  have hap : ∃ w', (∀ ty, (Builtin.append_ #[150, 150] ty #[.slice (some ⟨g, 0, none⟩) i c, .slice (if c = i + 1 then some ⟨g, 0, none⟩ else some ⟨g, (i + 1) * 2, none⟩) (n - i) (c - (i + 1))]).run Tryz.prog w = .ok (.slice (some ⟨g, 0, none⟩) n c) w') ∧
      w'.ownsRow B 155 2 (.slice (some ⟨g, 0, none⟩) n c) n (enCells (left.eraseIdx i)) ∧ w.grownBy w' (some g) := by
    have key : ∀ ad : Addr, (∀ (j : Nat) (u : Value), (enCells (left.drop (i + 1)))[j]? = some u → w.cell? (ad.add j) = some u) → ∃ w', (∀ ty, (Builtin.append_ #[150, 150] ty #[.slice (some ⟨g, 0, none⟩) i c, .slice (some ad) (n - i) (c - (i + 1))]).run Tryz.prog w = .ok (.slice (some ⟨g, 0, none⟩) n c) w') ∧
      w'.ownsRow B 155 2 (.slice (some ⟨g, 0, none⟩) n c) n (enCells (left.eraseIdx i)) ∧ w.grownBy w' (some g) := by
      intro ad had
      have h9 := fun ty => run_append_fits (P := Tryz.prog) w B 150 ty 155 i0 2 Tryz.underlying150 hi0 hz1 g i c _ hown ad (n - i) (c - (i + 1)) (enCells (left.drop (i + 1))) l2 had (enCells_one _) (by omega)
      obtain ⟨w', hr, ho, hg⟩ := h9 0
      rw [show i + (n - i) = n by omega, ← e3] at ho
      rw [show i + (n - i) = n by omega] at hr
      refine ⟨w', fun ty => ?_, ho, hg⟩
      rw [← hr]; rfl
    by_cases hc : c = i + 1
    · rw [if_pos hc]
      refine key _ fun j u hu => ?_
      have : (enCells (left.drop (i + 1))) = [] := by
        rw [List.drop_eq_nil_iff.2 (by omega)]; rfl
      rw [this] at hu; simp at hu
    · rw [if_neg hc]; exact key _ hsrc
  obtain ⟨w2, hrun, hown2, hg2⟩ := hap
  obtain ⟨w3, hrun3, hown3, hg3⟩ := clear_tail Tryz.underlying150 zeroE rfl (by intro u hu; simp [Value.cells] at hu; rcases hu with rfl | rfl <;> rfl) w2 B g (n + 1) n c _ hown2 (by omega) hqc (c - n) 0
  rw [show n + 1 - n = 1 by omega] at hrun3
  exact ⟨w2, w3, hrun, hrun3, hown3, grown_trans hg2 hg3, hqc, hcm⟩

set_option maxHeartbeats 1000000 in
set_option maxRecDepth 100000 in
theorem edelete_any (A : Option Addr) (c B i n : Nat) (left : List En) (w : World) (hn : left.length = n + 1) (hi : i ≤ n) (hA : w.ownsRow B 155 2 (.slice A (n + 1) c) (n + 1) (enCells left)) (hl : n ≤ 1000) :
    Calls Tryz.prog 102 #[.slice A (n + 1) c, .int .i64 (i : Int), .int .i64 ((i : Int) + 1)] w fun e w' =>
      e = .returned (.slice A n c) ∧ w'.ownsRow B 155 2 (.slice A n c) n (enCells (left.eraseIdx i)) ∧ w.grownBy w' (A.map (·.block)) := by
  obtain ⟨g, rfl⟩ : ∃ g, A = some ⟨g, 0, none⟩ := by
    obtain ⟨g, cap, hv, hbg, hlt⟩ := World.ownsRow.form hA (by omega)
    injection hv with a _ _
    exact ⟨g, a⟩
  obtain ⟨w2, w3, hrun, hrun3, hown3, hg4, hqc, hcm⟩ := edel_run g c B i n left w.drew hn hi hA
  have hg5 : w.grownBy w3 (some g) := ⟨hg4.os, hg4.tape, hg4.output, hg4.size, hg4.block⟩
  clear hA hg4
  have g0 : (0 : Int) ≤ (i : Int) := by omega
  have g1 : (i : Int) ≤ (i : Int) + 1 := by omega
  have g2 : (i : Int) + 1 ≤ (n : Int) + 1 := by omega
  have g3 : (n : Int) + 1 ≤ (c : Int) := by omega
  have g4 : ((i : Int) == (i : Int) + 1) = false := by simp; omega
  have g5 : (i : Int) ≤ (c : Int) := by omega
  have g6 : (0 : Int) ≤ (i : Int) + 1 := by omega
  have g7 : ((i : Int) + 1).toNat = i + 1 := by omega
  have g8 : ((n : Int) + 1).toNat = n + 1 := by omega
  have g9 : ¬ c = n := by omega
  have g10 : (0 : Int) ≤ (n : Int) := by omega
  have g11 : (n : Int) ≤ (n : Int) + 1 := by omega
  go_enter Tryz.func102, Tryz.ntmps102
  go_wp2_with fail
  refine wp_still_drew 6 (by kernel_rfl) ?_
  generalize w.drew = w1 at hrun ⊢
  have HR := hideP hrun
  clear hrun
  simp only [List.take_succ_cons, List.take_zero, List.drop_succ_cons, List.drop_zero]
  by_cases hc : c = i + 1
  · rw [if_pos hc, show n - i = 0 by omega, show c - (i + 1) = 0 by omega] at HR
    subst hc
    repeat still_step
    refine wpStill_nil ?_
    go_wp2_with (at_builtin; refine Lib.wpList_append_run _ rfl _ _ _ _ rfl _ _ rfl rfl _ _ (HR.out _) ?_)
    go_ret
    exact ⟨rfl, hown3, hg5⟩
  · rw [if_neg hc] at HR
    repeat still_step
    refine wpStill_nil ?_
    go_wp2_with (at_builtin; refine Lib.wpList_append_run _ rfl _ _ _ _ rfl _ _ rfl rfl _ _ (HR.out _) ?_)
    go_ret
    exact ⟨rfl, hown3, hg5⟩
end Go.Proofs.YtpefdonhacmaoaaGreat
