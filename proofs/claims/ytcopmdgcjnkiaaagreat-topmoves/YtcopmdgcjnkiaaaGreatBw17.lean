/-
  deed.checkOp: what it answers.
  deed.Check: what it answers.
  merge's small functions: closed, has, check.
-/
import Derived.Test.YtcopmdgcjnkiaaaGreatBw2
import Derived.Test.YtcopmdgcjnkiaaaGreatBw1
import Derived.Test.YtcopmdgcjnkiaaaGreatBw16
set_option linter.unusedVariables false
set_option linter.unusedSimpArgs false
namespace Go.Proofs.YtcopmdgcjnkiaaaGreat
open Go.RowKit

set_option maxHeartbeats 1000000 in
theorem checkOp_any (o : Opr) (w : World) :
    Calls Tryz.prog 73 #[opV o] w fun e w' => e = .returned (.int .i64 (chkO o)) ∧ Below w.heap.size w w' := by
  obtain ⟨kd, key, src, n⟩ := o
  unfold opV
  have HB := (Below.refl w.heap.size w).alloc (Nat.le_refl _) (.cells #[.int .i64 kd, .string key, .string src, .int .i64 n] 80)
  by_cases h1 : kd < 1
  · go_enter Tryz.func73, Tryz.ntmps73
    go_wp2_with fail
    go_ret
    exact ⟨ret_int (by simp [chkO, h1]), HB⟩
  by_cases h2 : 5 < kd
  · go_enter Tryz.func73, Tryz.ntmps73
    go_wp2_with fail
    go_ret
    exact ⟨ret_int (by simp [chkO, h1, h2]), HB⟩
  cases hK : keyB key
  · go_enter Tryz.func73, Tryz.ntmps73
    go_wp2_with fail
    refine (key_any _ _).mono ?_
    rintro e w' ⟨rfl, rfl⟩
    go_wp2_with fail
    go_ret
    exact ⟨ret_int (by simp [chkO, h1, h2, hK]), HB⟩
  by_cases h3 : kd = 3 ∨ kd = 5
  · cases hS : keyB src
    · have hc : chkO ⟨kd, key, src, n⟩ = 3 := by simp [chkO, h1, h2, hK, hS, h3]
      have HC := hideP hc
      clear hc
      rcases h3 with rfl | rfl
      all_goals
        go_enter Tryz.func73, Tryz.ntmps73
        go_wp2_with fail
        refine (key_any _ _).mono ?_
        rintro e w' ⟨rfl, rfl⟩
        go_wp2_with fail
        refine (key_any _ _).mono ?_
        rintro e w' ⟨rfl, rfl⟩
        go_wp2_with fail
        go_ret
        exact ⟨ret_int HC.out.symm, HB⟩
    by_cases hE : src = key
    · have hc : chkO ⟨kd, key, src, n⟩ = 3 := by simp [chkO, h1, h2, hK, h3, hE]
      have HC := hideP hc
      clear hc
      have d1 : (src.toList == key.toList) = true := by simp [hE]
      clear hE
      rcases h3 with rfl | rfl
      all_goals
        go_enter Tryz.func73, Tryz.ntmps73
        go_wp2_with fail
        refine (key_any _ _).mono ?_
        rintro e w' ⟨rfl, rfl⟩
        go_wp2_with fail
        refine (key_any _ _).mono ?_
        rintro e w' ⟨rfl, rfl⟩
        go_wp2_with fail
        go_ret
        exact ⟨ret_int HC.out.symm, HB⟩
    have d1 := bytes_ne hE
    rcases h3 with rfl | rfl
    · have HC := hideP (show chkO ⟨3, key, src, n⟩ = 0 by simp [chkO, hK, hS, hE])
      clear hE
      go_enter Tryz.func73, Tryz.ntmps73
      go_wp2_with fail
      refine (key_any _ _).mono ?_
      rintro e w' ⟨rfl, rfl⟩
      go_wp2_with fail
      refine (key_any _ _).mono ?_
      rintro e w' ⟨rfl, rfl⟩
      go_wp2_with fail
      go_ret
      exact ⟨ret_int HC.out.symm, HB⟩
    cases hV : valB n
    · have HC := hideP (show chkO ⟨5, key, src, n⟩ = 1 by simp [chkO, hK, hS, hE, hV])
      clear hE
      go_enter Tryz.func73, Tryz.ntmps73
      go_wp2_with fail
      refine (key_any _ _).mono ?_
      rintro e w' ⟨rfl, rfl⟩
      go_wp2_with fail
      refine (key_any _ _).mono ?_
      rintro e w' ⟨rfl, rfl⟩
      go_wp2_with fail
      refine (value_any _ _).mono ?_
      rintro e w' ⟨rfl, rfl⟩
      go_wp2_with fail
      go_ret
      exact ⟨ret_int HC.out.symm, HB⟩
    by_cases hN : n < 0
    · have HC := hideP (show chkO ⟨5, key, src, n⟩ = 1 by simp [chkO, hK, hS, hE, hV, hN])
      clear hE
      go_enter Tryz.func73, Tryz.ntmps73
      go_wp2_with fail
      refine (key_any _ _).mono ?_
      rintro e w' ⟨rfl, rfl⟩
      go_wp2_with fail
      refine (key_any _ _).mono ?_
      rintro e w' ⟨rfl, rfl⟩
      go_wp2_with fail
      refine (value_any _ _).mono ?_
      rintro e w' ⟨rfl, rfl⟩
      go_wp2_with fail
      go_ret
      exact ⟨ret_int HC.out.symm, HB⟩
    · have HC := hideP (show chkO ⟨5, key, src, n⟩ = 0 by simp [chkO, hK, hS, hE, hV, hN])
      clear hE
      go_enter Tryz.func73, Tryz.ntmps73
      go_wp2_with fail
      refine (key_any _ _).mono ?_
      rintro e w' ⟨rfl, rfl⟩
      go_wp2_with fail
      refine (key_any _ _).mono ?_
      rintro e w' ⟨rfl, rfl⟩
      go_wp2_with fail
      refine (value_any _ _).mono ?_
      rintro e w' ⟨rfl, rfl⟩
      go_wp2_with fail
      go_ret
      exact ⟨ret_int HC.out.symm, HB⟩
  · have h4 : kd = 1 ∨ kd = 2 ∨ kd = 4 := by omega
    cases hV : valB n
    · have HC := hideP (show chkO ⟨kd, key, src, n⟩ = 1 by simp [chkO, h1, h2, hK, hV]; omega)
      clear h3
      rcases h4 with rfl | rfl | rfl
      all_goals
        go_enter Tryz.func73, Tryz.ntmps73
        go_wp2_with fail
        refine (key_any _ _).mono ?_
        rintro e w' ⟨rfl, rfl⟩
        go_wp2_with fail
        refine (value_any _ _).mono ?_
        rintro e w' ⟨rfl, rfl⟩
        go_wp2_with fail
        go_ret
        exact ⟨ret_int HC.out.symm, HB⟩
    · have HC := hideP (show chkO ⟨kd, key, src, n⟩ = 0 by simp [chkO, h1, h2, hK, hV]; omega)
      clear h3
      rcases h4 with rfl | rfl | rfl
      all_goals
        go_enter Tryz.func73, Tryz.ntmps73
        go_wp2_with fail
        refine (key_any _ _).mono ?_
        rintro e w' ⟨rfl, rfl⟩
        go_wp2_with fail
        refine (value_any _ _).mono ?_
        rintro e w' ⟨rfl, rfl⟩
        go_wp2_with fail
        go_ret
        exact ⟨ret_int HC.out.symm, HB⟩

end Go.Proofs.YtcopmdgcjnkiaaaGreat

set_option linter.unusedVariables false
set_option linter.unusedSimpArgs false
namespace Go.Proofs.YtcopmdgcjnkiaaaGreat
open Go.RowKit

set_option maxHeartbeats 400000 in
theorem dcheck_any (A : Option Addr) (c : Nat) (l : List Opr) (w : World) (hA : OS w w.heap.size A l) :
    Calls Tryz.prog 52 #[.agg #[.slice A l.length c]] w fun e w' => e = .returned (.int .i64 (chkD l)) ∧ Below w.heap.size w w' := by
  have HB := (Below.refl w.heap.size w).alloc (Nat.le_refl _) (.cells #[.slice A l.length c] 39)
  by_cases h1 : l.length < 1
  · have HC := hideP (show chkD l = 2 by simp [chkD, h1])
    have h1' : (l.length : Int) < 1 := by omega
    go_enter Tryz.func52, Tryz.ntmps52
    go_wp2_with fail
    go_ret
    exact ⟨ret_int HC.out.symm, HB⟩
  have h1' : ¬ (l.length : Int) < 1 := by omega
  by_cases h2 : 8 < l.length
  · have HC := hideP (show chkD l = 2 by simp [chkD, h1, h2])
    have h2' : (8 : Int) < (l.length : Int) := by omega
    go_enter Tryz.func52, Tryz.ntmps52
    go_wp2_with fail
    go_ret
    exact ⟨ret_int HC.out.symm, HB⟩
  have h2' : ¬ (8 : Int) < (l.length : Int) := by omega
  have HC := hideP (show chkD l = chkOs l by simp [chkD, h1, h2])
  go_enter Tryz.func52, Tryz.ntmps52
  go_wp2_with fail
  go_loopw [19] (fun i wr => ∃ k : Nat, k ≤ l.length ∧ i = .int .i64 k ∧ chkOs l = chkOs (l.drop k) ∧ Below w.heap.size w wr) (fun i _ => l.length - (intOf i).toNat)
  case atStart => exact ⟨0, Nat.zero_le _, rfl, rfl, HB⟩
  case round =>
    obtain ⟨k, hk, rfl, hchk, hb⟩ := hrel
    by_cases hlt : k < l.length
    · rw [chkOs_next hlt] at hchk
      obtain ⟨b, o, rfl, hbl, c1, c2, c3, c4⟩ := hA.below hb k _ (List.getElem?_eq_getElem hlt)
      clear hA HB
      generalize l[k] = p at c1 c2 c3 c4 hchk
      have HK := hideP hchk
      clear hchk
      have hb2 := (hb.alloc hb.size (.cells #[.int .i64 p.kind, .string p.key, .string p.src, .int .i64 p.n] 80))
      go_wp2_with fail
      refine (checkOp_any p _).mono ?_
      rintro e w3 ⟨rfl, hb3⟩
      have hb4 := hb2.trans (hb3.mono hb2.size)
      clear hb hb2 hb3
      by_cases h0 : chkO p = 0
      · have H0 := hideP h0
        rw [h0]
        clear h0
        go_wp2_with fail
        go_roundw
        case rel => exact ⟨k + 1, by omega, by go_num, by rw [HK.out, if_pos H0.out], hb4⟩
        case measure => simp [intOf]; omega
      · have H0 := hideP h0
        have d0 : (chkO p != 0) = true := by simp [h0]
        clear h0
        generalize hq : chkO p = q at d0
        have HQ := hideP hq
        clear hq
        go_wp2_with fail
        go_ret
        exact ⟨ret_int (by rw [HC.out, HK.out, if_neg H0.out, HQ.out]), hb4⟩
    · go_wp2_with fail
      go_ret
      exact ⟨ret_int (by rw [HC.out, hchk, List.drop_of_length_le (by omega)]; rfl), hb⟩
end Go.Proofs.YtcopmdgcjnkiaaaGreat

set_option linter.unusedVariables false
set_option linter.unusedSimpArgs false
namespace Go.Proofs.YtcopmdgcjnkiaaaGreat
open Go.RowKit

set_option maxRecDepth 100000 in
theorem closed_any (A : Option Addr) (n c k : Nat) (hk : n = k + 1) (hl : n ≤ 9223372036854775807) (w : World) :
    Calls Tryz.prog 37 #[.slice A n c] w fun e w' => e = .returned (.int .i64 (k : Int)) ∧ w = w' := by
  have g1 : IntKind.i64.wrap ((n : Int) - 1) = (k : Int) := by simp only [IntKind.wrap_i64]; omega
  go_enter Tryz.func37, Tryz.ntmps37
  go_wp2
  go_ret
  exact ⟨ret_int (by omega), rfl⟩
set_option maxRecDepth 100000 in
theorem has_any (B g : Nat) (tx : Tx) (AI : Option Addr) (cI : Nat) (ins : List In) (added : Nat) (i : Int) (w : World) (h : MG w B g tx AI cI ins added) :
    Calls Tryz.prog 35 #[.pointer (some ⟨g, 0, none⟩), .int .i64 i] w fun e w' => e = .returned (.bool (decide (0 ≤ i ∧ i < (ins.length : Int)))) ∧ w = w' := by
  have c0 := h.c0
  clear h
  by_cases h1 : 0 ≤ i
  · by_cases h2 : i < (ins.length : Int)
    · have HD := hideP (show decide (0 ≤ i ∧ i < (ins.length : Int)) = true from decide_eq_true ⟨h1, h2⟩)
      go_enter Tryz.func35, Tryz.ntmps35
      go_wp2_with fail
      go_ret
      first | exact ⟨rfl, rfl⟩ | exact ⟨by rw [HD.out]; rfl, rfl⟩
    · have HD := hideP (show decide (0 ≤ i ∧ i < (ins.length : Int)) = false from decide_eq_false fun e => h2 e.2)
      have h3 : decide (i < (ins.length : Int)) = false := decide_eq_false h2
      go_enter Tryz.func35, Tryz.ntmps35
      go_wp2_with fail
      go_ret
      first | exact ⟨rfl, rfl⟩ | exact ⟨by rw [HD.out]; rfl, rfl⟩
  · have HD := hideP (show decide (0 ≤ i ∧ i < (ins.length : Int)) = false from decide_eq_false fun e => h1 e.1)
    have h3 : decide (0 ≤ i) = false := decide_eq_false h1
    go_enter Tryz.func35, Tryz.ntmps35
    go_wp2_with fail
    go_ret
    first | exact ⟨rfl, rfl⟩ | exact ⟨by rw [HD.out]; rfl, rfl⟩
set_option maxHeartbeats 1000000 in
set_option maxRecDepth 100000 in
theorem mcheck_any (x : Em) (w : World) (hx : ES w x) :
    Calls Tryz.prog 36 #[emV x] w fun e w' => e = .returned (.int .i64 (chkE (entOf x))) ∧ Below w.heap.size w w' := by
  have b0 := (Below.refl w.heap.size w).alloc (Nat.le_refl _) (.cells (emC x) 41)
  have x0 := Box.new w 41 (emC x)
  have hx1 := hx.below b0
  obtain ⟨D, c, d, isM, ⟨A, ca, cs, O, co, os⟩⟩ := x
  unfold emV
  unfold emC at b0 x0 hx1 ⊢
  simp only at b0 x0 hx1 ⊢
  have c0 := x0.cell 0 (v := .slice D d.length c) rfl
  have c1 := x0.cell 1 (v := .bool isM) rfl
  have c2 := x0.cell 2 (v := .slice A cs.length ca) rfl
  have c3 := x0.cell 3 (v := .slice O os.length co) rfl
  have hle : os.length ≤ 9223372036854775807 := by have := hx1.map.lo; have := hx1.map.mo; simp only [maxLen] at *; omega
  have HD := hideP (dcheck_any D c d _ hx1.ops)
  have HM := hideP (shcheck_any _ _ hx1.map hle)
  simp only at HM
  clear hx hx1 x0
  cases isM
  · have HK := hideP (show chkE (entOf ⟨D, c, d, false, ⟨A, ca, cs, O, co, os⟩⟩) = chkD d from rfl)
    go_enter Tryz.func36, Tryz.ntmps36
    go_wp2_with fail
    refine HD.out.mono ?_
    clear HD HM
    generalize w.alloc _ = w1 at b0 ⊢
    rintro e w2 ⟨rfl, hb2⟩
    have b2 := b0.trans (hb2.mono b0.size)
    go_wp2_with fail
    go_ret
    exact ⟨by rw [HK.out]; rfl, b2⟩
  · have HK := hideP (show chkE (entOf ⟨D, c, d, true, ⟨A, ca, cs, O, co, os⟩⟩) = chkM cs os from rfl)
    go_enter Tryz.func36, Tryz.ntmps36
    go_wp2_with fail
    refine HM.out.mono ?_
    clear HD HM
    generalize w.alloc _ = w1 at b0 ⊢
    rintro e w2 ⟨rfl, hb2⟩
    have b2 := b0.trans (hb2.mono b0.size)
    go_wp2_with fail
    go_ret
    exact ⟨by rw [HK.out]; rfl, b2⟩
end Go.Proofs.YtcopmdgcjnkiaaaGreat
