/-
  roref.Deed and roref.Deeds: what they answer.
-/
import Derived.Test.YtmepmiokpcddbabGreatDoorCa20
import Derived.Test.YtmepmiokpcddbabGreatDoorCa4
import Derived.Test.YtmepmiokpcddbabGreatDoorCa22
import Derived.Test.YtmepmiokpcddbabGreatDoorCa8
set_option linter.unusedVariables false
set_option linter.unusedSimpArgs false
namespace Go.Proofs.YtmepmiokpcddbabGreatDoor
open Go.RowKit

theorem chkOs_bad {l : List Opr} {k : Nat} {q : Int} (h : k < l.length) (hc : chkOs l = chkOs (l.drop k)) (hq : chkO l[k] = q) (h0 : q ≠ 0) : chkOs l = q := by
  rw [hc, chkOs_next h, if_neg (by rw [hq]; exact h0), hq]
theorem chkOs_go {l : List Opr} {k : Nat} (h : k < l.length) (hc : chkOs l = chkOs (l.drop k)) (hq : chkO l[k] = 0) : chkOs l = chkOs (l.drop (k + 1)) := by
  rw [hc, chkOs_next h, if_pos hq]

set_option maxHeartbeats 1000000 in
set_option maxRecDepth 100000 in
theorem rdeed_any (A : Option Addr) (c : Nat) (l : List Opr) (w : World) (hA : OS w w.heap.size A l) :
    Calls Tryz.prog 11 #[.agg #[.slice A l.length c]] w fun e w' => e = .returned (.int .i64 (chkD l)) ∧ Below w.heap.size w w' := by
  have HB := (Below.refl w.heap.size w).alloc (Nat.le_refl _) (.cells #[.slice A l.length c] 24)
  by_cases h1 : 1 ≤ l.length ∧ l.length ≤ 8
  · have HC := hideP (show chkD l = chkOs l by simp only [chkD]; rw [if_neg (by omega), if_neg (by omega)])
    go_enter Tryz.func11, Tryz.ntmps11
    go_wp2_with fail
    refine (rwithin_any _ _ _ _).mono ?_
    rintro e w' ⟨rfl, rfl⟩
    rw [show (decide ((1 : Int) ≤ (l.length : Int)) && decide ((l.length : Int) ≤ 8)) = true by simp; omega]
    go_wp2_with fail
    go_loopw [14] (fun i wr => ∃ k : Nat, k ≤ l.length ∧ i = .int .i64 k ∧ chkOs l = chkOs (l.drop k) ∧ Below w.heap.size w wr) (fun i _ => l.length - (intOf i).toNat)
    case atStart => exact ⟨0, Nat.zero_le _, rfl, rfl, HB⟩
    case round =>
      obtain ⟨k, hk, rfl, hchk, hb⟩ := hrel
      by_cases hlt : k < l.length
      · obtain ⟨b, o, rfl, hbl, c1, c2, c3, c4⟩ := hA.below hb k _ (List.getElem?_eq_getElem hlt)
        clear hA HB
        generalize hgp : l[k] = p at c1 c2 c3 c4
        have HP := hideP hgp
        have HK := hideP hchk
        clear hgp hchk
        obtain ⟨kd, key, src, n⟩ := p
        simp only at c1 c2 c3 c4
        have hat := OpAt.new wr ⟨kd, key, src, n⟩ 93
        have hb0 := hb.alloc hb.size (.cells #[.int .i64 kd, .string key, .string src, .int .i64 n] 93)
        simp only at hat
        by_cases hr : 1 ≤ kd ∧ kd ≤ 5
        · cases hK : keyB key
          · have HO := hideP (show chkO ⟨kd, key, src, n⟩ = 3 by simp only [chkO]; rw [if_neg (by omega), if_neg (by omega), if_pos hK])
            rcases (show kd = 1 ∨ kd = 2 ∨ kd = 3 ∨ kd = 4 ∨ kd = 5 by omega) with rfl | rfl | rfl | rfl | rfl
            · go_wp2_with fail
              refine (rwithin_any _ _ _ _).mono ?_
              rintro e w' ⟨rfl, rfl⟩
              rw [show (decide ((1 : Int) ≤ 1) && decide ((1 : Int) ≤ 5)) = true by decide]
              generalize wr.alloc (.cells #[.int .i64 1, .string key, .string src, .int .i64 n] 93) = w0 at hat hb0 ⊢
              have k0 := hat.kind
              have k1 := hat.key
              have k2 := hat.src
              have k3 := hat.n
              simp only at k0 k1 k2 k3
              go_wp2_with fail
              refine (rkeyR_any key _).mono ?_
              rintro e wk1 ⟨rfl, hbk1⟩
              rw [hK]
              replace hb0 := hb0.trans (hbk1.mono hb0.size)
              replace hat := hat.below hbk1
              clear k0 k1 k2 k3 hbk1
              have k0 := hat.kind
              have k1 := hat.key
              have k2 := hat.src
              have k3 := hat.n
              simp only at k0 k1 k2 k3
              go_wp2_with fail
              go_ret
              exact ⟨ret_int (by rw [HC.out, chkOs_bad hlt HK.out (q := 3) (by rw [HP.out]; exact HO.out) (by decide)]), hb0⟩
            · go_wp2_with fail
              refine (rwithin_any _ _ _ _).mono ?_
              rintro e w' ⟨rfl, rfl⟩
              rw [show (decide ((1 : Int) ≤ 2) && decide ((2 : Int) ≤ 5)) = true by decide]
              generalize wr.alloc (.cells #[.int .i64 2, .string key, .string src, .int .i64 n] 93) = w0 at hat hb0 ⊢
              have k0 := hat.kind
              have k1 := hat.key
              have k2 := hat.src
              have k3 := hat.n
              simp only at k0 k1 k2 k3
              go_wp2_with fail
              refine (rkeyR_any key _).mono ?_
              rintro e wk2 ⟨rfl, hbk2⟩
              rw [hK]
              replace hb0 := hb0.trans (hbk2.mono hb0.size)
              replace hat := hat.below hbk2
              clear k0 k1 k2 k3 hbk2
              have k0 := hat.kind
              have k1 := hat.key
              have k2 := hat.src
              have k3 := hat.n
              simp only at k0 k1 k2 k3
              go_wp2_with fail
              go_ret
              exact ⟨ret_int (by rw [HC.out, chkOs_bad hlt HK.out (q := 3) (by rw [HP.out]; exact HO.out) (by decide)]), hb0⟩
            · go_wp2_with fail
              refine (rwithin_any _ _ _ _).mono ?_
              rintro e w' ⟨rfl, rfl⟩
              rw [show (decide ((1 : Int) ≤ 3) && decide ((3 : Int) ≤ 5)) = true by decide]
              generalize wr.alloc (.cells #[.int .i64 3, .string key, .string src, .int .i64 n] 93) = w0 at hat hb0 ⊢
              have k0 := hat.kind
              have k1 := hat.key
              have k2 := hat.src
              have k3 := hat.n
              simp only at k0 k1 k2 k3
              go_wp2_with fail
              refine (rkeyR_any key _).mono ?_
              rintro e wk3 ⟨rfl, hbk3⟩
              rw [hK]
              replace hb0 := hb0.trans (hbk3.mono hb0.size)
              replace hat := hat.below hbk3
              clear k0 k1 k2 k3 hbk3
              have k0 := hat.kind
              have k1 := hat.key
              have k2 := hat.src
              have k3 := hat.n
              simp only at k0 k1 k2 k3
              go_wp2_with fail
              go_ret
              exact ⟨ret_int (by rw [HC.out, chkOs_bad hlt HK.out (q := 3) (by rw [HP.out]; exact HO.out) (by decide)]), hb0⟩
            · go_wp2_with fail
              refine (rwithin_any _ _ _ _).mono ?_
              rintro e w' ⟨rfl, rfl⟩
              rw [show (decide ((1 : Int) ≤ 4) && decide ((4 : Int) ≤ 5)) = true by decide]
              generalize wr.alloc (.cells #[.int .i64 4, .string key, .string src, .int .i64 n] 93) = w0 at hat hb0 ⊢
              have k0 := hat.kind
              have k1 := hat.key
              have k2 := hat.src
              have k3 := hat.n
              simp only at k0 k1 k2 k3
              go_wp2_with fail
              refine (rkeyR_any key _).mono ?_
              rintro e wk4 ⟨rfl, hbk4⟩
              rw [hK]
              replace hb0 := hb0.trans (hbk4.mono hb0.size)
              replace hat := hat.below hbk4
              clear k0 k1 k2 k3 hbk4
              have k0 := hat.kind
              have k1 := hat.key
              have k2 := hat.src
              have k3 := hat.n
              simp only at k0 k1 k2 k3
              go_wp2_with fail
              go_ret
              exact ⟨ret_int (by rw [HC.out, chkOs_bad hlt HK.out (q := 3) (by rw [HP.out]; exact HO.out) (by decide)]), hb0⟩
            · go_wp2_with fail
              refine (rwithin_any _ _ _ _).mono ?_
              rintro e w' ⟨rfl, rfl⟩
              rw [show (decide ((1 : Int) ≤ 5) && decide ((5 : Int) ≤ 5)) = true by decide]
              generalize wr.alloc (.cells #[.int .i64 5, .string key, .string src, .int .i64 n] 93) = w0 at hat hb0 ⊢
              have k0 := hat.kind
              have k1 := hat.key
              have k2 := hat.src
              have k3 := hat.n
              simp only at k0 k1 k2 k3
              go_wp2_with fail
              refine (rkeyR_any key _).mono ?_
              rintro e wk5 ⟨rfl, hbk5⟩
              rw [hK]
              replace hb0 := hb0.trans (hbk5.mono hb0.size)
              replace hat := hat.below hbk5
              clear k0 k1 k2 k3 hbk5
              have k0 := hat.kind
              have k1 := hat.key
              have k2 := hat.src
              have k3 := hat.n
              simp only at k0 k1 k2 k3
              go_wp2_with fail
              go_ret
              exact ⟨ret_int (by rw [HC.out, chkOs_bad hlt HK.out (q := 3) (by rw [HP.out]; exact HO.out) (by decide)]), hb0⟩
          · by_cases h35 : kd = 3 ∨ kd = 5
            · cases hS : keyB src
              · have HO := hideP (show chkO ⟨kd, key, src, n⟩ = 3 by simp only [chkO]; rw [if_neg (by omega), if_neg (by omega), if_neg (by simp [hK]), if_pos ⟨h35, hS⟩])
                rcases h35 with rfl | rfl
                · go_wp2_with fail
                  refine (rwithin_any _ _ _ _).mono ?_
                  rintro e w' ⟨rfl, rfl⟩
                  rw [show (decide ((1 : Int) ≤ 3) && decide ((3 : Int) ≤ 5)) = true by decide]
                  generalize wr.alloc (.cells #[.int .i64 3, .string key, .string src, .int .i64 n] 93) = w0 at hat hb0 ⊢
                  have k0 := hat.kind
                  have k1 := hat.key
                  have k2 := hat.src
                  have k3 := hat.n
                  simp only at k0 k1 k2 k3
                  go_wp2_with fail
                  refine (rkeyR_any key _).mono ?_
                  rintro e wk6 ⟨rfl, hbk6⟩
                  rw [hK]
                  replace hb0 := hb0.trans (hbk6.mono hb0.size)
                  replace hat := hat.below hbk6
                  clear k0 k1 k2 k3 hbk6
                  have k0 := hat.kind
                  have k1 := hat.key
                  have k2 := hat.src
                  have k3 := hat.n
                  simp only at k0 k1 k2 k3
                  go_wp2_with fail
                  refine (rkeyR_any src _).mono ?_
                  rintro e wk7 ⟨rfl, hbk7⟩
                  rw [hS]
                  replace hb0 := hb0.trans (hbk7.mono hb0.size)
                  replace hat := hat.below hbk7
                  clear k0 k1 k2 k3 hbk7
                  have k0 := hat.kind
                  have k1 := hat.key
                  have k2 := hat.src
                  have k3 := hat.n
                  simp only at k0 k1 k2 k3
                  go_wp2_with fail
                  go_ret
                  exact ⟨ret_int (by rw [HC.out, chkOs_bad hlt HK.out (q := 3) (by rw [HP.out]; exact HO.out) (by decide)]), hb0⟩
                · go_wp2_with fail
                  refine (rwithin_any _ _ _ _).mono ?_
                  rintro e w' ⟨rfl, rfl⟩
                  rw [show (decide ((1 : Int) ≤ 5) && decide ((5 : Int) ≤ 5)) = true by decide]
                  generalize wr.alloc (.cells #[.int .i64 5, .string key, .string src, .int .i64 n] 93) = w0 at hat hb0 ⊢
                  have k0 := hat.kind
                  have k1 := hat.key
                  have k2 := hat.src
                  have k3 := hat.n
                  simp only at k0 k1 k2 k3
                  go_wp2_with fail
                  refine (rkeyR_any key _).mono ?_
                  rintro e wk8 ⟨rfl, hbk8⟩
                  rw [hK]
                  replace hb0 := hb0.trans (hbk8.mono hb0.size)
                  replace hat := hat.below hbk8
                  clear k0 k1 k2 k3 hbk8
                  have k0 := hat.kind
                  have k1 := hat.key
                  have k2 := hat.src
                  have k3 := hat.n
                  simp only at k0 k1 k2 k3
                  go_wp2_with fail
                  refine (rkeyR_any src _).mono ?_
                  rintro e wk9 ⟨rfl, hbk9⟩
                  rw [hS]
                  replace hb0 := hb0.trans (hbk9.mono hb0.size)
                  replace hat := hat.below hbk9
                  clear k0 k1 k2 k3 hbk9
                  have k0 := hat.kind
                  have k1 := hat.key
                  have k2 := hat.src
                  have k3 := hat.n
                  simp only at k0 k1 k2 k3
                  go_wp2_with fail
                  go_ret
                  exact ⟨ret_int (by rw [HC.out, chkOs_bad hlt HK.out (q := 3) (by rw [HP.out]; exact HO.out) (by decide)]), hb0⟩
              · by_cases hE : src = key
                · have HO := hideP (show chkO ⟨kd, key, src, n⟩ = 3 by simp only [chkO]; rw [if_neg (by omega), if_neg (by omega), if_neg (by simp [hK]), if_neg (by simp [hS]), if_pos ⟨h35, hE⟩])
                  have dE : (src.toList == key.toList) = true := by simp [hE]
                  clear hE
                  rcases h35 with rfl | rfl
                  · go_wp2_with fail
                    refine (rwithin_any _ _ _ _).mono ?_
                    rintro e w' ⟨rfl, rfl⟩
                    rw [show (decide ((1 : Int) ≤ 3) && decide ((3 : Int) ≤ 5)) = true by decide]
                    generalize wr.alloc (.cells #[.int .i64 3, .string key, .string src, .int .i64 n] 93) = w0 at hat hb0 ⊢
                    have k0 := hat.kind
                    have k1 := hat.key
                    have k2 := hat.src
                    have k3 := hat.n
                    simp only at k0 k1 k2 k3
                    go_wp2_with fail
                    refine (rkeyR_any key _).mono ?_
                    rintro e wk10 ⟨rfl, hbk10⟩
                    rw [hK]
                    replace hb0 := hb0.trans (hbk10.mono hb0.size)
                    replace hat := hat.below hbk10
                    clear k0 k1 k2 k3 hbk10
                    have k0 := hat.kind
                    have k1 := hat.key
                    have k2 := hat.src
                    have k3 := hat.n
                    simp only at k0 k1 k2 k3
                    go_wp2_with fail
                    refine (rkeyR_any src _).mono ?_
                    rintro e wk11 ⟨rfl, hbk11⟩
                    rw [hS]
                    replace hb0 := hb0.trans (hbk11.mono hb0.size)
                    replace hat := hat.below hbk11
                    clear k0 k1 k2 k3 hbk11
                    have k0 := hat.kind
                    have k1 := hat.key
                    have k2 := hat.src
                    have k3 := hat.n
                    simp only at k0 k1 k2 k3
                    go_wp2_with fail
                    go_ret
                    exact ⟨ret_int (by rw [HC.out, chkOs_bad hlt HK.out (q := 3) (by rw [HP.out]; exact HO.out) (by decide)]), hb0⟩
                  · go_wp2_with fail
                    refine (rwithin_any _ _ _ _).mono ?_
                    rintro e w' ⟨rfl, rfl⟩
                    rw [show (decide ((1 : Int) ≤ 5) && decide ((5 : Int) ≤ 5)) = true by decide]
                    generalize wr.alloc (.cells #[.int .i64 5, .string key, .string src, .int .i64 n] 93) = w0 at hat hb0 ⊢
                    have k0 := hat.kind
                    have k1 := hat.key
                    have k2 := hat.src
                    have k3 := hat.n
                    simp only at k0 k1 k2 k3
                    go_wp2_with fail
                    refine (rkeyR_any key _).mono ?_
                    rintro e wk12 ⟨rfl, hbk12⟩
                    rw [hK]
                    replace hb0 := hb0.trans (hbk12.mono hb0.size)
                    replace hat := hat.below hbk12
                    clear k0 k1 k2 k3 hbk12
                    have k0 := hat.kind
                    have k1 := hat.key
                    have k2 := hat.src
                    have k3 := hat.n
                    simp only at k0 k1 k2 k3
                    go_wp2_with fail
                    refine (rkeyR_any src _).mono ?_
                    rintro e wk13 ⟨rfl, hbk13⟩
                    rw [hS]
                    replace hb0 := hb0.trans (hbk13.mono hb0.size)
                    replace hat := hat.below hbk13
                    clear k0 k1 k2 k3 hbk13
                    have k0 := hat.kind
                    have k1 := hat.key
                    have k2 := hat.src
                    have k3 := hat.n
                    simp only at k0 k1 k2 k3
                    go_wp2_with fail
                    go_ret
                    exact ⟨ret_int (by rw [HC.out, chkOs_bad hlt HK.out (q := 3) (by rw [HP.out]; exact HO.out) (by decide)]), hb0⟩
                · have dE := bytes_ne hE
                  rcases h35 with rfl | rfl
                  · have HO := hideP (show chkO ⟨3, key, src, n⟩ = 0 by simp [chkO, hK, hS, hE])
                    clear hE
                    go_wp2_with fail
                    refine (rwithin_any _ _ _ _).mono ?_
                    rintro e w' ⟨rfl, rfl⟩
                    rw [show (decide ((1 : Int) ≤ 3) && decide ((3 : Int) ≤ 5)) = true by decide]
                    generalize wr.alloc (.cells #[.int .i64 3, .string key, .string src, .int .i64 n] 93) = w0 at hat hb0 ⊢
                    have k0 := hat.kind
                    have k1 := hat.key
                    have k2 := hat.src
                    have k3 := hat.n
                    simp only at k0 k1 k2 k3
                    go_wp2_with fail
                    refine (rkeyR_any key _).mono ?_
                    rintro e wk14 ⟨rfl, hbk14⟩
                    rw [hK]
                    replace hb0 := hb0.trans (hbk14.mono hb0.size)
                    replace hat := hat.below hbk14
                    clear k0 k1 k2 k3 hbk14
                    have k0 := hat.kind
                    have k1 := hat.key
                    have k2 := hat.src
                    have k3 := hat.n
                    simp only at k0 k1 k2 k3
                    go_wp2_with fail
                    refine (rkeyR_any src _).mono ?_
                    rintro e wk15 ⟨rfl, hbk15⟩
                    rw [hS]
                    replace hb0 := hb0.trans (hbk15.mono hb0.size)
                    replace hat := hat.below hbk15
                    clear k0 k1 k2 k3 hbk15
                    have k0 := hat.kind
                    have k1 := hat.key
                    have k2 := hat.src
                    have k3 := hat.n
                    simp only at k0 k1 k2 k3
                    go_wp2_with fail
                    go_roundw
                    case rel => exact ⟨k + 1, by omega, by go_num, chkOs_go hlt HK.out (by rw [HP.out]; exact HO.out), hb0⟩
                    case measure => simp [intOf]; omega
                  · cases hV : valB n
                    · have HO := hideP (show chkO ⟨5, key, src, n⟩ = 1 by simp [chkO, hK, hS, hE, hV])
                      clear hE
                      go_wp2_with fail
                      refine (rwithin_any _ _ _ _).mono ?_
                      rintro e w' ⟨rfl, rfl⟩
                      rw [show (decide ((1 : Int) ≤ 5) && decide ((5 : Int) ≤ 5)) = true by decide]
                      generalize wr.alloc (.cells #[.int .i64 5, .string key, .string src, .int .i64 n] 93) = w0 at hat hb0 ⊢
                      have k0 := hat.kind
                      have k1 := hat.key
                      have k2 := hat.src
                      have k3 := hat.n
                      simp only at k0 k1 k2 k3
                      go_wp2_with fail
                      refine (rkeyR_any key _).mono ?_
                      rintro e wk16 ⟨rfl, hbk16⟩
                      rw [hK]
                      replace hb0 := hb0.trans (hbk16.mono hb0.size)
                      replace hat := hat.below hbk16
                      clear k0 k1 k2 k3 hbk16
                      have k0 := hat.kind
                      have k1 := hat.key
                      have k2 := hat.src
                      have k3 := hat.n
                      simp only at k0 k1 k2 k3
                      go_wp2_with fail
                      refine (rkeyR_any src _).mono ?_
                      rintro e wk17 ⟨rfl, hbk17⟩
                      rw [hS]
                      replace hb0 := hb0.trans (hbk17.mono hb0.size)
                      replace hat := hat.below hbk17
                      clear k0 k1 k2 k3 hbk17
                      have k0 := hat.kind
                      have k1 := hat.key
                      have k2 := hat.src
                      have k3 := hat.n
                      simp only at k0 k1 k2 k3
                      go_wp2_with fail
                      refine (rvalue_any n _).mono ?_
                      rintro e w' ⟨rfl, rfl⟩
                      rw [hV]
                      go_wp2_with fail
                      go_ret
                      exact ⟨ret_int (by rw [HC.out, chkOs_bad hlt HK.out (q := 1) (by rw [HP.out]; exact HO.out) (by decide)]), hb0⟩
                    · by_cases hN : n < 0
                      · have HO := hideP (show chkO ⟨5, key, src, n⟩ = 1 by simp [chkO, hK, hS, hE, hV, hN])
                        clear hE
                        go_wp2_with fail
                        refine (rwithin_any _ _ _ _).mono ?_
                        rintro e w' ⟨rfl, rfl⟩
                        rw [show (decide ((1 : Int) ≤ 5) && decide ((5 : Int) ≤ 5)) = true by decide]
                        generalize wr.alloc (.cells #[.int .i64 5, .string key, .string src, .int .i64 n] 93) = w0 at hat hb0 ⊢
                        have k0 := hat.kind
                        have k1 := hat.key
                        have k2 := hat.src
                        have k3 := hat.n
                        simp only at k0 k1 k2 k3
                        go_wp2_with fail
                        refine (rkeyR_any key _).mono ?_
                        rintro e wk18 ⟨rfl, hbk18⟩
                        rw [hK]
                        replace hb0 := hb0.trans (hbk18.mono hb0.size)
                        replace hat := hat.below hbk18
                        clear k0 k1 k2 k3 hbk18
                        have k0 := hat.kind
                        have k1 := hat.key
                        have k2 := hat.src
                        have k3 := hat.n
                        simp only at k0 k1 k2 k3
                        go_wp2_with fail
                        refine (rkeyR_any src _).mono ?_
                        rintro e wk19 ⟨rfl, hbk19⟩
                        rw [hS]
                        replace hb0 := hb0.trans (hbk19.mono hb0.size)
                        replace hat := hat.below hbk19
                        clear k0 k1 k2 k3 hbk19
                        have k0 := hat.kind
                        have k1 := hat.key
                        have k2 := hat.src
                        have k3 := hat.n
                        simp only at k0 k1 k2 k3
                        go_wp2_with fail
                        refine (rvalue_any n _).mono ?_
                        rintro e w' ⟨rfl, rfl⟩
                        rw [hV]
                        go_wp2_with fail
                        go_ret
                        exact ⟨ret_int (by rw [HC.out, chkOs_bad hlt HK.out (q := 1) (by rw [HP.out]; exact HO.out) (by decide)]), hb0⟩
                      · have HO := hideP (show chkO ⟨5, key, src, n⟩ = 0 by simp [chkO, hK, hS, hE, hV, hN])
                        clear hE
                        go_wp2_with fail
                        refine (rwithin_any _ _ _ _).mono ?_
                        rintro e w' ⟨rfl, rfl⟩
                        rw [show (decide ((1 : Int) ≤ 5) && decide ((5 : Int) ≤ 5)) = true by decide]
                        generalize wr.alloc (.cells #[.int .i64 5, .string key, .string src, .int .i64 n] 93) = w0 at hat hb0 ⊢
                        have k0 := hat.kind
                        have k1 := hat.key
                        have k2 := hat.src
                        have k3 := hat.n
                        simp only at k0 k1 k2 k3
                        go_wp2_with fail
                        refine (rkeyR_any key _).mono ?_
                        rintro e wk20 ⟨rfl, hbk20⟩
                        rw [hK]
                        replace hb0 := hb0.trans (hbk20.mono hb0.size)
                        replace hat := hat.below hbk20
                        clear k0 k1 k2 k3 hbk20
                        have k0 := hat.kind
                        have k1 := hat.key
                        have k2 := hat.src
                        have k3 := hat.n
                        simp only at k0 k1 k2 k3
                        go_wp2_with fail
                        refine (rkeyR_any src _).mono ?_
                        rintro e wk21 ⟨rfl, hbk21⟩
                        rw [hS]
                        replace hb0 := hb0.trans (hbk21.mono hb0.size)
                        replace hat := hat.below hbk21
                        clear k0 k1 k2 k3 hbk21
                        have k0 := hat.kind
                        have k1 := hat.key
                        have k2 := hat.src
                        have k3 := hat.n
                        simp only at k0 k1 k2 k3
                        go_wp2_with fail
                        refine (rvalue_any n _).mono ?_
                        rintro e w' ⟨rfl, rfl⟩
                        rw [hV]
                        go_wp2_with fail
                        go_roundw
                        case rel => exact ⟨k + 1, by omega, by go_num, chkOs_go hlt HK.out (by rw [HP.out]; exact HO.out), hb0⟩
                        case measure => simp [intOf]; omega
            · cases hV : valB n
              · have HO := hideP (show chkO ⟨kd, key, src, n⟩ = 1 by simp [chkO, hK, hV, h35]; omega)
                rcases (show kd = 1 ∨ kd = 2 ∨ kd = 4 by omega) with rfl | rfl | rfl
                · go_wp2_with fail
                  refine (rwithin_any _ _ _ _).mono ?_
                  rintro e w' ⟨rfl, rfl⟩
                  rw [show (decide ((1 : Int) ≤ 1) && decide ((1 : Int) ≤ 5)) = true by decide]
                  generalize wr.alloc (.cells #[.int .i64 1, .string key, .string src, .int .i64 n] 93) = w0 at hat hb0 ⊢
                  have k0 := hat.kind
                  have k1 := hat.key
                  have k2 := hat.src
                  have k3 := hat.n
                  simp only at k0 k1 k2 k3
                  go_wp2_with fail
                  refine (rkeyR_any key _).mono ?_
                  rintro e wk22 ⟨rfl, hbk22⟩
                  rw [hK]
                  replace hb0 := hb0.trans (hbk22.mono hb0.size)
                  replace hat := hat.below hbk22
                  clear k0 k1 k2 k3 hbk22
                  have k0 := hat.kind
                  have k1 := hat.key
                  have k2 := hat.src
                  have k3 := hat.n
                  simp only at k0 k1 k2 k3
                  go_wp2_with fail
                  refine (rvalue_any n _).mono ?_
                  rintro e w' ⟨rfl, rfl⟩
                  rw [hV]
                  go_wp2_with fail
                  go_ret
                  exact ⟨ret_int (by rw [HC.out, chkOs_bad hlt HK.out (q := 1) (by rw [HP.out]; exact HO.out) (by decide)]), hb0⟩
                · go_wp2_with fail
                  refine (rwithin_any _ _ _ _).mono ?_
                  rintro e w' ⟨rfl, rfl⟩
                  rw [show (decide ((1 : Int) ≤ 2) && decide ((2 : Int) ≤ 5)) = true by decide]
                  generalize wr.alloc (.cells #[.int .i64 2, .string key, .string src, .int .i64 n] 93) = w0 at hat hb0 ⊢
                  have k0 := hat.kind
                  have k1 := hat.key
                  have k2 := hat.src
                  have k3 := hat.n
                  simp only at k0 k1 k2 k3
                  go_wp2_with fail
                  refine (rkeyR_any key _).mono ?_
                  rintro e wk23 ⟨rfl, hbk23⟩
                  rw [hK]
                  replace hb0 := hb0.trans (hbk23.mono hb0.size)
                  replace hat := hat.below hbk23
                  clear k0 k1 k2 k3 hbk23
                  have k0 := hat.kind
                  have k1 := hat.key
                  have k2 := hat.src
                  have k3 := hat.n
                  simp only at k0 k1 k2 k3
                  go_wp2_with fail
                  refine (rvalue_any n _).mono ?_
                  rintro e w' ⟨rfl, rfl⟩
                  rw [hV]
                  go_wp2_with fail
                  go_ret
                  exact ⟨ret_int (by rw [HC.out, chkOs_bad hlt HK.out (q := 1) (by rw [HP.out]; exact HO.out) (by decide)]), hb0⟩
                · go_wp2_with fail
                  refine (rwithin_any _ _ _ _).mono ?_
                  rintro e w' ⟨rfl, rfl⟩
                  rw [show (decide ((1 : Int) ≤ 4) && decide ((4 : Int) ≤ 5)) = true by decide]
                  generalize wr.alloc (.cells #[.int .i64 4, .string key, .string src, .int .i64 n] 93) = w0 at hat hb0 ⊢
                  have k0 := hat.kind
                  have k1 := hat.key
                  have k2 := hat.src
                  have k3 := hat.n
                  simp only at k0 k1 k2 k3
                  go_wp2_with fail
                  refine (rkeyR_any key _).mono ?_
                  rintro e wk24 ⟨rfl, hbk24⟩
                  rw [hK]
                  replace hb0 := hb0.trans (hbk24.mono hb0.size)
                  replace hat := hat.below hbk24
                  clear k0 k1 k2 k3 hbk24
                  have k0 := hat.kind
                  have k1 := hat.key
                  have k2 := hat.src
                  have k3 := hat.n
                  simp only at k0 k1 k2 k3
                  go_wp2_with fail
                  refine (rvalue_any n _).mono ?_
                  rintro e w' ⟨rfl, rfl⟩
                  rw [hV]
                  go_wp2_with fail
                  go_ret
                  exact ⟨ret_int (by rw [HC.out, chkOs_bad hlt HK.out (q := 1) (by rw [HP.out]; exact HO.out) (by decide)]), hb0⟩
              · have HO := hideP (show chkO ⟨kd, key, src, n⟩ = 0 by simp [chkO, hK, hV, h35]; omega)
                rcases (show kd = 1 ∨ kd = 2 ∨ kd = 4 by omega) with rfl | rfl | rfl
                · go_wp2_with fail
                  refine (rwithin_any _ _ _ _).mono ?_
                  rintro e w' ⟨rfl, rfl⟩
                  rw [show (decide ((1 : Int) ≤ 1) && decide ((1 : Int) ≤ 5)) = true by decide]
                  generalize wr.alloc (.cells #[.int .i64 1, .string key, .string src, .int .i64 n] 93) = w0 at hat hb0 ⊢
                  have k0 := hat.kind
                  have k1 := hat.key
                  have k2 := hat.src
                  have k3 := hat.n
                  simp only at k0 k1 k2 k3
                  go_wp2_with fail
                  refine (rkeyR_any key _).mono ?_
                  rintro e wk25 ⟨rfl, hbk25⟩
                  rw [hK]
                  replace hb0 := hb0.trans (hbk25.mono hb0.size)
                  replace hat := hat.below hbk25
                  clear k0 k1 k2 k3 hbk25
                  have k0 := hat.kind
                  have k1 := hat.key
                  have k2 := hat.src
                  have k3 := hat.n
                  simp only at k0 k1 k2 k3
                  go_wp2_with fail
                  refine (rvalue_any n _).mono ?_
                  rintro e w' ⟨rfl, rfl⟩
                  rw [hV]
                  go_wp2_with fail
                  go_roundw
                  case rel => exact ⟨k + 1, by omega, by go_num, chkOs_go hlt HK.out (by rw [HP.out]; exact HO.out), hb0⟩
                  case measure => simp [intOf]; omega
                · go_wp2_with fail
                  refine (rwithin_any _ _ _ _).mono ?_
                  rintro e w' ⟨rfl, rfl⟩
                  rw [show (decide ((1 : Int) ≤ 2) && decide ((2 : Int) ≤ 5)) = true by decide]
                  generalize wr.alloc (.cells #[.int .i64 2, .string key, .string src, .int .i64 n] 93) = w0 at hat hb0 ⊢
                  have k0 := hat.kind
                  have k1 := hat.key
                  have k2 := hat.src
                  have k3 := hat.n
                  simp only at k0 k1 k2 k3
                  go_wp2_with fail
                  refine (rkeyR_any key _).mono ?_
                  rintro e wk26 ⟨rfl, hbk26⟩
                  rw [hK]
                  replace hb0 := hb0.trans (hbk26.mono hb0.size)
                  replace hat := hat.below hbk26
                  clear k0 k1 k2 k3 hbk26
                  have k0 := hat.kind
                  have k1 := hat.key
                  have k2 := hat.src
                  have k3 := hat.n
                  simp only at k0 k1 k2 k3
                  go_wp2_with fail
                  refine (rvalue_any n _).mono ?_
                  rintro e w' ⟨rfl, rfl⟩
                  rw [hV]
                  go_wp2_with fail
                  go_roundw
                  case rel => exact ⟨k + 1, by omega, by go_num, chkOs_go hlt HK.out (by rw [HP.out]; exact HO.out), hb0⟩
                  case measure => simp [intOf]; omega
                · go_wp2_with fail
                  refine (rwithin_any _ _ _ _).mono ?_
                  rintro e w' ⟨rfl, rfl⟩
                  rw [show (decide ((1 : Int) ≤ 4) && decide ((4 : Int) ≤ 5)) = true by decide]
                  generalize wr.alloc (.cells #[.int .i64 4, .string key, .string src, .int .i64 n] 93) = w0 at hat hb0 ⊢
                  have k0 := hat.kind
                  have k1 := hat.key
                  have k2 := hat.src
                  have k3 := hat.n
                  simp only at k0 k1 k2 k3
                  go_wp2_with fail
                  refine (rkeyR_any key _).mono ?_
                  rintro e wk27 ⟨rfl, hbk27⟩
                  rw [hK]
                  replace hb0 := hb0.trans (hbk27.mono hb0.size)
                  replace hat := hat.below hbk27
                  clear k0 k1 k2 k3 hbk27
                  have k0 := hat.kind
                  have k1 := hat.key
                  have k2 := hat.src
                  have k3 := hat.n
                  simp only at k0 k1 k2 k3
                  go_wp2_with fail
                  refine (rvalue_any n _).mono ?_
                  rintro e w' ⟨rfl, rfl⟩
                  rw [hV]
                  go_wp2_with fail
                  go_roundw
                  case rel => exact ⟨k + 1, by omega, by go_num, chkOs_go hlt HK.out (by rw [HP.out]; exact HO.out), hb0⟩
                  case measure => simp [intOf]; omega
        · have HO := hideP (show chkO ⟨kd, key, src, n⟩ = 3 by simp only [chkO]; by_cases h1 : kd < 1; (rw [if_pos h1]); (rw [if_neg h1, if_pos (by omega)]))
          have d3 : (kd == 3) = false := by simp; omega
          have d5 : (kd == 5) = false := by simp; omega
          go_wp2_with fail
          refine (rwithin_any _ _ _ _).mono ?_
          rintro e w' ⟨rfl, rfl⟩
          rw [show (decide ((1 : Int) ≤ kd) && decide ((kd : Int) ≤ 5)) = false by rw [Bool.eq_false_iff]; simp; omega]
          generalize wr.alloc (.cells #[.int .i64 kd, .string key, .string src, .int .i64 n] 93) = w0 at hat hb0 ⊢
          have k0 := hat.kind
          have k1 := hat.key
          have k2 := hat.src
          have k3 := hat.n
          simp only at k0 k1 k2 k3
          go_wp2_with fail
          go_ret
          exact ⟨ret_int (by rw [HC.out, chkOs_bad hlt HK.out (q := 3) (by rw [HP.out]; exact HO.out) (by decide)]), hb0⟩
      · go_wp2_with fail
        go_ret
        exact ⟨ret_int (by rw [HC.out, hchk, List.drop_of_length_le (by omega)]; rfl), hb⟩
  · have HC := hideP (show chkD l = 2 by
      simp only [chkD]
      by_cases h : l.length < 1
      · rw [if_pos h]
      · rw [if_neg h, if_pos (by omega)])
    go_enter Tryz.func11, Tryz.ntmps11
    go_wp2_with fail
    refine (rwithin_any _ _ _ _).mono ?_
    rintro e w' ⟨rfl, rfl⟩
    rw [show (decide ((1 : Int) ≤ (l.length : Int)) && decide ((l.length : Int) ≤ 8)) = false by rw [Bool.eq_false_iff]; simp; omega]
    go_wp2_with fail
    go_ret
    exact ⟨ret_int HC.out.symm, HB⟩
end Go.Proofs.YtmepmiokpcddbabGreatDoor
