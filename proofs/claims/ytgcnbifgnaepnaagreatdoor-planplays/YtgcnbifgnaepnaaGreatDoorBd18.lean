/-
  store.Key and store.Value: what they answer.
  deed.checkOp: what it answers.
  deed.Check: what it answers.
-/
import Derived.Test.YtgcnbifgnaepnaaGreatDoorProg
import Derived.Test.YtgcnbifgnaepnaaGreatDoorBd1
import Derived.WalkKit
import Derived.WalkSpells
import Derived.WalkLawsBesides
set_option linter.unusedVariables false
set_option linter.unusedSimpArgs false
namespace Go.Proofs.YtgcnbifgnaepnaaGreatDoor
open Go.RowKit

set_option maxHeartbeats 400000 in
theorem value_any (n : Int) (w : World) :
    Calls Tryz.prog 29 #[.int .i64 n] w fun e w' => e = .returned (.bool (valB n)) ∧ w = w' := by
  by_cases h1 : -1000000000 ≤ n <;> by_cases h2 : n ≤ 1000000000
  all_goals
    go_enter Tryz.func29, Tryz.ntmps29
    go_wp2
    go_ret
    exact ⟨ret_bool (by simp [valB, h1, h2]), rfl⟩

set_option maxHeartbeats 400000 in
theorem key_any (s : ByteArray) (w : World) :
    Calls Tryz.prog 28 #[.string s] w fun e w' => e = .returned (.bool (keyB s)) ∧ w = w' := by
  by_cases h1 : 1 ≤ s.size
  · by_cases h2 : s.size ≤ 6
    · have d1 : decide ((s.size : Int) < 1) = false := by simp; omega
      have d2 : decide ((6 : Int) < (s.size : Int)) = false := by simp; omega
      go_enter Tryz.func28, Tryz.ntmps28
      go_wp2
      go_loop [14] (fun i => ∃ k : Nat, k ≤ s.size ∧ i = .int .i64 k ∧ (s.data.toList.take k).all lowB = true) (fun i => s.size - (intOf i).toNat)
      case atStart => exact ⟨0, Nat.zero_le _, rfl, rfl⟩
      case round =>
        obtain ⟨k, hk, rfl, hall⟩ := hrel
        have HA := hideP hall
        clear hall
        by_cases hlt : k < s.size
        · have hts := hideP (take_snoc s k hlt)
          by_cases ha : 97 ≤ (s[k].toNat : Int)
          · by_cases hz : (s[k].toNat : Int) ≤ 122
            · go_wp2
              go_round
              case rel => exact ⟨k + 1, by omega, by go_num, by rw [hts.out, List.all_append, HA.out]; simp [lowB, ha, hz]⟩
              case measure => simp [intOf]; omega
            · have hno := hideP (keyB_no (s := s) (x := s[k]) (Array.getElem_mem_toList _) (by simp [lowB, hz]))
              go_wp2
              go_ret
              exact ⟨ret_bool hno.out.symm, rfl⟩
          · have hno := hideP (keyB_no (s := s) (x := s[k]) (Array.getElem_mem_toList _) (by simp [lowB, ha]))
            go_wp2
            go_ret
            exact ⟨ret_bool hno.out.symm, rfl⟩
        · go_wp2
          go_ret
          exact ⟨ret_bool (by have := HA.out; rw [List.take_of_length_le (by simp; omega)] at this; simp [keyB, h1, h2, this]), rfl⟩
    · go_enter Tryz.func28, Tryz.ntmps28
      go_wp2
      go_ret
      exact ⟨ret_bool (by simp [keyB, h2]), rfl⟩
  · go_enter Tryz.func28, Tryz.ntmps28
    go_wp2
    go_ret
    exact ⟨ret_bool (by simp [keyB, h1]), rfl⟩
end Go.Proofs.YtgcnbifgnaepnaaGreatDoor

set_option linter.unusedVariables false
set_option linter.unusedSimpArgs false
namespace Go.Proofs.YtgcnbifgnaepnaaGreatDoor
open Go.RowKit

set_option maxHeartbeats 1000000 in
theorem checkOp_any (o : Opr) (w : World) :
    Calls Tryz.prog 49 #[opV o] w fun e w' => e = .returned (.int .i64 (chkO o)) ∧ Below w.heap.size w w' := by
  obtain ⟨kd, key, src, n⟩ := o
  unfold opV
  have HB := (Below.refl w.heap.size w).alloc (Nat.le_refl _) (.cells #[.int .i64 kd, .string key, .string src, .int .i64 n] 30)
  by_cases h1 : kd < 1
  · go_enter Tryz.func49, Tryz.ntmps49
    go_wp2_with fail
    go_ret
    exact ⟨ret_int (by simp [chkO, h1]), HB⟩
  by_cases h2 : 5 < kd
  · go_enter Tryz.func49, Tryz.ntmps49
    go_wp2_with fail
    go_ret
    exact ⟨ret_int (by simp [chkO, h1, h2]), HB⟩
  cases hK : keyB key
  · go_enter Tryz.func49, Tryz.ntmps49
    go_wp2_with fail
    refine (key_any _ _).mono ?_
    rintro e w' ⟨rfl, rfl⟩
    go_wp2_with fail
    go_ret
    exact ⟨ret_int (by simp [chkO, h1, h2, hK]), HB⟩
  by_cases h3 : kd = 3 ∨ kd = 5
  · cases hS : keyB src
    · have hc : chkO ⟨kd, key, src, n⟩ = 3 := by simp [chkO, h1, h2, hK, hS, h3]
      have HC := hideP hc
      clear hc
      rcases h3 with rfl | rfl
      all_goals
        go_enter Tryz.func49, Tryz.ntmps49
        go_wp2_with fail
        refine (key_any _ _).mono ?_
        rintro e w' ⟨rfl, rfl⟩
        go_wp2_with fail
        refine (key_any _ _).mono ?_
        rintro e w' ⟨rfl, rfl⟩
        go_wp2_with fail
        go_ret
        exact ⟨ret_int HC.out.symm, HB⟩
    by_cases hE : src = key
    · have hc : chkO ⟨kd, key, src, n⟩ = 3 := by simp [chkO, h1, h2, hK, h3, hE]
      have HC := hideP hc
      clear hc
      have d1 : (src.toList == key.toList) = true := by simp [hE]
      clear hE
      rcases h3 with rfl | rfl
      all_goals
        go_enter Tryz.func49, Tryz.ntmps49
        go_wp2_with fail
        refine (key_any _ _).mono ?_
        rintro e w' ⟨rfl, rfl⟩
        go_wp2_with fail
        refine (key_any _ _).mono ?_
        rintro e w' ⟨rfl, rfl⟩
        go_wp2_with fail
        go_ret
        exact ⟨ret_int HC.out.symm, HB⟩
    have d1 := bytes_ne hE
    rcases h3 with rfl | rfl
    · have HC := hideP (show chkO ⟨3, key, src, n⟩ = 0 by simp [chkO, hK, hS, hE])
      clear hE
      go_enter Tryz.func49, Tryz.ntmps49
      go_wp2_with fail
      refine (key_any _ _).mono ?_
      rintro e w' ⟨rfl, rfl⟩
      go_wp2_with fail
      refine (key_any _ _).mono ?_
      rintro e w' ⟨rfl, rfl⟩
      go_wp2_with fail
      go_ret
      exact ⟨ret_int HC.out.symm, HB⟩
    cases hV : valB n
    · have HC := hideP (show chkO ⟨5, key, src, n⟩ = 1 by simp [chkO, hK, hS, hE, hV])
      clear hE
      go_enter Tryz.func49, Tryz.ntmps49
      go_wp2_with fail
      refine (key_any _ _).mono ?_
      rintro e w' ⟨rfl, rfl⟩
      go_wp2_with fail
      refine (key_any _ _).mono ?_
      rintro e w' ⟨rfl, rfl⟩
      go_wp2_with fail
      refine (value_any _ _).mono ?_
      rintro e w' ⟨rfl, rfl⟩
      go_wp2_with fail
      go_ret
      exact ⟨ret_int HC.out.symm, HB⟩
    by_cases hN : n < 0
    · have HC := hideP (show chkO ⟨5, key, src, n⟩ = 1 by simp [chkO, hK, hS, hE, hV, hN])
      clear hE
      go_enter Tryz.func49, Tryz.ntmps49
      go_wp2_with fail
      refine (key_any _ _).mono ?_
      rintro e w' ⟨rfl, rfl⟩
      go_wp2_with fail
      refine (key_any _ _).mono ?_
      rintro e w' ⟨rfl, rfl⟩
      go_wp2_with fail
      refine (value_any _ _).mono ?_
      rintro e w' ⟨rfl, rfl⟩
      go_wp2_with fail
      go_ret
      exact ⟨ret_int HC.out.symm, HB⟩
    · have HC := hideP (show chkO ⟨5, key, src, n⟩ = 0 by simp [chkO, hK, hS, hE, hV, hN])
      clear hE
      go_enter Tryz.func49, Tryz.ntmps49
      go_wp2_with fail
      refine (key_any _ _).mono ?_
      rintro e w' ⟨rfl, rfl⟩
      go_wp2_with fail
      refine (key_any _ _).mono ?_
      rintro e w' ⟨rfl, rfl⟩
      go_wp2_with fail
      refine (value_any _ _).mono ?_
      rintro e w' ⟨rfl, rfl⟩
      go_wp2_with fail
      go_ret
      exact ⟨ret_int HC.out.symm, HB⟩
  · have h4 : kd = 1 ∨ kd = 2 ∨ kd = 4 := by omega
    cases hV : valB n
    · have HC := hideP (show chkO ⟨kd, key, src, n⟩ = 1 by simp [chkO, h1, h2, hK, hV]; omega)
      clear h3
      rcases h4 with rfl | rfl | rfl
      all_goals
        go_enter Tryz.func49, Tryz.ntmps49
        go_wp2_with fail
        refine (key_any _ _).mono ?_
        rintro e w' ⟨rfl, rfl⟩
        go_wp2_with fail
        refine (value_any _ _).mono ?_
        rintro e w' ⟨rfl, rfl⟩
        go_wp2_with fail
        go_ret
        exact ⟨ret_int HC.out.symm, HB⟩
    · have HC := hideP (show chkO ⟨kd, key, src, n⟩ = 0 by simp [chkO, h1, h2, hK, hV]; omega)
      clear h3
      rcases h4 with rfl | rfl | rfl
      all_goals
        go_enter Tryz.func49, Tryz.ntmps49
        go_wp2_with fail
        refine (key_any _ _).mono ?_
        rintro e w' ⟨rfl, rfl⟩
        go_wp2_with fail
        refine (value_any _ _).mono ?_
        rintro e w' ⟨rfl, rfl⟩
        go_wp2_with fail
        go_ret
        exact ⟨ret_int HC.out.symm, HB⟩

end Go.Proofs.YtgcnbifgnaepnaaGreatDoor

set_option linter.unusedVariables false
set_option linter.unusedSimpArgs false
namespace Go.Proofs.YtgcnbifgnaepnaaGreatDoor
open Go.RowKit

set_option maxHeartbeats 400000 in
theorem dcheck_any (A : Option Addr) (c : Nat) (l : List Opr) (w : World) (hA : OS w w.heap.size A l) :
    Calls Tryz.prog 30 #[.agg #[.slice A l.length c]] w fun e w' => e = .returned (.int .i64 (chkD l)) ∧ Below w.heap.size w w' := by
  have HB := (Below.refl w.heap.size w).alloc (Nat.le_refl _) (.cells #[.slice A l.length c] 33)
  by_cases h1 : l.length < 1
  · have HC := hideP (show chkD l = 2 by simp [chkD, h1])
    have h1' : (l.length : Int) < 1 := by omega
    go_enter Tryz.func30, Tryz.ntmps30
    go_wp2_with fail
    go_ret
    exact ⟨ret_int HC.out.symm, HB⟩
  have h1' : ¬ (l.length : Int) < 1 := by omega
  by_cases h2 : 8 < l.length
  · have HC := hideP (show chkD l = 2 by simp [chkD, h1, h2])
    have h2' : (8 : Int) < (l.length : Int) := by omega
    go_enter Tryz.func30, Tryz.ntmps30
    go_wp2_with fail
    go_ret
    exact ⟨ret_int HC.out.symm, HB⟩
  have h2' : ¬ (8 : Int) < (l.length : Int) := by omega
  have HC := hideP (show chkD l = chkOs l by simp [chkD, h1, h2])
  go_enter Tryz.func30, Tryz.ntmps30
  go_wp2_with fail
  go_loopw [19] (fun i wr => ∃ k : Nat, k ≤ l.length ∧ i = .int .i64 k ∧ chkOs l = chkOs (l.drop k) ∧ Below w.heap.size w wr) (fun i _ => l.length - (intOf i).toNat)
  case atStart => exact ⟨0, Nat.zero_le _, rfl, rfl, HB⟩
  case round =>
    obtain ⟨k, hk, rfl, hchk, hb⟩ := hrel
    by_cases hlt : k < l.length
    · rw [chkOs_next hlt] at hchk
      obtain ⟨b, o, rfl, hbl, c1, c2, c3, c4⟩ := hA.below hb k _ (List.getElem?_eq_getElem hlt)
      clear hA HB
      generalize l[k] = p at c1 c2 c3 c4 hchk
      have HK := hideP hchk
      clear hchk
      have hb2 := (hb.alloc hb.size (.cells #[.int .i64 p.kind, .string p.key, .string p.src, .int .i64 p.n] 30))
      go_wp2_with fail
      refine (checkOp_any p _).mono ?_
      rintro e w3 ⟨rfl, hb3⟩
      have hb4 := hb2.trans (hb3.mono hb2.size)
      clear hb hb2 hb3
      by_cases h0 : chkO p = 0
      · have H0 := hideP h0
        rw [h0]
        clear h0
        go_wp2_with fail
        go_roundw
        case rel => exact ⟨k + 1, by omega, by go_num, by rw [HK.out, if_pos H0.out], hb4⟩
        case measure => simp [intOf]; omega
      · have H0 := hideP h0
        have d0 : (chkO p != 0) = true := by simp [h0]
        clear h0
        generalize hq : chkO p = q at d0
        have HQ := hideP hq
        clear hq
        go_wp2_with fail
        go_ret
        exact ⟨ret_int (by rw [HC.out, HK.out, if_neg H0.out, HQ.out]), hb4⟩
    · go_wp2_with fail
      go_ret
      exact ⟨ret_int (by rw [HC.out, hchk, List.drop_of_length_le (by omega)]; rfl), hb⟩
end Go.Proofs.YtgcnbifgnaepnaaGreatDoor
