/-
  text.opText: what it writes.
  store.Key and store.Value: what they answer.
  deed.checkOp: what it answers.
  deed.Check: what it answers.
  text.Deed: what it writes.
  roref.Text, plainly (no program in it).
-/
import Derived.Test.YtmepmiokpcddbabGreatDoorCa7
import Derived.Test.YtmepmiokpcddbabGreatDoorProg
import Derived.Test.YtmepmiokpcddbabGreatDoorCa1
import Derived.WalkKit
import Derived.WalkSpells
import Derived.WalkLawsBesides
import Derived.Test.YtmepmiokpcddbabGreatDoorCa5
import Derived.Test.YtmepmiokpcddbabGreatDoorCa2
set_option linter.unusedVariables false
set_option linter.unusedSimpArgs false
namespace Go.Proofs.YtmepmiokpcddbabGreatDoor
open Go.RowKit
open Go.Lib hiding intOf

set_option maxHeartbeats 1000000 in
theorem opText_any (o : Opr) (w : World) (hg : Gl w) (hk : chkO o = 0) (h3 : -9223372036854775808 ≤ o.n) (h4 : o.n ≤ 9223372036854775807) :
    Calls Tryz.prog 64 #[opV o] w fun e w' => e = .returned (.string (bs (opT o))) ∧ Below w.heap.size w w' := by
  obtain ⟨h1, h2, k1, k2, _⟩ := chkO_zero.1 hk
  obtain ⟨kd, key, src, n⟩ := o
  simp only at h1 h2 h3 h4 k1 k2
  have s1 := key_size k1
  have s2 : kd = 3 ∨ kd = 5 → src.size ≤ 6 := fun h => key_size (k2 h).1
  have s3 := itoa_size h3 h4
  clear hk k1 k2
  unfold opV
  have HB := (Below.refl w.heap.size w).alloc (Nat.le_refl _) (.cells #[.int .i64 kd, .string key, .string src, .int .i64 n] 93)
  have X := Box.new w 93 #[.int .i64 kd, .string key, .string src, .int .i64 n]
  have hg1 := hg.below HB
  go_enter Tryz.func64, Tryz.ntmps64
  go_wp2_with fail
  generalize w.alloc (.cells #[.int .i64 kd, .string key, .string src, .int .i64 n] 93) = w1 at HB X hg1 ⊢
  refine (itoa_any n h3 h4 w1 hg1).mono ?_
  rintro e w2 ⟨rfl, hb2⟩
  have hb3 := HB.trans (hb2.mono HB.size)
  have X2 := X.below hb2
  have c0 := X2.cell 0 (v := .int .i64 kd) rfl
  have c1 := X2.cell 1 (v := .string key) rfl
  have c2 := X2.cell 2 (v := .string src) rfl
  clear X X2 HB hb2 hg hg1
  have HT := hideP (show (bs (itoa n)).data.toList = itoa n from rfl)
  generalize bs (itoa n) = t at s3 HT ⊢
  generalize w.heap.size = g at c0 c1 c2 ⊢
  have S2 := hideP s2
  clear s2
  rcases (show kd = 1 ∨ kd = 2 ∨ kd = 3 ∨ kd = 4 ∨ kd = 5 by omega) with rfl | rfl | rfl | rfl | rfl
  all_goals
    go_wp2_with fail
    all_goals
      first
      | (exfalso; rename_i hbig; have := S2.out; simp at hbig this; omega)
      | (go_ret
         refine ⟨ret_str (ba_ext ?_), hb3⟩
         simp [opT, bs, HT.out])
end Go.Proofs.YtmepmiokpcddbabGreatDoor

set_option linter.unusedVariables false
set_option linter.unusedSimpArgs false
namespace Go.Proofs.YtmepmiokpcddbabGreatDoor
open Go.RowKit

set_option maxHeartbeats 400000 in
theorem value_any (n : Int) (w : World) :
    Calls Tryz.prog 135 #[.int .i64 n] w fun e w' => e = .returned (.bool (valB n)) ∧ w = w' := by
  by_cases h1 : -1000000000 ≤ n <;> by_cases h2 : n ≤ 1000000000
  all_goals
    go_enter Tryz.func135, Tryz.ntmps135
    go_wp2
    go_ret
    exact ⟨ret_bool (by simp [valB, h1, h2]), rfl⟩

set_option maxHeartbeats 400000 in
theorem key_any (s : ByteArray) (w : World) :
    Calls Tryz.prog 88 #[.string s] w fun e w' => e = .returned (.bool (keyB s)) ∧ w = w' := by
  by_cases h1 : 1 ≤ s.size
  · by_cases h2 : s.size ≤ 6
    · have d1 : decide ((s.size : Int) < 1) = false := by simp; omega
      have d2 : decide ((6 : Int) < (s.size : Int)) = false := by simp; omega
      go_enter Tryz.func88, Tryz.ntmps88
      go_wp2
      go_loop [14] (fun i => ∃ k : Nat, k ≤ s.size ∧ i = .int .i64 k ∧ (s.data.toList.take k).all lowB = true) (fun i => s.size - (intOf i).toNat)
      case atStart => exact ⟨0, Nat.zero_le _, rfl, rfl⟩
      case round =>
        obtain ⟨k, hk, rfl, hall⟩ := hrel
        have HA := hideP hall
        clear hall
        by_cases hlt : k < s.size
        · have hts := hideP (take_snoc s k hlt)
          by_cases ha : 97 ≤ (s[k].toNat : Int)
          · by_cases hz : (s[k].toNat : Int) ≤ 122
            · go_wp2
              go_round
              case rel => exact ⟨k + 1, by omega, by go_num, by rw [hts.out, List.all_append, HA.out]; simp [lowB, ha, hz]⟩
              case measure => simp [intOf]; omega
            · have hno := hideP (keyB_no (s := s) (x := s[k]) (Array.getElem_mem_toList _) (by simp [lowB, hz]))
              go_wp2
              go_ret
              exact ⟨ret_bool hno.out.symm, rfl⟩
          · have hno := hideP (keyB_no (s := s) (x := s[k]) (Array.getElem_mem_toList _) (by simp [lowB, ha]))
            go_wp2
            go_ret
            exact ⟨ret_bool hno.out.symm, rfl⟩
        · go_wp2
          go_ret
          exact ⟨ret_bool (by have := HA.out; rw [List.take_of_length_le (by simp; omega)] at this; simp [keyB, h1, h2, this]), rfl⟩
    · go_enter Tryz.func88, Tryz.ntmps88
      go_wp2
      go_ret
      exact ⟨ret_bool (by simp [keyB, h2]), rfl⟩
  · go_enter Tryz.func88, Tryz.ntmps88
    go_wp2
    go_ret
    exact ⟨ret_bool (by simp [keyB, h1]), rfl⟩
end Go.Proofs.YtmepmiokpcddbabGreatDoor

set_option linter.unusedVariables false
set_option linter.unusedSimpArgs false
namespace Go.Proofs.YtmepmiokpcddbabGreatDoor
open Go.RowKit

set_option maxHeartbeats 1000000 in
theorem checkOp_any (o : Opr) (w : World) :
    Calls Tryz.prog 104 #[opV o] w fun e w' => e = .returned (.int .i64 (chkO o)) ∧ Below w.heap.size w w' := by
  obtain ⟨kd, key, src, n⟩ := o
  unfold opV
  have HB := (Below.refl w.heap.size w).alloc (Nat.le_refl _) (.cells #[.int .i64 kd, .string key, .string src, .int .i64 n] 93)
  by_cases h1 : kd < 1
  · go_enter Tryz.func104, Tryz.ntmps104
    go_wp2_with fail
    go_ret
    exact ⟨ret_int (by simp [chkO, h1]), HB⟩
  by_cases h2 : 5 < kd
  · go_enter Tryz.func104, Tryz.ntmps104
    go_wp2_with fail
    go_ret
    exact ⟨ret_int (by simp [chkO, h1, h2]), HB⟩
  cases hK : keyB key
  · go_enter Tryz.func104, Tryz.ntmps104
    go_wp2_with fail
    refine (key_any _ _).mono ?_
    rintro e w' ⟨rfl, rfl⟩
    go_wp2_with fail
    go_ret
    exact ⟨ret_int (by simp [chkO, h1, h2, hK]), HB⟩
  by_cases h3 : kd = 3 ∨ kd = 5
  · cases hS : keyB src
    · have hc : chkO ⟨kd, key, src, n⟩ = 3 := by simp [chkO, h1, h2, hK, hS, h3]
      have HC := hideP hc
      clear hc
      rcases h3 with rfl | rfl
      all_goals
        go_enter Tryz.func104, Tryz.ntmps104
        go_wp2_with fail
        refine (key_any _ _).mono ?_
        rintro e w' ⟨rfl, rfl⟩
        go_wp2_with fail
        refine (key_any _ _).mono ?_
        rintro e w' ⟨rfl, rfl⟩
        go_wp2_with fail
        go_ret
        exact ⟨ret_int HC.out.symm, HB⟩
    by_cases hE : src = key
    · have hc : chkO ⟨kd, key, src, n⟩ = 3 := by simp [chkO, h1, h2, hK, h3, hE]
      have HC := hideP hc
      clear hc
      have d1 : (src.toList == key.toList) = true := by simp [hE]
      clear hE
      rcases h3 with rfl | rfl
      all_goals
        go_enter Tryz.func104, Tryz.ntmps104
        go_wp2_with fail
        refine (key_any _ _).mono ?_
        rintro e w' ⟨rfl, rfl⟩
        go_wp2_with fail
        refine (key_any _ _).mono ?_
        rintro e w' ⟨rfl, rfl⟩
        go_wp2_with fail
        go_ret
        exact ⟨ret_int HC.out.symm, HB⟩
    have d1 := bytes_ne hE
    rcases h3 with rfl | rfl
    · have HC := hideP (show chkO ⟨3, key, src, n⟩ = 0 by simp [chkO, hK, hS, hE])
      clear hE
      go_enter Tryz.func104, Tryz.ntmps104
      go_wp2_with fail
      refine (key_any _ _).mono ?_
      rintro e w' ⟨rfl, rfl⟩
      go_wp2_with fail
      refine (key_any _ _).mono ?_
      rintro e w' ⟨rfl, rfl⟩
      go_wp2_with fail
      go_ret
      exact ⟨ret_int HC.out.symm, HB⟩
    cases hV : valB n
    · have HC := hideP (show chkO ⟨5, key, src, n⟩ = 1 by simp [chkO, hK, hS, hE, hV])
      clear hE
      go_enter Tryz.func104, Tryz.ntmps104
      go_wp2_with fail
      refine (key_any _ _).mono ?_
      rintro e w' ⟨rfl, rfl⟩
      go_wp2_with fail
      refine (key_any _ _).mono ?_
      rintro e w' ⟨rfl, rfl⟩
      go_wp2_with fail
      refine (value_any _ _).mono ?_
      rintro e w' ⟨rfl, rfl⟩
      go_wp2_with fail
      go_ret
      exact ⟨ret_int HC.out.symm, HB⟩
    by_cases hN : n < 0
    · have HC := hideP (show chkO ⟨5, key, src, n⟩ = 1 by simp [chkO, hK, hS, hE, hV, hN])
      clear hE
      go_enter Tryz.func104, Tryz.ntmps104
      go_wp2_with fail
      refine (key_any _ _).mono ?_
      rintro e w' ⟨rfl, rfl⟩
      go_wp2_with fail
      refine (key_any _ _).mono ?_
      rintro e w' ⟨rfl, rfl⟩
      go_wp2_with fail
      refine (value_any _ _).mono ?_
      rintro e w' ⟨rfl, rfl⟩
      go_wp2_with fail
      go_ret
      exact ⟨ret_int HC.out.symm, HB⟩
    · have HC := hideP (show chkO ⟨5, key, src, n⟩ = 0 by simp [chkO, hK, hS, hE, hV, hN])
      clear hE
      go_enter Tryz.func104, Tryz.ntmps104
      go_wp2_with fail
      refine (key_any _ _).mono ?_
      rintro e w' ⟨rfl, rfl⟩
      go_wp2_with fail
      refine (key_any _ _).mono ?_
      rintro e w' ⟨rfl, rfl⟩
      go_wp2_with fail
      refine (value_any _ _).mono ?_
      rintro e w' ⟨rfl, rfl⟩
      go_wp2_with fail
      go_ret
      exact ⟨ret_int HC.out.symm, HB⟩
  · have h4 : kd = 1 ∨ kd = 2 ∨ kd = 4 := by omega
    cases hV : valB n
    · have HC := hideP (show chkO ⟨kd, key, src, n⟩ = 1 by simp [chkO, h1, h2, hK, hV]; omega)
      clear h3
      rcases h4 with rfl | rfl | rfl
      all_goals
        go_enter Tryz.func104, Tryz.ntmps104
        go_wp2_with fail
        refine (key_any _ _).mono ?_
        rintro e w' ⟨rfl, rfl⟩
        go_wp2_with fail
        refine (value_any _ _).mono ?_
        rintro e w' ⟨rfl, rfl⟩
        go_wp2_with fail
        go_ret
        exact ⟨ret_int HC.out.symm, HB⟩
    · have HC := hideP (show chkO ⟨kd, key, src, n⟩ = 0 by simp [chkO, h1, h2, hK, hV]; omega)
      clear h3
      rcases h4 with rfl | rfl | rfl
      all_goals
        go_enter Tryz.func104, Tryz.ntmps104
        go_wp2_with fail
        refine (key_any _ _).mono ?_
        rintro e w' ⟨rfl, rfl⟩
        go_wp2_with fail
        refine (value_any _ _).mono ?_
        rintro e w' ⟨rfl, rfl⟩
        go_wp2_with fail
        go_ret
        exact ⟨ret_int HC.out.symm, HB⟩

end Go.Proofs.YtmepmiokpcddbabGreatDoor

set_option linter.unusedVariables false
set_option linter.unusedSimpArgs false
namespace Go.Proofs.YtmepmiokpcddbabGreatDoor
open Go.RowKit

set_option maxHeartbeats 400000 in
theorem dcheck_any (A : Option Addr) (c : Nat) (l : List Opr) (w : World) (hA : OS w w.heap.size A l) :
    Calls Tryz.prog 63 #[.agg #[.slice A l.length c]] w fun e w' => e = .returned (.int .i64 (chkD l)) ∧ Below w.heap.size w w' := by
  have HB := (Below.refl w.heap.size w).alloc (Nat.le_refl _) (.cells #[.slice A l.length c] 24)
  by_cases h1 : l.length < 1
  · have HC := hideP (show chkD l = 2 by simp [chkD, h1])
    have h1' : (l.length : Int) < 1 := by omega
    go_enter Tryz.func63, Tryz.ntmps63
    go_wp2_with fail
    go_ret
    exact ⟨ret_int HC.out.symm, HB⟩
  have h1' : ¬ (l.length : Int) < 1 := by omega
  by_cases h2 : 8 < l.length
  · have HC := hideP (show chkD l = 2 by simp [chkD, h1, h2])
    have h2' : (8 : Int) < (l.length : Int) := by omega
    go_enter Tryz.func63, Tryz.ntmps63
    go_wp2_with fail
    go_ret
    exact ⟨ret_int HC.out.symm, HB⟩
  have h2' : ¬ (8 : Int) < (l.length : Int) := by omega
  have HC := hideP (show chkD l = chkOs l by simp [chkD, h1, h2])
  go_enter Tryz.func63, Tryz.ntmps63
  go_wp2_with fail
  go_loopw [19] (fun i wr => ∃ k : Nat, k ≤ l.length ∧ i = .int .i64 k ∧ chkOs l = chkOs (l.drop k) ∧ Below w.heap.size w wr) (fun i _ => l.length - (intOf i).toNat)
  case atStart => exact ⟨0, Nat.zero_le _, rfl, rfl, HB⟩
  case round =>
    obtain ⟨k, hk, rfl, hchk, hb⟩ := hrel
    by_cases hlt : k < l.length
    · rw [chkOs_next hlt] at hchk
      obtain ⟨b, o, rfl, hbl, c1, c2, c3, c4⟩ := hA.below hb k _ (List.getElem?_eq_getElem hlt)
      clear hA HB
      generalize l[k] = p at c1 c2 c3 c4 hchk
      have HK := hideP hchk
      clear hchk
      have hb2 := (hb.alloc hb.size (.cells #[.int .i64 p.kind, .string p.key, .string p.src, .int .i64 p.n] 93))
      go_wp2_with fail
      refine (checkOp_any p _).mono ?_
      rintro e w3 ⟨rfl, hb3⟩
      have hb4 := hb2.trans (hb3.mono hb2.size)
      clear hb hb2 hb3
      by_cases h0 : chkO p = 0
      · have H0 := hideP h0
        rw [h0]
        clear h0
        go_wp2_with fail
        go_roundw
        case rel => exact ⟨k + 1, by omega, by go_num, by rw [HK.out, if_pos H0.out], hb4⟩
        case measure => simp [intOf]; omega
      · have H0 := hideP h0
        have d0 : (chkO p != 0) = true := by simp [h0]
        clear h0
        generalize hq : chkO p = q at d0
        have HQ := hideP hq
        clear hq
        go_wp2_with fail
        go_ret
        exact ⟨ret_int (by rw [HC.out, HK.out, if_neg H0.out, HQ.out]), hb4⟩
    · go_wp2_with fail
      go_ret
      exact ⟨ret_int (by rw [HC.out, hchk, List.drop_of_length_le (by omega)]; rfl), hb⟩
end Go.Proofs.YtmepmiokpcddbabGreatDoor

set_option linter.unusedVariables false
set_option linter.unusedSimpArgs false
namespace Go.Proofs.YtmepmiokpcddbabGreatDoor
open Go.RowKit
open Go.Lib hiding intOf

/-- what Deed answers -/
def ddA (d : List Opr) : ByteArray := if chkD d = 0 then bs (tD d) else ByteArray.empty
def wdD (d : List Opr) (k : Nat) : List ByteArray := (d.take k).map fun o => bs (opT o)
theorem wdD_step {d : List Opr} {k : Nat} (h : k < d.length) : wdD d (k + 1) = wdD d k ++ [bs (opT d[k])] := by
  unfold wdD; rw [List.take_succ_eq_append_getElem h, List.map_append]; rfl
theorem wdD_end (d : List Opr) : (wdD d d.length).map (·.data.toList) = d.map opT := by
  unfold wdD; rw [List.take_of_length_le (Nat.le_refl _), List.map_map]; rfl
theorem wdD_len {d : List Opr} {k : Nat} (h : k ≤ d.length) : (wdD d k).length = k := by unfold wdD; simp; omega
/-- while the words are gathered -/
def DtI (w2 : World) (d : List Opr) (s i : Value) (wr : World) : Prop :=
  ∃ (k : Nat) (A : Option Addr) (c : Nat), k ≤ d.length ∧ i = .int .i64 k ∧ s = .slice A (wdD d k).length c ∧ OR wr w2.heap.size 9 A c ((wdD d k).map Value.string) ∧ Below w2.heap.size w2 wr
set_option maxHeartbeats 2000000 in
set_option maxRecDepth 100000 in
theorem deedT_any (D : Option Addr) (cd : Nat) (d : List Opr) (w : World) (hD : OS w w.heap.size D d) (hN : ∀ o ∈ d, -9223372036854775808 ≤ o.n ∧ o.n ≤ 9223372036854775807) (hg : Gl w) :
    Calls Tryz.prog 6 #[.agg #[.slice D d.length cd]] w fun e w' => e = .returned (.tuple #[.string (ddA d), .int .i64 (chkD d)]) ∧ Below w.heap.size w w' := by
  have b0 := (Below.refl w.heap.size w).alloc (Nat.le_refl _) (.cells #[.slice D d.length cd] 24)
  have x0 := Box.new w 24 #[.slice D d.length cd]
  have hD1 := hD.go b0
  have hg1 := hg.below b0
  have HQ := hideP (dcheck_any D cd d _ hD1)
  have c0 := x0.cell 0 (v := .slice D d.length cd) rfl
  go_enter Tryz.func6, Tryz.ntmps6
  go_wp2_with fail
  refine HQ.out.mono ?_
  clear HQ hD hg
  generalize w.alloc (.cells #[.slice D d.length cd] 24) = w1 at b0 x0 hD1 hg1 c0 ⊢
  rintro e w2 ⟨rfl, hb2⟩
  have b2 := b0.trans (hb2.mono b0.size)
  by_cases hc : chkD d = 0
  · have HV := hideP (show ddA d = bs (tD d) by unfold ddA; rw [if_pos hc])
    obtain ⟨hd1, hd8, hdo⟩ := chkD_zero.1 hc
    rw [hc]
    have HC := hideP hc
    clear hc
    have x2 := x0.below hb2
    have hD2 := hD1.go hb2
    have hg2 := hg1.below hb2
    have d0 := x2.cell 0 (v := .slice D d.length cd) rfl
    have HB2 := hideP b2
    clear b0 x0 hD1 hg1 c0 hb2 b2
    generalize hgx : w.heap.size = gx at x2 d0 ⊢
    have HGX := hideP hgx
    clear hgx
    go_wp2_with fail
    go_loopw [5, 16] (DtI w2 d) (fun _ i _ => d.length - (intOf i).toNat)
    case atStart => exact ⟨0, none, 0, Nat.zero_le _, rfl, rfl, OR.nil _ _ _, Below.refl _ _⟩
    case round =>
      obtain ⟨k, P, cp, hk, rfl, rfl, hor, hb⟩ := hrel
      by_cases hkl : k < d.length
      · have hchk := hdo _ (List.getElem_mem hkl)
        obtain ⟨b, o, rfl, hbl, q1, q2, q3, q4⟩ := (hD2.below hb) k _ (List.getElem?_eq_getElem hkl)
        have hst := wdD_step hkl
        have hwl := wdD_len hk
        have hnn := hN _ (List.getElem_mem hkl)
        generalize d[k] = p at hchk q1 q2 q3 q4 hst hnn
        have hba := hb.alloc hb.size (.cells #[.int .i64 p.kind, .string p.key, .string p.src, .int .i64 p.n] 93)
        have hora := hor.below ((Below.refl _ wr).alloc (Nat.le_refl _) (.cells #[.int .i64 p.kind, .string p.key, .string p.src, .int .i64 p.n] 93))
        have hga := hg2.below hba
        have g1 : (k : Int) < (d.length : Int) := by omega
        have g2 : (0 : Int) ≤ (k : Int) := by omega
        have HT := hideP (opText_any p _ hga hchk hnn.1 hnn.2)
        unfold opV at HT
        have HST := hideP hst
        have HWL := hideP hwl
        obtain ⟨kd, key, src, n⟩ := p
        simp only at q1 q2 q3 q4 hba hora HT HST
        clear hst hwl hor hchk d0 x2 hga hnn
        go_wp2_with fail
        refine HT.out.mono ?_
        clear HT
        generalize wr.alloc (.cells #[.int .i64 kd, .string key, .string src, .int .i64 n] 93) = w4 at hba hora ⊢
        rintro e w5 ⟨rfl, hb5⟩
        have hor5 := hora.below hb5
        have hbw := hba.trans (hb5.mono hba.size)
        generalize bs (opT ⟨kd, key, src, n⟩) = tx at HST ⊢
        obtain ⟨A', c', w6, hrun, hor6, hbl6, _, _⟩ := app_row (P := Tryz.prog) Tryz.underlying25 strInfo rfl w5 w2.heap.size 25 P cp _ hor5 [.string tx] (by simp [Value.oneCell']) (by rw [List.length_map, HWL.out]; simp only [List.length_cons, List.length_nil]; omega) (by decide) hbw.size
        have hX : (wdD d k).map Value.string ++ [.string tx] = (wdD d (k + 1)).map Value.string := by rw [HST.out]; simp
        rw [hX] at hrun hor6
        rw [List.length_map, List.length_map] at hrun
        have hb6 := hbl6 w2.heap.size w2 (Nat.le_refl _) hbw
        have HR := hideP hrun
        clear hrun hbl6 hor5 hX hb5 hbw hora hba
        go_wp2_with (at_builtin; first | refine Lib.wpList_append_run _ rfl _ _ _ _ rfl _ _ rfl rfl _ _ HR.out ?_)
        go_roundw
        case rel => exact ⟨k + 1, A', c', by omega, by go_num, rfl, hor6, hb6⟩
        case measure => simp [intOf]; omega
      · have hke : k = d.length := by omega
        subst hke
        have hwl := wdD_len (d := d) (Nat.le_refl d.length)
        have hT : (tD d).length ≤ 256 := body_len (x := ⟨false, d, [], []⟩) HC.out
        have HJ := hideP (join_any P cp (wdD d d.length) ⟨#[59]⟩ wr hor.vs (by omega) (by omega) (by have := hor.caps.1; rwa [List.length_map] at this) (by rw [wdD_end]; show (tD d).length ≤ _; omega))
        have HE := hideP (wdD_end d)
        clear hwl hT
        go_wp2_with fail
        refine HJ.out.mono ?_
        rintro e w5 ⟨rfl, hb5⟩
        rw [HE.out]
        have hb6 := HB2.out.trans ((hb.trans (hb5.mono hb.size)).mono HB2.out.size)
        go_wp2_with fail
        go_ret2
        exact ⟨by rw [HV.out, HC.out]; rfl, hb6⟩
  · have HV := hideP (show ddA d = ByteArray.empty by unfold ddA; rw [if_neg hc])
    have d1 : (chkD d != 0) = true := by simpa using hc
    clear hc
    generalize hq : chkD d = q at d1 ⊢
    have HQ := hideP hq
    clear hq
    go_wp2_with fail
    go_ret2
    exact ⟨by rw [HV.out, HQ.out]; rfl, b2⟩
end Go.Proofs.YtmepmiokpcddbabGreatDoor

set_option linter.unusedVariables false
set_option linter.unusedSimpArgs false
namespace Go.Proofs.YtmepmiokpcddbabGreatDoor
open Go.Lib

theorem join_snoc (l : List (List UInt8)) (x : List UInt8) (c : UInt8) : join (l ++ [x]) [c] = if l = [] then x else join l [c] ++ c :: x := by
  cases l with
  | nil => rw [if_pos rfl, List.nil_append, join_one]
  | cons y r =>
    rw [if_neg (by simp), List.cons_append, join_cons, join_cons]
    have h : joinTail [c] (r ++ [x]) = joinTail [c] r ++ c :: x := by simp [joinTail]
    rw [h]; simp
/-- the first operations as text -/
def tDk (d : List Opr) (k : Nat) : List UInt8 := tD (d.take k)
theorem tDk_zero (d : List Opr) : tDk d 0 = [] := rfl
theorem tDk_all (d : List Opr) : tDk d d.length = tD d := by unfold tDk; rw [List.take_length]
theorem tDk_next (d : List Opr) (k : Nat) (h : k < d.length) : tDk d (k + 1) = (if k = 0 then [] else tDk d k ++ [59]) ++ opT d[k] := by
  unfold tDk tD
  rw [List.take_succ_eq_append_getElem h, List.map_append, List.map_singleton, join_snoc]
  rcases Nat.eq_zero_or_pos k with rfl | hk
  · simp
  · rw [if_neg (by
      intro e
      have e2 := congrArg List.length e
      rw [List.length_map, List.length_take, List.length_nil] at e2; omega), if_neg (by omega)]
    simp
end Go.Proofs.YtmepmiokpcddbabGreatDoor
