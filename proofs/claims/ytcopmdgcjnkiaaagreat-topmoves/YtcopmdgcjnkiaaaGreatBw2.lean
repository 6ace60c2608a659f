/-
  Log entries, plainly (no program in it).
  store.Key and store.Value: what they answer.
  store.Check: what it answers.
  store.find: what it answers.
-/
import Derived.Test.YtcopmdgcjnkiaaaGreatBw1
import Derived.Test.YtcopmdgcjnkiaaaGreatProg
import Derived.WalkKit
import Derived.WalkSpells
import Derived.WalkLawsBesides
set_option linter.unusedVariables false
set_option linter.unusedSimpArgs false
namespace Go.Proofs.YtcopmdgcjnkiaaaGreat

/-- an entry -/
structure Ent where
  isM : Bool
  d : List Opr
  cs : List ByteArray
  os : List Int
def ent0 : Ent := ⟨false, [], [], []⟩
/-- its error -/
def chkE (x : Ent) : Int := if x.isM then chkM x.cs x.os else chkD x.d
/-- without the field that does not count -/
def dropE (x : Ent) : Ent := if x.isM then ⟨true, [], x.cs, x.os⟩ else ⟨false, x.d, [], []⟩
theorem dropE_twice (x : Ent) : dropE (dropE x) = dropE x := by
  obtain ⟨m, d, cs, os⟩ := x
  cases m <;> rfl
theorem chkE_drop (x : Ent) : chkE (dropE x) = chkE x := by
  obtain ⟨m, d, cs, os⟩ := x
  cases m <;> rfl
end Go.Proofs.YtcopmdgcjnkiaaaGreat

set_option linter.unusedVariables false
set_option linter.unusedSimpArgs false
namespace Go.Proofs.YtcopmdgcjnkiaaaGreat
open Go.RowKit

set_option maxHeartbeats 400000 in
theorem value_any (n : Int) (w : World) :
    Calls Tryz.prog 68 #[.int .i64 n] w fun e w' => e = .returned (.bool (valB n)) ∧ w = w' := by
  by_cases h1 : -1000000000 ≤ n <;> by_cases h2 : n ≤ 1000000000
  all_goals
    go_enter Tryz.func68, Tryz.ntmps68
    go_wp2
    go_ret
    exact ⟨ret_bool (by simp [valB, h1, h2]), rfl⟩

set_option maxHeartbeats 400000 in
theorem key_any (s : ByteArray) (w : World) :
    Calls Tryz.prog 67 #[.string s] w fun e w' => e = .returned (.bool (keyB s)) ∧ w = w' := by
  by_cases h1 : 1 ≤ s.size
  · by_cases h2 : s.size ≤ 6
    · have d1 : decide ((s.size : Int) < 1) = false := by simp; omega
      have d2 : decide ((6 : Int) < (s.size : Int)) = false := by simp; omega
      go_enter Tryz.func67, Tryz.ntmps67
      go_wp2
      go_loop [14] (fun i => ∃ k : Nat, k ≤ s.size ∧ i = .int .i64 k ∧ (s.data.toList.take k).all lowB = true) (fun i => s.size - (intOf i).toNat)
      case atStart => exact ⟨0, Nat.zero_le _, rfl, rfl⟩
      case round =>
        obtain ⟨k, hk, rfl, hall⟩ := hrel
        have HA := hideP hall
        clear hall
        by_cases hlt : k < s.size
        · have hts := hideP (take_snoc s k hlt)
          by_cases ha : 97 ≤ (s[k].toNat : Int)
          · by_cases hz : (s[k].toNat : Int) ≤ 122
            · go_wp2
              go_round
              case rel => exact ⟨k + 1, by omega, by go_num, by rw [hts.out, List.all_append, HA.out]; simp [lowB, ha, hz]⟩
              case measure => simp [intOf]; omega
            · have hno := hideP (keyB_no (s := s) (x := s[k]) (Array.getElem_mem_toList _) (by simp [lowB, hz]))
              go_wp2
              go_ret
              exact ⟨ret_bool hno.out.symm, rfl⟩
          · have hno := hideP (keyB_no (s := s) (x := s[k]) (Array.getElem_mem_toList _) (by simp [lowB, ha]))
            go_wp2
            go_ret
            exact ⟨ret_bool hno.out.symm, rfl⟩
        · go_wp2
          go_ret
          exact ⟨ret_bool (by have := HA.out; rw [List.take_of_length_le (by simp; omega)] at this; simp [keyB, h1, h2, this]), rfl⟩
    · go_enter Tryz.func67, Tryz.ntmps67
      go_wp2
      go_ret
      exact ⟨ret_bool (by simp [keyB, h2]), rfl⟩
  · go_enter Tryz.func67, Tryz.ntmps67
    go_wp2
    go_ret
    exact ⟨ret_bool (by simp [keyB, h1]), rfl⟩
end Go.Proofs.YtcopmdgcjnkiaaaGreat

set_option linter.unusedVariables false
set_option linter.unusedSimpArgs false
namespace Go.Proofs.YtcopmdgcjnkiaaaGreat
open Go.RowKit

set_option maxHeartbeats 400000 in
theorem check_any (A : Option Addr) (c : Nat) (l : List Pr) (w : World) (hA : PS w w.heap.size A l) (hl : l.length < 4611686018427387904) :
    Calls Tryz.prog 46 #[.slice A l.length c] w fun e w' => e = .returned (.int .i64 (chk ByteArray.empty l)) ∧ Below w.heap.size w w' := by
  go_enter Tryz.func46, Tryz.ntmps46
  go_wp2
  go_loopw [3, 8] (fun s i wr => ∃ (k : Nat) (bf : ByteArray), k ≤ l.length ∧ i = .int .i64 k ∧ s = .string bf ∧ chk ByteArray.empty l = chk bf (l.drop k) ∧ Below w.heap.size w wr) (fun _ i _ => l.length - (intOf i).toNat)
  case atStart => exact ⟨0, ByteArray.empty, Nat.zero_le _, rfl, rfl, rfl, Below.refl _ _⟩
  case round =>
    obtain ⟨k, bf, hk, rfl, rfl, hchk, hb⟩ := hrel
    have HC := hideP hchk
    clear hchk
    by_cases hlt : k < l.length
    · obtain ⟨b, o, rfl, hbl, c1, c2⟩ := hA.below hb k _ (List.getElem?_eq_getElem hlt)
      clear hA
      generalize hp : l[k] = p at c1 c2
      have HP := hideP hp
      clear hp
      have hsz := hb.size
      have HB := (hb.alloc hb.size (.cells #[.string p.1, .int .i64 p.2] 64))
      cases hkb : keyB p.1
      · go_wp2_with fail
        refine (key_any _ _).mono ?_
        rintro e w' ⟨rfl, rfl⟩
        go_wp2_with fail
        go_ret
        exact ⟨ret_int (by rw [HC.out, chk_key hlt HP.out hkb]), HB⟩
      · cases hvb : valB p.2
        · go_wp2_with fail
          refine (key_any _ _).mono ?_
          rintro e w' ⟨rfl, rfl⟩
          go_wp2_with fail
          refine (value_any _ _).mono ?_
          rintro e w' ⟨rfl, rfl⟩
          go_wp2_with fail
          go_ret
          exact ⟨ret_int (by rw [HC.out, chk_val hlt HP.out hkb hvb]), HB⟩
        · by_cases h0 : p.2 = 0
          · have d0 : (p.2 == 0) = true := by simp [h0]
            have H0 := hideP h0
            clear h0
            go_wp2_with fail
            refine (key_any _ _).mono ?_
            rintro e w' ⟨rfl, rfl⟩
            go_wp2_with fail
            refine (value_any _ _).mono ?_
            rintro e w' ⟨rfl, rfl⟩
            go_wp2_with fail
            go_ret
            exact ⟨ret_int (by rw [HC.out, chk_zero hlt HP.out hkb hvb H0.out]), HB⟩
          · have d0 : (p.2 == 0) = false := by simp [h0]
            have H0 := hideP h0
            clear h0
            cases hle : leB p.1 bf
            · have HL := hideP hle
              have d1 : Op.bytesLess p.1.toList bf.toList = false := by simp [leB] at hle; exact hle.1
              have d2 : (p.1.toList == bf.toList) = false := by simp [leB] at hle; simpa using hle.2
              clear hle
              go_wp2_with fail
              refine (key_any _ _).mono ?_
              rintro e w' ⟨rfl, rfl⟩
              go_wp2_with fail
              refine (value_any _ _).mono ?_
              rintro e w' ⟨rfl, rfl⟩
              go_wp2_with fail
              go_roundw
              case rel => exact ⟨k + 1, p.1, by omega, by go_num, rfl, by rw [HC.out, chk_next hlt HP.out hkb hvb H0.out HL.out], HB⟩
              case measure => simp [intOf]; omega
            · have HL := hideP hle
              have d1 : (Op.bytesLess p.1.toList bf.toList || p.1.toList == bf.toList) = true := by simpa [leB] using hle
              clear hle
              go_wp2_with fail
              refine (key_any _ _).mono ?_
              rintro e w' ⟨rfl, rfl⟩
              go_wp2_with fail
              refine (value_any _ _).mono ?_
              rintro e w' ⟨rfl, rfl⟩
              go_wp2_with fail
              go_ret
              exact ⟨ret_int (by rw [HC.out, chk_ord hlt HP.out hkb hvb H0.out HL.out]), HB⟩
    · go_wp2
      go_ret
      exact ⟨ret_int (by rw [HC.out, List.drop_of_length_le (by omega)]; rfl), hb⟩
end Go.Proofs.YtcopmdgcjnkiaaaGreat

set_option linter.unusedVariables false
set_option linter.unusedSimpArgs false
namespace Go.Proofs.YtcopmdgcjnkiaaaGreat
open Go.RowKit

set_option maxHeartbeats 400000 in
set_option maxRecDepth 100000 in
theorem compareString_any (a b : ByteArray) (w : World) :
    Calls Tryz.prog 109 #[.string a, .string b] w fun e w' => e = .returned (.int .i64 (cmpB a b)) ∧ w = w' := by
  go_enter Tryz.func109, Tryz.ntmps109
  go_wp2
  rw [run_callFunc_extern Tryz.func115 (by kernel_rfl) (by kernel_rfl) (by kernel_rfl) (e := Extern.BytealgCompare.compare) (by kernel_rfl), Lib.run_compareString]
  simp only [Result.andThen]
  rw [Oper.upon_value]
  go_wp2
  go_ret
  exact ⟨rfl, rfl⟩

set_option maxHeartbeats 400000 in
theorem compare_any (a b : ByteArray) (w : World) :
    Calls Tryz.prog 88 #[.string a, .string b] w fun e w' => e = .returned (.int .i64 (cmpB a b)) ∧ w = w' := by
  go_enter Tryz.func88, Tryz.ntmps88
  go_wp2_with fail
  refine (compareString_any _ _ _).mono ?_
  rintro e w' ⟨rfl, rfl⟩
  go_wp2_with fail
  go_ret
  exact ⟨rfl, rfl⟩

set_option maxHeartbeats 400000 in
theorem find1_any (a b : ByteArray) (n : Int) (w : World) :
    Calls Tryz.prog 87 #[.agg #[.string a, .int .i64 n], .string b] w fun e w' => e = .returned (.int .i64 (cmpB a b)) ∧ w.alloc (.cells #[.string a, .int .i64 n] 64) = w' := by
  go_enter Tryz.func87, Tryz.ntmps87
  go_wp2_with fail
  refine (compare_any _ _ _).mono ?_
  rintro e w' ⟨rfl, rfl⟩
  go_wp2_with fail
  go_ret
  exact ⟨rfl, rfl⟩

set_option maxHeartbeats 400000 in
set_option maxRecDepth 100000 in
theorem search_any (A : Option Addr) (c : Nat) (l : List Pr) (key : ByteArray) (q : Nat) (w : World) (hA : PS w w.heap.size A l) (hl : l.length < 4611686018427387904) (hq : At l key q) :
    Calls Tryz.prog 86 #[.slice A l.length c, .string key, .func (.func 87) #[] #[]] w fun e w' =>
      e = .returned (.tuple #[.int .i64 q, .bool (fnd l key q)]) ∧ Below w.heap.size w w' := by
  go_enter Tryz.func86, Tryz.ntmps86
  go_wp2
  go_loopw [9, 10] (fun i j wr => ∃ (a b : Nat), a ≤ q ∧ q ≤ b ∧ b ≤ l.length ∧ i = .int .i64 a ∧ j = .int .i64 b ∧ Below w.heap.size w wr) (fun i j _ => (intOf j - intOf i).toNat)
  case atStart => exact ⟨0, l.length, Nat.zero_le _, hq.le, Nat.le_refl _, rfl, rfl, Below.refl _ _⟩
  case round =>
    obtain ⟨a, b, h1, h2, h3, rfl, rfl, hb⟩ := hrel
    by_cases hlt : a < b
    · have hm : (a + b) / 2 < l.length := by omega
      obtain ⟨bl, o, rfl, hbl, c1, c2⟩ := hA.below hb ((a + b) / 2) _ (List.getElem?_eq_getElem hm)
      have HL := hideP (hq.lo ((a + b) / 2) hm)
      have HH := hideP (hq.hi ((a + b) / 2) hm)
      clear hA hq
      generalize l[(a + b) / 2] = p at c1 c2 HL HH
      have HB := (hb.alloc hb.size (.cells #[.string p.1, .int .i64 p.2] 64))
      have g1 : (0 : Int) ≤ ((a : Int) + (b : Int)) / 2 := by omega
      have g2 : ((a : Int) + (b : Int)) / 2 < (l.length : Int) := by omega
      cases hc : ltB p.1 key
      · have d : decide (cmpB p.1 key < 0) = false := by rw [decide_eq_false_iff_not, cmpB_neg, hc]; simp
        have hqm : q ≤ (a + b) / 2 := by
          rcases Nat.lt_or_ge ((a + b) / 2) q with h | h
          · rw [HL.out h] at hc; cases hc
          · exact h
        clear hc
        go_wp2_with fail
        refine (find1_any _ _ _ _).mono ?_
        rintro e w' ⟨rfl, rfl⟩
        go_wp2_with fail
        go_roundw
        case rel => exact ⟨a, (a + b) / 2, h1, hqm, by omega, rfl, by go_num, HB⟩
        case measure => simp [intOf]; omega
      · have d : decide (cmpB p.1 key < 0) = true := by rw [decide_eq_true_iff, cmpB_neg, hc]
        have hqm : (a + b) / 2 < q := by
          rcases Nat.lt_or_ge ((a + b) / 2) q with h | h
          · exact h
          · rw [HH.out h] at hc; cases hc
        clear hc
        go_wp2_with fail
        refine (find1_any _ _ _ _).mono ?_
        rintro e w' ⟨rfl, rfl⟩
        go_wp2_with fail
        go_roundw
        case rel => exact ⟨(a + b) / 2 + 1, b, by omega, h2, h3, by go_num, rfl, HB⟩
        case measure => simp [intOf]; omega
    · obtain rfl : a = q := by omega
      obtain rfl : a = b := by omega
      clear h1 h2 hlt
      by_cases hlt : a < l.length
      · obtain ⟨bl, o, rfl, hbl, c1, c2⟩ := hA.below hb a _ (List.getElem?_eq_getElem hlt)
        have HF := hideP (show fnd l key a = (cmpB (l[a]).1 key == 0) by simp [fnd, hlt])
        clear hA hq
        generalize l[a] = p at c1 c2 HF
        have HB := (hb.alloc hb.size (.cells #[.string p.1, .int .i64 p.2] 64))
        go_wp2_with fail
        refine (find1_any _ _ _ _).mono ?_
        rintro e w' ⟨rfl, rfl⟩
        go_wp2_with fail
        go_ret2
        exact ⟨ret_ib rfl HF.out.symm, HB⟩
      · have HF := hideP (show fnd l key a = false by simp [fnd, hlt])
        go_wp2_with fail
        go_ret2
        exact ⟨ret_ib rfl HF.out.symm, hb⟩

set_option maxHeartbeats 400000 in
theorem find_any (A : Option Addr) (c : Nat) (l : List Pr) (key : ByteArray) (q : Nat) (w : World) (hA : PS w w.heap.size A l) (hl : l.length < 4611686018427387904) (hq : At l key q) :
    Calls Tryz.prog 72 #[.slice A l.length c, .string key] w fun e w' => e = .returned (.tuple #[.int .i64 q, .bool (fnd l key q)]) ∧ Below w.heap.size w w' := by
  go_enter Tryz.func72, Tryz.ntmps72
  go_wp2_with fail
  refine (search_any A c l key q _ hA hl hq).mono ?_
  rintro e w' ⟨rfl, hb⟩
  go_wp2_with fail
  go_ret2
  exact ⟨rfl, hb⟩
end Go.Proofs.YtcopmdgcjnkiaaaGreat
