/-
  roref.within, Key and Value: what they answer.
  roref.Map: the error of a map.
  roref.Num, plainly (no program in it).
-/
import Derived.Test.YtmepmiokpcddbabGreatDoorCa19
import Derived.Test.YtmepmiokpcddbabGreatDoorCa8
import Derived.Shelf.Strings.SlTrimAscii
import Derived.Test.YtmepmiokpcddbabGreatDoorCa4
import Derived.Test.YtmepmiokpcddbabGreatDoorCa2
set_option linter.unusedVariables false
set_option linter.unusedSimpArgs false
namespace Go.Proofs.YtmepmiokpcddbabGreatDoor
open Go.RowKit Go.WideMaps Go.Maps

set_option maxHeartbeats 400000 in
theorem rwithin_any (x a b : Int) (w : World) :
    Calls Tryz.prog 73 #[.int .i64 x, .int .i64 a, .int .i64 b] w fun e w' => e = .returned (.bool (decide (a ≤ x) && decide (x ≤ b))) ∧ w = w' := by
  by_cases h1 : a ≤ x <;> by_cases h2 : x ≤ b
  all_goals
    go_enter Tryz.func73, Tryz.ntmps73
    go_wp2
    go_ret
    exact ⟨ret_bool (by simp [h1, h2]), rfl⟩

set_option maxHeartbeats 400000 in
theorem rvalue_any (n : Int) (w : World) : Calls Tryz.prog 75 #[.int .i64 n] w fun e w' => e = .returned (.bool (valB n)) ∧ w = w' := by
  go_enter Tryz.func75, Tryz.ntmps75
  go_wp2_with fail
  refine (rwithin_any n (-1000000000) 1000000000 _).mono ?_
  rintro e w' ⟨rfl, rfl⟩
  rw [show (decide ((-1000000000 : Int) ≤ n) && decide (n ≤ 1000000000)) = valB n from rfl]
  go_wp2_with fail
  go_ret
  exact ⟨rfl, rfl⟩

def abcL : List UInt8 := [97, 98, 99, 100, 101, 102, 103, 104, 105, 106, 107, 108, 109, 110, 111, 112, 113, 114, 115, 116, 117, 118, 119, 120, 121, 122]
theorem abc_low : ∀ c : UInt8, abcL.contains c = lowB c := by
  have h : ∀ n : Fin 256, abcL.contains (UInt8.ofNat n.val) = lowB (UInt8.ofNat n.val) := by decide +kernel
  intro c
  have := h ⟨c.toNat, c.toNat_lt⟩
  simpa using this
theorem dropWhile_nil {p : UInt8 → Bool} {l : List UInt8} : l.dropWhile p = [] ↔ l.all p = true := by
  induction l with
  | nil => simp
  | cons a r ih => cases h : p a <;> simp [List.dropWhile_cons, h, ih]
theorem all_append_dropWhile {p : UInt8 → Bool} (l : List UInt8) : l.all p = (l.dropWhile p).all p := by
  induction l with
  | nil => rfl
  | cons a r ih => cases h : p a <;> simp [List.dropWhile_cons, h, ih]
theorem trim_nil (l : List UInt8) : (Lib.trimS l abcL).isEmpty = l.all lowB := by
  have e : (fun c => abcL.contains c) = lowB := funext abc_low
  unfold Lib.trimS Lib.trimLeftS Lib.trimRightS
  rw [e]
  have h : (l.reverse.dropWhile lowB).reverse.all lowB = l.all lowB := by
    rw [List.all_reverse, ← all_append_dropWhile, List.all_reverse]
  rw [← h]
  rw [Bool.eq_iff_iff, List.isEmpty_iff, dropWhile_nil]

set_option maxHeartbeats 400000 in
set_option maxRecDepth 100000 in
theorem rkeyR_any (s : ByteArray) (w : World) : Calls Tryz.prog 74 #[.string s] w fun e w' => e = .returned (.bool (keyB s)) ∧ Below w.heap.size w w' := by
  by_cases hin : 1 ≤ s.size ∧ s.size ≤ 6
  · have hcon := Any.strings_Trim_laid Tryz.trim (by kernel_rfl) s ⟨#[97, 98, 99, 100, 101, 102, 103, 104, 105, 106, 107, 108, 109, 110, 111, 112, 113, 114, 115, 116, 117, 118, 119, 120, 121, 122]⟩ w (by omega) (by decide) (ascii_of_all (by decide))
    change Calls Tryz.prog 114 _ _ (fun e w' => e = .returned (.string ⟨(Lib.trimS s.data.toList abcL).toArray⟩) ∧ Below w.heap.size w w') at hcon
    have ht := trim_nil s.data.toList
    have hk : keyB s = (⟨(Lib.trimS s.data.toList abcL).toArray⟩ : ByteArray).toList.isEmpty := by
      rw [ByteArray.toList_eq]
      show keyB s = (Lib.trimS s.data.toList abcL).isEmpty
      rw [ht]; simp [keyB, hin.1, hin.2]
    generalize (⟨(Lib.trimS s.data.toList abcL).toArray⟩ : ByteArray) = r at hcon hk
    have HC := hideP hcon
    have HK := hideP hk
    clear hcon hk ht
    go_enter Tryz.func74, Tryz.ntmps74
    go_wp2_with fail
    refine (rwithin_any _ _ _ _).mono ?_
    rintro e w' ⟨rfl, rfl⟩
    rw [show (decide ((1 : Int) ≤ (s.size : Int)) && decide ((s.size : Int) ≤ 6)) = true by simp; omega]
    cases hr : r.toList.isEmpty
    · go_wp2_with fail
      refine HC.out.mono ?_
      rintro e w1 ⟨rfl, hb⟩
      go_wp2_with fail
      go_ret
      exact ⟨ret_bool (by rw [HK.out, hr]), hb⟩
    · go_wp2_with fail
      refine HC.out.mono ?_
      rintro e w1 ⟨rfl, hb⟩
      go_wp2_with fail
      go_ret
      exact ⟨ret_bool (by rw [HK.out, hr]), hb⟩
  · have hk : keyB s = false := by
      cases h : keyB s
      · rfl
      · simp [keyB] at h; exact absurd h.1 hin
    have HK := hideP hk
    clear hk
    go_enter Tryz.func74, Tryz.ntmps74
    go_wp2_with fail
    refine (rwithin_any _ _ _ _).mono ?_
    rintro e w' ⟨rfl, rfl⟩
    rw [show (decide ((1 : Int) ≤ (s.size : Int)) && decide ((s.size : Int) ≤ 6)) = false by rw [Bool.eq_false_iff]; simp; omega]
    go_wp2_with fail
    go_ret
    exact ⟨ret_bool HK.out.symm, Below.refl _ _⟩
end Go.Proofs.YtmepmiokpcddbabGreatDoor

set_option linter.unusedVariables false
set_option linter.unusedSimpArgs false
namespace Go.Proofs.YtmepmiokpcddbabGreatDoor
open Go.RowKit

set_option maxHeartbeats 400000 in
theorem rown_any (n : Int) (w : World) : Calls Tryz.prog 78 #[.int .i64 n] w fun e w' => e = .returned (.bool (!ownB n)) ∧ w = w' := by
  go_enter Tryz.func78, Tryz.ntmps78
  go_wp2_with fail
  refine (rwithin_any n 0 3 _).mono ?_
  rintro e w' ⟨rfl, rfl⟩
  generalize hv : (decide (0 ≤ n) && decide (n ≤ 3)) = v
  have HV := hideP hv
  clear hv
  go_wp2_with fail
  go_ret
  exact ⟨by rw [← HV.out]; rfl, rfl⟩

set_option maxHeartbeats 400000 in
set_option maxRecDepth 100000 in
theorem rownIdx_any (A : Option Addr) (c : Nat) (xs : List Int) (w : World) (h1 : IS w A xs) (l1 : xs.length < 4611686018427387904) :
    Calls Tryz.prog 115 #[.slice A xs.length c, .func (.func 78) #[] #[]] w fun e w' => ∃ r : Int, e = .returned (.int .i64 r) ∧ decide (0 ≤ r) = !xs.all ownB ∧ w = w' := by
  go_enter Tryz.func115, Tryz.ntmps115
  go_wp2_with fail
  go_loopw [8] (fun i wr => ∃ k : Nat, k ≤ xs.length ∧ i = .int .i64 k ∧ (xs.take k).all ownB = true ∧ w = wr) (fun i _ => xs.length - (intOf i).toNat)
  case atStart => exact ⟨0, Nat.zero_le _, rfl, rfl, rfl⟩
  case round =>
    obtain ⟨k, hk, rfl, hnot, rfl⟩ := hrel
    have HN := hideP hnot
    clear hnot
    by_cases hlt : k < xs.length
    · obtain ⟨b1, o1, rfl, hbl, q1⟩ := h1 k xs[k] (by simp [hlt])
      have HT := hideP (show (xs.take (k + 1)).all ownB = ((xs.take k).all ownB && ownB xs[k]) by rw [List.take_succ_eq_append_getElem hlt, List.all_append]; simp)
      have HM := hideP (fun (h : ownB xs[k] = false) => show xs.all ownB = false from by
        rw [List.all_eq_false]; exact ⟨xs[k], List.getElem_mem hlt, by simp [h]⟩)
      clear h1
      generalize xs[k] = s at q1 HT HM
      have g1 : (0 : Int) ≤ (k : Int) := by omega
      have g2 : (k : Int) < (xs.length : Int) := by omega
      go_wp2_with fail
      refine (rown_any s _).mono ?_
      rintro e w1 ⟨rfl, rfl⟩
      cases hin : ownB s
      · have HI := hideP hin
        clear hin
        go_wp2_with fail
        go_ret
        exact ⟨k, rfl, by rw [HM.out HI.out]; simp, rfl⟩
      · have HI := hideP hin
        clear hin
        go_wp2_with fail
        go_roundw
        case rel => exact ⟨k + 1, by omega, by go_num, by rw [HT.out, HN.out, HI.out]; rfl, trivial⟩
        case measure => simp [intOf]; omega
    · go_wp2_with fail
      go_ret
      exact ⟨-1, rfl, by have := HN.out; rw [List.take_of_length_le (by omega)] at this; rw [this]; rfl, rfl⟩

set_option maxHeartbeats 400000 in
set_option maxRecDepth 100000 in
theorem rownHas_any (A : Option Addr) (c : Nat) (xs : List Int) (w : World) (h1 : IS w A xs) (l1 : xs.length < 4611686018427387904) :
    Calls Tryz.prog 77 #[.slice A xs.length c, .func (.func 78) #[] #[]] w fun e w' => e = .returned (.bool (!xs.all ownB)) ∧ w = w' := by
  go_enter Tryz.func77, Tryz.ntmps77
  go_wp2_with fail
  refine (rownIdx_any A c xs _ h1 l1).mono ?_
  rintro e w' ⟨r, rfl, hr, rfl⟩
  have HR := hideP hr
  clear hr
  go_wp2_with fail
  go_ret
  exact ⟨ret_bool HR.out, rfl⟩

set_option maxHeartbeats 1000000 in
set_option maxRecDepth 100000 in
theorem rmap_any (m : Mp) (w : World) (hm : MS w m) (l2 : m.os.length ≤ 9223372036854775807) :
    Calls Tryz.prog 13 #[.agg #[.slice m.A m.cs.length m.ca, .slice m.O m.os.length m.co]] w fun e w' => e = .returned (.int .i64 (chkM m.cs m.os)) ∧ Below w.heap.size w w' := by
  have b0 := (Below.refl w.heap.size w).alloc (Nat.le_refl _) (.cells #[.slice m.A m.cs.length m.ca, .slice m.O m.os.length m.co] 28)
  have x0 := Box.new w 28 #[.slice m.A m.cs.length m.ca, .slice m.O m.os.length m.co]
  have hm1 := hm.below b0
  obtain ⟨A, ca, cs, O, co, os⟩ := m
  simp only at hm1 b0 x0 l2 ⊢
  have c0 := x0.cell 0 (v := .slice A cs.length ca) rfl
  have c1 := x0.cell 1 (v := .slice O os.length co) rfl
  have hlt := x0.lt
  clear hm
  go_enter Tryz.func13, Tryz.ntmps13
  by_cases h12 : 12 < cs.length
  · have g : (12 : Int) < (cs.length : Int) := by omega
    have HC := hideP (show chkM cs os = 2 by unfold chkM; rw [if_pos h12])
    clear h12
    go_wp2_with fail
    go_ret
    exact ⟨ret_int (by rw [HC.out]), b0⟩
  have g : ¬ (12 : Int) < (cs.length : Int) := by omega
  have pw : IntKind.i64.wrap ((os.length : Int) - (cs.length : Int)) = (os.length : Int) - (cs.length : Int) := by simp only [IntKind.wrap_i64]; omega
  by_cases hl : os.length = cs.length + 1
  · have e1 : ((os.length : Int) - (cs.length : Int)) = 1 := by omega
    have HC := hideP (show chkM cs os = if cutsB ByteArray.empty cs = false then 3 else if os.all ownB = false then 1 else 0 by unfold chkM; rw [if_neg h12, if_neg (by simp [hl])])
    have HL := hideP hl
    clear hl h12
    go_wp2_with fail
    generalize w.alloc (.cells #[.slice A cs.length ca, .slice O os.length co] 28) = w1 at b0 x0 hm1 c0 c1 hlt ⊢
    have HB := hideP b0
    clear b0 x0
    generalize w.heap.size = g at c0 c1 hlt ⊢
    go_loopw [3, 21] (fun s i wr => ∃ (k : Nat) (bf : ByteArray), k ≤ cs.length ∧ i = .int .i64 k ∧ s = .string bf ∧ cutsB ByteArray.empty cs = cutsB bf (cs.drop k) ∧ Below w1.heap.size w1 wr) (fun _ i _ => cs.length - (intOf i).toNat)
    case atStart => exact ⟨0, ByteArray.empty, Nat.zero_le _, rfl, rfl, rfl, Below.refl _ _⟩
    case round =>
      obtain ⟨k, bf, hk, rfl, rfl, hchk, hb⟩ := hrel
      have HK := hideP hchk
      clear hchk
      have HBB := hideP (HB.out.trans (hb.mono HB.out.size))
      by_cases hkl : k < cs.length
      · obtain ⟨b, o, e, hbl, q1⟩ := hm1.cuts.below hb k (.string cs[k]) (by simp [hkl])
        simp only at e
        subst e
        have HT := hideP (cutsB_next (last := bf) hkl)
        generalize cs[k] = c at q1 HT
        have g1 : (0 : Int) ≤ (k : Int) := by omega
        have g2 : (k : Int) < (cs.length : Int) := by omega
        go_wp2_with fail
        refine (rkeyR_any _ _).mono ?_
        rintro e w2 ⟨rfl, hb2⟩
        have hb3 := hb.trans (hb2.mono hb.size)
        have HB3 := hideP (HB.out.trans (hb3.mono HB.out.size))
        cases hkb : keyB c
        · have HKB := hideP hkb
          clear hkb
          go_wp2_with fail
          go_ret
          exact ⟨ret_int (by rw [HC.out, HK.out, HT.out, HKB.out]; rfl), HB3.out⟩
        · have HKB := hideP hkb
          clear hkb
          cases hle : leB c bf
          · have HL2 := hideP (leB_no.1 hle)
            have d1 : Op.bytesLess c.toList bf.toList = false := by simp [leB] at hle; exact hle.1
            have d2 : (c.toList == bf.toList) = false := by simp [leB] at hle; simpa using hle.2
            clear hle
            go_wp2_with fail
            go_roundw
            case rel => exact ⟨k + 1, c, by omega, by go_num, rfl, by rw [HK.out, HT.out, HKB.out, HL2.out]; rfl, hb3⟩
            case measure => simp [intOf]; omega
          · have HL2 := hideP (leB_iff.1 hle)
            have d1 : (Op.bytesLess c.toList bf.toList || c.toList == bf.toList) = true := by simpa [leB] using hle
            clear hle
            go_wp2_with fail
            go_ret
            exact ⟨ret_int (by rw [HC.out, HK.out, HT.out, HL2.out]; simp), HB3.out⟩
      · have HE := hideP (show cutsB ByteArray.empty cs = true by rw [HK.out, List.drop_of_length_le (by omega)]; rfl)
        have c1' := (hb.cell (p := ⟨g, 1, none⟩) hlt).trans c1
        have hi := hm1.own.below hb
        simp only at hi
        clear hm1
        go_wp2_with fail
        have hos : os.length < 4611686018427387904 := by have := HL.out; omega
        refine (rownHas_any O co os _ hi hos).mono ?_
        rintro e w2 ⟨rfl, rfl⟩
        cases hall : os.all ownB
        · have HA := hideP hall
          clear hall
          go_wp2_with fail
          go_ret
          exact ⟨ret_int (by rw [HC.out, HE.out, HA.out]; rfl), HBB.out⟩
        · have HA := hideP hall
          clear hall
          go_wp2_with fail
          go_ret
          exact ⟨ret_int (by rw [HC.out, HE.out, HA.out]; rfl), HBB.out⟩
  · have e1 : (((os.length : Int) - (cs.length : Int)) == 1) = false := by simp; omega
    have HC := hideP (show chkM cs os = 3 by unfold chkM; rw [if_neg h12, if_pos hl])
    clear hl h12
    go_wp2_with fail
    go_ret
    exact ⟨ret_int (by rw [HC.out]), b0⟩
end Go.Proofs.YtmepmiokpcddbabGreatDoor

set_option linter.unusedVariables false
set_option linter.unusedSimpArgs false
namespace Go.Proofs.YtmepmiokpcddbabGreatDoor
open Go.Lib

/-- the value of digits -/
def dgV : Nat → List UInt8 → Option Nat
  | acc, [] => some acc
  | acc, c :: l => if 48 ≤ c.toNat ∧ c.toNat ≤ 57 then dgV (10 * acc + (c.toNat - 48)) l else none
theorem dgV_app (l r : List UInt8) : ∀ acc, dgV acc (l ++ r) = (dgV acc l).bind fun a => dgV a r := by
  induction l with
  | nil => intro acc; rfl
  | cons c l ih =>
    intro acc
    rw [List.cons_append, dgV, dgV]
    split
    · exact ih _
    · rfl
theorem dgV_dec (u : Nat) : dgV 0 (decDigits u) = some u := by
  induction u using Nat.strongRecOn with
  | _ u ih =>
    by_cases h1 : u < 10
    · rw [decDigits, dif_pos h1, dgV, dig_nat h1, if_pos (by omega), dgV]; congr 1; omega
    · rw [decDigits, dif_neg h1, dgV_app, ih (u / 10) (by omega)]
      have h2 : u % 10 < 10 := by omega
      simp only [Option.bind_some]
      rw [dgV, dig_nat h2, if_pos (by omega), dgV]; congr 1; omega
theorem dgV_lt (l : List UInt8) : ∀ acc u, dgV acc l = some u → u < (acc + 1) * 10 ^ l.length := by
  induction l with
  | nil => intro acc u h; rw [dgV] at h; injection h with h; subst h; simp
  | cons c l ih =>
    intro acc u h
    rw [dgV] at h
    split at h
    · next hc =>
      have h1 := ih _ _ h
      have h3 : (10 * acc + (c.toNat - 48) + 1) * 10 ^ l.length ≤ (acc + 1) * 10 * 10 ^ l.length := Nat.mul_le_mul_right _ (by omega)
      rw [List.length_cons, Nat.pow_succ, Nat.mul_comm (10 ^ l.length), ← Nat.mul_assoc]
      omega
    · cases h
/-- is there a minus sign before it? -/
def ngB (l : List UInt8) : Bool := hasPrefix l [45]
/-- what stands behind it -/
def ngT (l : List UInt8) : List UInt8 := trimPrefix l [45]
theorem ng_cases (l : List UInt8) : (ngB l = true ∧ l = 45 :: ngT l) ∨ (ngB l = false ∧ ngT l = l) := by
  unfold ngB ngT trimPrefix
  cases h : hasPrefix l [45]
  · exact .inr ⟨rfl, by rw [if_neg (by simp)]⟩
  · refine .inl ⟨rfl, ?_⟩
    rw [if_pos rfl]
    obtain ⟨r, rfl⟩ := List.isPrefixOf_iff_prefix.1 h
    rfl
theorem ngT_len (l : List UInt8) : (ngT l).length ≤ l.length := by
  rcases ng_cases l with ⟨_, h⟩ | ⟨_, h⟩
  · have := congrArg List.length h; simp at this; omega
  · rw [h]; exact Nat.le_refl _
def sgV (neg : Bool) (u : Nat) : Int := if neg then -(u : Int) else (u : Int)
theorem rdN_none_of {l : List UInt8} (h : dgV 0 (ngT l) = none) : rdN l = none := by
  cases e : rdN l with
  | none => rfl
  | some y =>
    exfalso
    have h1 := (rdN_some e).1
    rcases ng_cases l with ⟨hn, hl⟩ | ⟨hn, hl⟩
    · by_cases hy : y < 0
      · unfold itoa at h1
        rw [if_pos hy, hl] at h1
        injection h1 with _ h1
        rw [← h1, dgV_dec] at h; cases h
      · unfold itoa at h1
        rw [if_neg hy, hl] at h1
        have := dec_dig y.toNat 45 (by rw [h1]; simp)
        simp at this
    · by_cases hy : y < 0
      · unfold itoa at h1
        rw [if_pos hy] at h1
        have hx : ngB l = true := by rw [← h1]; rfl
        rw [hx] at hn; cases hn
      · unfold itoa at h1
        rw [if_neg hy] at h1
        rw [hl, ← h1, dgV_dec] at h; cases h
/-- what Num answers, once all are digits -/
theorem rdN_dg {l : List UInt8} {u : Nat} (h : dgV 0 (ngT l) = some u) (hl : l.length ≤ 11) : (itoa (sgV (ngB l) u) = l → rdN l = some (sgV (ngB l) u)) ∧ (itoa (sgV (ngB l) u) ≠ l → rdN l = none) ∧ u < 100000000000 := by
  have hu : u < 100000000000 := by
    have h1 := dgV_lt _ _ _ h
    have h2 : 10 ^ (ngT l).length ≤ 10 ^ 11 := Nat.pow_le_pow_right (by decide) (Nat.le_trans (ngT_len l) hl)
    omega
  have hb : -100000000000 < sgV (ngB l) u ∧ sgV (ngB l) u < 100000000000 := by unfold sgV; split <;> omega
  refine ⟨fun e => ?_, fun e => ?_, hu⟩
  · have := rdN_itoa (n := sgV (ngB l) u) (by omega) (by omega) (by rw [e]; exact hl)
    rw [e] at this; exact this
  · cases e2 : rdN l with
    | none => rfl
    | some y =>
      exfalso
      have h1 := (rdN_some e2).1
      refine e ?_
      rcases ng_cases l with ⟨hn, hl2⟩ | ⟨hn, hl2⟩
      · by_cases hy : y < 0
        · have h1' := h1
          unfold itoa at h1
          rw [if_pos hy, hl2] at h1
          injection h1 with _ h1
          rw [← h1, dgV_dec] at h
          injection h with h
          have : sgV (ngB l) u = y := by rw [hn]; unfold sgV; simp; omega
          rw [this]; exact h1'
        · unfold itoa at h1
          rw [if_neg hy, hl2] at h1
          have := dec_dig y.toNat 45 (by rw [h1]; simp)
          simp at this
      · by_cases hy : y < 0
        · unfold itoa at h1
          rw [if_pos hy] at h1
          have hx : ngB l = true := by rw [← h1]; rfl
          rw [hx] at hn; cases hn
        · have h1' := h1
          unfold itoa at h1
          rw [if_neg hy] at h1
          rw [hl2, ← h1, dgV_dec] at h
          injection h with h
          have : sgV (ngB l) u = y := by rw [hn]; unfold sgV; simp; omega
          rw [this]; exact h1'
theorem rdN_long {l : List UInt8} (h : 11 < l.length) : rdN l = none := by unfold rdN; rw [if_pos h]
end Go.Proofs.YtmepmiokpcddbabGreatDoor
