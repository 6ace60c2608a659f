/-
  deed.Clash.
  plan.clash.
  slices.Index and slices.Contains at ints.
-/
import Derived.Test.YtefdipjhjgmokaaGreatBv48
import Derived.Test.YtefdipjhjgmokaaGreatBv41
import Derived.Test.YtefdipjhjgmokaaGreatBv47
import Derived.Test.YtefdipjhjgmokaaGreatBv49
import Derived.Test.YtefdipjhjgmokaaGreatBv2
import Derived.Deep.RegionHeld3
import Derived.Deep.QuietTactic
import Derived.BigQuiet
set_option linter.unusedVariables false
set_option linter.unusedSimpArgs false
namespace Go.Proofs.YtefdipjhjgmokaaGreat
open Go.RowKit

set_option maxHeartbeats 400000 in
set_option maxRecDepth 100000 in
theorem pred_any (b : Nat) (A : Option Addr) (c : Nat) (ys : List ByteArray) (x : ByteArray) (w : World) (hc : w.cell? ⟨b, 0, none⟩ = some (.slice A ys.length c)) (hA : VS w A (ys.map Value.string)) (hl : ys.length < 4611686018427387904) :
    Calls Tryz.prog 99 #[.string x, .pointer (some ⟨b, 0, none⟩)] w fun e w' => e = .returned (.bool (inB x ys)) ∧ Below w.heap.size w w' := by
  go_enter Tryz.func99, Tryz.ntmps99
  go_wp2_with fail
  refine (scontains_any A c ys x _ hA hl).mono ?_
  rintro e w' ⟨rfl, rfl⟩
  go_wp2_with fail
  go_ret
  exact ⟨rfl, Below.refl _ _⟩

set_option maxHeartbeats 400000 in
set_option maxRecDepth 100000 in
theorem indexFunc_any (b : Nat) (A1 A2 : Option Addr) (c1 c2 : Nat) (xs ys : List ByteArray) (w : World) (hb : b < w.heap.size) (hc : w.cell? ⟨b, 0, none⟩ = some (.slice A2 ys.length c2)) (h1 : VS w A1 (xs.map Value.string)) (h2 : VS w A2 (ys.map Value.string)) (l1 : xs.length < 4611686018427387904) (l2 : ys.length < 4611686018427387904) :
    Calls Tryz.prog 111 #[.slice A1 xs.length c1, .func (.func 99) #[] #[.pointer (some ⟨b, 0, none⟩)]] w fun e w' => ∃ r : Int, e = .returned (.int .i64 r) ∧ decide (0 ≤ r) = comB xs ys ∧ Below w.heap.size w w' := by
  go_enter Tryz.func111, Tryz.ntmps111
  go_wp2_with fail
  go_loopw [8] (fun i wr => ∃ k : Nat, k ≤ xs.length ∧ i = .int .i64 k ∧ comB (xs.take k) ys = false ∧ Below w.heap.size w wr) (fun i _ => xs.length - (intOf i).toNat)
  case atStart => exact ⟨0, Nat.zero_le _, rfl, rfl, Below.refl _ _⟩
  case round =>
    obtain ⟨k, hk, rfl, hnot, hbw⟩ := hrel
    have HN := hideP hnot
    clear hnot
    by_cases hlt : k < xs.length
    · obtain ⟨b1, o1, rfl, hbl, q1⟩ := h1.below hbw k (.string xs[k]) (by simp [hlt])
      have hc' := (hbw.cell (p := ⟨b, 0, none⟩) hb).trans hc
      have h2' := h2.below hbw
      have HT := hideP (show comB (xs.take (k + 1)) ys = (comB (xs.take k) ys || inB xs[k] ys) by unfold comB; rw [List.take_succ_eq_append_getElem hlt, List.any_append]; simp)
      have HM := hideP (fun (h : inB xs[k] ys = true) => comB_iff.2 ⟨xs[k], List.getElem_mem hlt, inB_iff.1 h⟩)
      clear h1 h2 hc
      generalize xs[k] = s at q1 HT HM
      have g1 : (0 : Int) ≤ (k : Int) := by omega
      have g2 : (k : Int) < (xs.length : Int) := by omega
      go_wp2_with fail
      refine (pred_any b A2 c2 ys s _ hc' h2' l2).mono ?_
      rintro e w1 ⟨rfl, hb1⟩
      have hb2 := hbw.trans (hb1.mono hbw.size)
      cases hin : inB s ys
      · have HI := hideP hin
        clear hin
        go_wp2_with fail
        go_roundw
        case rel => exact ⟨k + 1, by omega, by go_num, by rw [HT.out, HN.out, HI.out]; rfl, hb2⟩
        case measure => simp [intOf]; omega
      · have HI := hideP hin
        clear hin
        go_wp2_with fail
        go_ret
        exact ⟨k, rfl, by rw [HM.out HI.out]; simp, hb2⟩
    · go_wp2_with fail
      go_ret
      exact ⟨-1, rfl, by have := HN.out; rw [List.take_of_length_le (by omega)] at this; rw [this]; rfl, hbw⟩

set_option maxHeartbeats 400000 in
set_option maxRecDepth 100000 in
theorem containsFunc_any (b : Nat) (A1 A2 : Option Addr) (c1 c2 : Nat) (xs ys : List ByteArray) (w : World) (hb : b < w.heap.size) (hc : w.cell? ⟨b, 0, none⟩ = some (.slice A2 ys.length c2)) (h1 : VS w A1 (xs.map Value.string)) (h2 : VS w A2 (ys.map Value.string)) (l1 : xs.length < 4611686018427387904) (l2 : ys.length < 4611686018427387904) :
    Calls Tryz.prog 83 #[.slice A1 xs.length c1, .func (.func 99) #[] #[.pointer (some ⟨b, 0, none⟩)]] w fun e w' => e = .returned (.bool (comB xs ys)) ∧ Below w.heap.size w w' := by
  go_enter Tryz.func83, Tryz.ntmps83
  go_wp2_with fail
  refine (indexFunc_any b A1 A2 c1 c2 xs ys _ hb hc h1 h2 l1 l2).mono ?_
  rintro e w' ⟨r, rfl, hr, hbw⟩
  have HR := hideP hr
  clear hr
  go_wp2_with fail
  go_ret
  exact ⟨ret_bool HR.out, hbw⟩

set_option maxHeartbeats 400000 in
set_option maxRecDepth 100000 in
theorem common_any (A1 A2 : Option Addr) (c1 c2 : Nat) (xs ys : List ByteArray) (w : World) (h1 : VS w A1 (xs.map Value.string)) (h2 : VS w A2 (ys.map Value.string)) (l1 : xs.length < 4611686018427387904) (l2 : ys.length < 4611686018427387904) :
    Calls Tryz.prog 98 #[.slice A1 xs.length c1, .slice A2 ys.length c2] w fun e w' => e = .returned (.bool (comB xs ys)) ∧ Below w.heap.size w w' := by
  have hb0 := (Below.refl w.heap.size w).alloc (Nat.le_refl _) (.cells #[.slice A2 ys.length c2] 33)
  have h1' := h1.below hb0
  have h2' := h2.below hb0
  go_enter Tryz.func98, Tryz.ntmps98
  go_wp2_with fail
  refine (containsFunc_any w.heap.size A1 A2 c1 c2 xs ys _ (by simp) (by simp) h1' h2' l1 l2).mono ?_
  rintro e w' ⟨rfl, hbw⟩
  have hb1 := hb0.trans (hbw.mono hb0.size)
  go_wp2_with fail
  go_ret
  exact ⟨rfl, hb1⟩

set_option maxHeartbeats 400000 in
set_option maxRecDepth 100000 in
theorem clash_ok (D1 D2 : Option Addr) (k1 k2 : Nat) (a b : List Opr) (w : World) (ha : OS w w.heap.size D1 a) (hb : OS w w.heap.size D2 b) (ca : chkD a = 0) (cb : chkD b = 0) :
    Calls Tryz.prog 66 #[.agg #[.slice D1 a.length k1], .agg #[.slice D2 b.length k2]] w fun e w' => e = .returned (.tuple #[.bool (clB a b), .int .i64 0]) ∧ Below w.heap.size w w' := by
  have HC := hideP (show clB a b = (comB (keysOf (wrL a)) (keysOf (wrL b)) || comB (keysOf (wrL a)) (keysOf (rdL b)) || comB (keysOf (rdL a)) (keysOf (wrL b))) by simp only [comB_keysOf]; rfl)
  have lra : (keysOf (rdL a)).length < 4611686018427387904 := by have := keysOf_len (rdL a); have := rdL_len a; have := (chkD_zero.1 ca).2.1; omega
  have lwa : (keysOf (wrL a)).length < 4611686018427387904 := by have := keysOf_len (wrL a); have := wrL_len a; have := (chkD_zero.1 ca).2.1; omega
  have lrb : (keysOf (rdL b)).length < 4611686018427387904 := by have := keysOf_len (rdL b); have := rdL_len b; have := (chkD_zero.1 cb).2.1; omega
  have lwb : (keysOf (wrL b)).length < 4611686018427387904 := by have := keysOf_len (wrL b); have := wrL_len b; have := (chkD_zero.1 cb).2.1; omega
  have hb0 := ((Below.refl w.heap.size w).alloc (Nat.le_refl _) (.cells #[.slice D1 a.length k1] 32)).alloc (by simp) (.cells #[.slice D2 b.length k2] 32)
  have hat : ((w.alloc (.cells #[.slice D1 a.length k1] 32)).alloc (.cells #[.slice D2 b.length k2] 32)).cell? ⟨w.heap.size + 1, 0, none⟩ = some (.slice D2 b.length k2) := by simp
  have hlt : w.heap.size + 1 < ((w.alloc (.cells #[.slice D1 a.length k1] 32)).alloc (.cells #[.slice D2 b.length k2] 32)).heap.size := by simp
  have ha0 := ha.go hb0
  have hbb0 := hb.go hb0
  clear ha hb
  go_enter Tryz.func66, Tryz.ntmps66
  go_wp2_with fail
  generalize (w.alloc (.cells #[.slice D1 a.length k1] 32)).alloc (.cells #[.slice D2 b.length k2] 32) = w0 at hb0 hat hlt ha0 hbb0 ⊢
  refine (keys_ok D1 k1 a _ ha0 ca).mono ?_
  rintro e w1 ⟨A1, c1, A2, c2, rfl, hT1, hb1⟩
  have hat1 := (hb1.cell (p := ⟨w.heap.size + 1, 0, none⟩) hlt).trans hat
  have hb2 := hb0.trans (hb1.mono hb0.size)
  have hbb1 := hbb0.go hb1
  clear ha0 hbb0 hat hlt hb0 hb1
  go_wp2_with fail
  refine (keys_ok D2 k2 b _ hbb1 cb).mono ?_
  rintro e w2 ⟨A3, c3, A4, c4, rfl, hT2, hb3⟩
  have hb4 := hb2.trans (hb3.mono hb2.size)
  have v1 := (hT1.o1.below hb3).vs
  have v2 := (hT1.o2.below hb3).vs
  have v3 := hT2.o1.vs
  have v4 := hT2.o2.vs
  clear hT1 hT2 hb2 hb3 hbb1 hat1
  generalize keysOf (wrL a) = wa at HC lwa v2 ⊢
  generalize keysOf (rdL a) = ra at HC lra v1 ⊢
  generalize keysOf (wrL b) = wb at HC lwb v4 ⊢
  generalize keysOf (rdL b) = rb at HC lrb v3 ⊢
  go_wp2_with fail
  refine (common_any A2 A4 c2 c4 wa wb _ v2 v4 lwa lwb).mono ?_
  rintro e w5 ⟨rfl, hb5⟩
  have hb6 := hb4.trans (hb5.mono hb4.size)
  have v1' := v1.below hb5
  have v2' := v2.below hb5
  have v3' := v3.below hb5
  have v4' := v4.below hb5
  clear v1 v2 v3 v4 hb4 hb5
  cases x1 : comB wa wb
  · go_wp2_with fail
    refine (common_any A2 A3 c2 c3 wa rb _ v2' v3' lwa lrb).mono ?_
    rintro e w7 ⟨rfl, hb7⟩
    have hb8 := hb6.trans (hb7.mono hb6.size)
    have v1 := v1'.below hb7
    have v4 := v4'.below hb7
    clear v1' v2' v3' v4' hb6 hb7
    cases x2 : comB wa rb
    · go_wp2_with fail
      refine (common_any A1 A4 c1 c4 ra wb _ v1 v4 lra lwb).mono ?_
      rintro e w9 ⟨rfl, hb9⟩
      have hb10 := hb8.trans (hb9.mono hb8.size)
      go_wp2_with fail
      go_ret2
      exact ⟨by rw [HC.out, x1, x2]; rfl, hb10⟩
    · go_wp2_with fail
      go_ret2
      exact ⟨by rw [HC.out, x1, x2]; rfl, hb8⟩
  · go_wp2_with fail
    go_ret2
    exact ⟨by rw [HC.out, x1]; rfl, hb6⟩

/-- the error of Check of two transactions, the first one first -/
def chkD2 (a b : List Opr) : Int := if chkD a = 0 then chkD b else chkD a
set_option maxHeartbeats 400000 in
set_option maxRecDepth 100000 in
theorem clash_bad (D1 D2 : Option Addr) (k1 k2 : Nat) (a b : List Opr) (w : World) (ha : OS w w.heap.size D1 a) (hb : OS w w.heap.size D2 b) (hc : chkD2 a b ≠ 0) :
    Calls Tryz.prog 66 #[.agg #[.slice D1 a.length k1], .agg #[.slice D2 b.length k2]] w fun e w' => e = .returned (.tuple #[.bool false, .int .i64 (chkD2 a b)]) ∧ Below w.heap.size w w' := by
  have hb0 := ((Below.refl w.heap.size w).alloc (Nat.le_refl _) (.cells #[.slice D1 a.length k1] 32)).alloc (by simp) (.cells #[.slice D2 b.length k2] 32)
  have hat : ((w.alloc (.cells #[.slice D1 a.length k1] 32)).alloc (.cells #[.slice D2 b.length k2] 32)).cell? ⟨w.heap.size + 1, 0, none⟩ = some (.slice D2 b.length k2) := by simp
  have hlt : w.heap.size + 1 < ((w.alloc (.cells #[.slice D1 a.length k1] 32)).alloc (.cells #[.slice D2 b.length k2] 32)).heap.size := by simp
  have ha0 := ha.go hb0
  have hbb0 := hb.go hb0
  clear ha hb
  by_cases ca : chkD a = 0
  · have cb : chkD b ≠ 0 := by simpa [chkD2, ca] using hc
    have HR := hideP (show chkD2 a b = chkD b by simp [chkD2, ca])
    have d0 : (chkD b != 0) = true := by simp [cb]
    clear hc
    go_enter Tryz.func66, Tryz.ntmps66
    go_wp2_with fail
    generalize (w.alloc (.cells #[.slice D1 a.length k1] 32)).alloc (.cells #[.slice D2 b.length k2] 32) = w0 at hb0 hat hlt ha0 hbb0 ⊢
    refine (keys_ok D1 k1 a _ ha0 ca).mono ?_
    rintro e w1 ⟨A1, c1, A2, c2, rfl, hT1, hb1⟩
    have hat1 := (hb1.cell (p := ⟨w.heap.size + 1, 0, none⟩) hlt).trans hat
    have hb2 := hb0.trans (hb1.mono hb0.size)
    have hbb1 := hbb0.go hb1
    clear ha0 hbb0 hat hlt hb0 hb1 hT1
    go_wp2_with fail
    refine (keys_bad D2 k2 b _ hbb1 cb).mono ?_
    rintro e w2 ⟨rfl, hb3⟩
    have hb4 := hb2.trans (hb3.mono hb2.size)
    clear cb
    generalize chkD b = q at d0 HR ⊢
    go_wp2_with fail
    go_ret2
    exact ⟨by rw [HR.out]; rfl, hb4⟩
  · have HR := hideP (show chkD2 a b = chkD a by simp [chkD2, ca])
    have d0 : (chkD a != 0) = true := by simp [ca]
    clear hc
    go_enter Tryz.func66, Tryz.ntmps66
    go_wp2_with fail
    refine (keys_bad D1 k1 a _ ha0 ca).mono ?_
    rintro e w1 ⟨rfl, hb1⟩
    have hb2 := hb0.trans (hb1.mono hb0.size)
    clear ca
    generalize chkD a = q at d0 HR ⊢
    go_wp2_with fail
    go_ret2
    exact ⟨by rw [HR.out]; rfl, hb2⟩
end Go.Proofs.YtefdipjhjgmokaaGreat

set_option linter.unusedVariables false
set_option linter.unusedSimpArgs false
namespace Go.Proofs.YtefdipjhjgmokaaGreat
open Go.RowKit

set_option maxHeartbeats 400000 in
set_option maxRecDepth 100000 in
theorem pclash_ok (D1 D2 : Option Addr) (k1 k2 : Nat) (a b : List Opr) (w : World) (ha : OS w w.heap.size D1 a) (hb : OS w w.heap.size D2 b) (ca : chkD a = 0) (cb : chkD b = 0) :
    Calls Tryz.prog 36 #[.agg #[.slice D1 a.length k1], .agg #[.slice D2 b.length k2]] w fun e w' => e = .returned (.bool (clB a b)) ∧ Below w.heap.size w w' := by
  have hb0 := ((Below.refl w.heap.size w).alloc (Nat.le_refl _) (.cells #[.slice D1 a.length k1] 32)).alloc (by simp) (.cells #[.slice D2 b.length k2] 32)
  have ha0 := ha.go hb0
  have hbb0 := hb.go hb0
  clear ha hb
  have HC := hideP (clash_ok D1 D2 k1 k2 a b _ ha0 hbb0 ca cb)
  go_enter Tryz.func36, Tryz.ntmps36
  go_wp2_with fail
  refine HC.out.mono ?_
  rintro e w1 ⟨rfl, hb1⟩
  have hb2 := hb0.trans (hb1.mono hb0.size)
  go_wp2_with fail
  go_ret
  exact ⟨rfl, hb2⟩
end Go.Proofs.YtefdipjhjgmokaaGreat

set_option linter.unusedVariables false
set_option linter.unusedSimpArgs false
namespace Go.Proofs.YtefdipjhjgmokaaGreat
open Go.RowKit

set_option maxHeartbeats 400000 in
set_option maxRecDepth 100000 in
theorem iindex_any (A : Option Addr) (c : Nat) (l : List Int) (x : Int) (w : World) (hA : IS w A l) (hl : l.length < 4611686018427387904) :
    Calls Tryz.prog 97 #[.slice A l.length c, .int .i64 x] w fun e w' => ∃ r : Int, e = .returned (.int .i64 r) ∧ decide (0 ≤ r) = inI x l ∧ w = w' := by
  go_enter Tryz.func97, Tryz.ntmps97
  go_wp2_with fail
  go_loop [8] (fun i => ∃ k : Nat, k ≤ l.length ∧ i = .int .i64 k ∧ x ∉ l.take k) (fun i => l.length - (intOf i).toNat)
  case atStart => exact ⟨0, Nat.zero_le _, rfl, by simp⟩
  case round =>
    obtain ⟨k, hk, rfl, hnot⟩ := hrel
    have HN := hideP hnot
    clear hnot
    by_cases hlt : k < l.length
    · obtain ⟨b, o, rfl, hbl, q1⟩ := hA k l[k] (List.getElem?_eq_getElem hlt)
      have hmem := hideP (List.getElem_mem hlt)
      have hnx := hideP (fun (h2 : x ≠ l[k]) => show x ∉ l.take (k + 1) from by
        rw [List.take_succ_eq_append_getElem hlt]
        intro hm
        rcases List.mem_append.1 hm with hm | hm
        · exact HN.out hm
        · exact h2 (by simpa using hm))
      clear hA
      generalize l[k] = s at q1 hmem hnx
      by_cases he : x = s
      · have d1 : (x == s) = true := by simp [he]
        have HE := hideP he
        clear he
        go_wp2_with fail
        go_ret
        exact ⟨k, rfl, by have := hmem.out; rw [← HE.out] at this; rw [inI_iff.2 this]; simp, rfl⟩
      · have d1 : (x == s) = false := by simp [he]
        have HE := hideP he
        clear he
        go_wp2_with fail
        go_round
        case rel => exact ⟨k + 1, by omega, by go_num, hnx.out HE.out⟩
        case measure => simp [intOf]; omega
    · go_wp2_with fail
      go_ret
      exact ⟨-1, rfl, by have := HN.out; rw [List.take_of_length_le (by omega)] at this; rw [inI_no.2 this]; rfl, rfl⟩

set_option maxHeartbeats 400000 in
set_option maxRecDepth 100000 in
theorem icontains_any (A : Option Addr) (c : Nat) (l : List Int) (x : Int) (w : World) (hA : IS w A l) (hl : l.length < 4611686018427387904) :
    Calls Tryz.prog 65 #[.slice A l.length c, .int .i64 x] w fun e w' => e = .returned (.bool (inI x l)) ∧ w = w' := by
  go_enter Tryz.func65, Tryz.ntmps65
  go_wp2_with fail
  refine (iindex_any A c l x _ hA hl).mono ?_
  rintro e w' ⟨r, rfl, hr, rfl⟩
  have HR := hideP hr
  clear hr
  go_wp2_with fail
  go_ret
  exact ⟨ret_bool HR.out, rfl⟩

end Go.Proofs.YtefdipjhjgmokaaGreat
