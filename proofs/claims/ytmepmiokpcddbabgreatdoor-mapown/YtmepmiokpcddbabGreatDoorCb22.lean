/-
  deed.checkOp: what it answers.
  deed.Check: what it answers.
  deed.Run.
  (*parts.Parts).Do.
-/
import Derived.Test.YtmepmiokpcddbabGreatDoorCb3
import Derived.Test.YtmepmiokpcddbabGreatDoorCb2
import Derived.Test.YtmepmiokpcddbabGreatDoorCb21
import Derived.Test.YtmepmiokpcddbabGreatDoorCb20
import Derived.Test.YtmepmiokpcddbabGreatDoorCb18
import Derived.Deep.RegionHeld3
set_option linter.unusedVariables false
set_option linter.unusedSimpArgs false
namespace Go.Proofs.YtmepmiokpcddbabGreatDoor
open Go.RowKit

set_option maxHeartbeats 1000000 in
theorem checkOp_any (o : Opr) (w : World) :
    Calls Tryz.prog 104 #[opV o] w fun e w' => e = .returned (.int .i64 (chkO o)) ∧ Below w.heap.size w w' := by
  obtain ⟨kd, key, src, n⟩ := o
  unfold opV
  have HB := (Below.refl w.heap.size w).alloc (Nat.le_refl _) (.cells #[.int .i64 kd, .string key, .string src, .int .i64 n] 93)
  by_cases h1 : kd < 1
  · go_enter Tryz.func104, Tryz.ntmps104
    go_wp2_with fail
    go_ret
    exact ⟨ret_int (by simp [chkO, h1]), HB⟩
  by_cases h2 : 5 < kd
  · go_enter Tryz.func104, Tryz.ntmps104
    go_wp2_with fail
    go_ret
    exact ⟨ret_int (by simp [chkO, h1, h2]), HB⟩
  cases hK : keyB key
  · go_enter Tryz.func104, Tryz.ntmps104
    go_wp2_with fail
    refine (key_any _ _).mono ?_
    rintro e w' ⟨rfl, rfl⟩
    go_wp2_with fail
    go_ret
    exact ⟨ret_int (by simp [chkO, h1, h2, hK]), HB⟩
  by_cases h3 : kd = 3 ∨ kd = 5
  · cases hS : keyB src
    · have hc : chkO ⟨kd, key, src, n⟩ = 3 := by simp [chkO, h1, h2, hK, hS, h3]
      have HC := hideP hc
      clear hc
      rcases h3 with rfl | rfl
      all_goals
        go_enter Tryz.func104, Tryz.ntmps104
        go_wp2_with fail
        refine (key_any _ _).mono ?_
        rintro e w' ⟨rfl, rfl⟩
        go_wp2_with fail
        refine (key_any _ _).mono ?_
        rintro e w' ⟨rfl, rfl⟩
        go_wp2_with fail
        go_ret
        exact ⟨ret_int HC.out.symm, HB⟩
    by_cases hE : src = key
    · have hc : chkO ⟨kd, key, src, n⟩ = 3 := by simp [chkO, h1, h2, hK, h3, hE]
      have HC := hideP hc
      clear hc
      have d1 : (src.toList == key.toList) = true := by simp [hE]
      clear hE
      rcases h3 with rfl | rfl
      all_goals
        go_enter Tryz.func104, Tryz.ntmps104
        go_wp2_with fail
        refine (key_any _ _).mono ?_
        rintro e w' ⟨rfl, rfl⟩
        go_wp2_with fail
        refine (key_any _ _).mono ?_
        rintro e w' ⟨rfl, rfl⟩
        go_wp2_with fail
        go_ret
        exact ⟨ret_int HC.out.symm, HB⟩
    have d1 := bytes_ne hE
    rcases h3 with rfl | rfl
    · have HC := hideP (show chkO ⟨3, key, src, n⟩ = 0 by simp [chkO, hK, hS, hE])
      clear hE
      go_enter Tryz.func104, Tryz.ntmps104
      go_wp2_with fail
      refine (key_any _ _).mono ?_
      rintro e w' ⟨rfl, rfl⟩
      go_wp2_with fail
      refine (key_any _ _).mono ?_
      rintro e w' ⟨rfl, rfl⟩
      go_wp2_with fail
      go_ret
      exact ⟨ret_int HC.out.symm, HB⟩
    cases hV : valB n
    · have HC := hideP (show chkO ⟨5, key, src, n⟩ = 1 by simp [chkO, hK, hS, hE, hV])
      clear hE
      go_enter Tryz.func104, Tryz.ntmps104
      go_wp2_with fail
      refine (key_any _ _).mono ?_
      rintro e w' ⟨rfl, rfl⟩
      go_wp2_with fail
      refine (key_any _ _).mono ?_
      rintro e w' ⟨rfl, rfl⟩
      go_wp2_with fail
      refine (value_any _ _).mono ?_
      rintro e w' ⟨rfl, rfl⟩
      go_wp2_with fail
      go_ret
      exact ⟨ret_int HC.out.symm, HB⟩
    by_cases hN : n < 0
    · have HC := hideP (show chkO ⟨5, key, src, n⟩ = 1 by simp [chkO, hK, hS, hE, hV, hN])
      clear hE
      go_enter Tryz.func104, Tryz.ntmps104
      go_wp2_with fail
      refine (key_any _ _).mono ?_
      rintro e w' ⟨rfl, rfl⟩
      go_wp2_with fail
      refine (key_any _ _).mono ?_
      rintro e w' ⟨rfl, rfl⟩
      go_wp2_with fail
      refine (value_any _ _).mono ?_
      rintro e w' ⟨rfl, rfl⟩
      go_wp2_with fail
      go_ret
      exact ⟨ret_int HC.out.symm, HB⟩
    · have HC := hideP (show chkO ⟨5, key, src, n⟩ = 0 by simp [chkO, hK, hS, hE, hV, hN])
      clear hE
      go_enter Tryz.func104, Tryz.ntmps104
      go_wp2_with fail
      refine (key_any _ _).mono ?_
      rintro e w' ⟨rfl, rfl⟩
      go_wp2_with fail
      refine (key_any _ _).mono ?_
      rintro e w' ⟨rfl, rfl⟩
      go_wp2_with fail
      refine (value_any _ _).mono ?_
      rintro e w' ⟨rfl, rfl⟩
      go_wp2_with fail
      go_ret
      exact ⟨ret_int HC.out.symm, HB⟩
  · have h4 : kd = 1 ∨ kd = 2 ∨ kd = 4 := by omega
    cases hV : valB n
    · have HC := hideP (show chkO ⟨kd, key, src, n⟩ = 1 by simp [chkO, h1, h2, hK, hV]; omega)
      clear h3
      rcases h4 with rfl | rfl | rfl
      all_goals
        go_enter Tryz.func104, Tryz.ntmps104
        go_wp2_with fail
        refine (key_any _ _).mono ?_
        rintro e w' ⟨rfl, rfl⟩
        go_wp2_with fail
        refine (value_any _ _).mono ?_
        rintro e w' ⟨rfl, rfl⟩
        go_wp2_with fail
        go_ret
        exact ⟨ret_int HC.out.symm, HB⟩
    · have HC := hideP (show chkO ⟨kd, key, src, n⟩ = 0 by simp [chkO, h1, h2, hK, hV]; omega)
      clear h3
      rcases h4 with rfl | rfl | rfl
      all_goals
        go_enter Tryz.func104, Tryz.ntmps104
        go_wp2_with fail
        refine (key_any _ _).mono ?_
        rintro e w' ⟨rfl, rfl⟩
        go_wp2_with fail
        refine (value_any _ _).mono ?_
        rintro e w' ⟨rfl, rfl⟩
        go_wp2_with fail
        go_ret
        exact ⟨ret_int HC.out.symm, HB⟩

end Go.Proofs.YtmepmiokpcddbabGreatDoor

set_option linter.unusedVariables false
set_option linter.unusedSimpArgs false
namespace Go.Proofs.YtmepmiokpcddbabGreatDoor
open Go.RowKit

set_option maxHeartbeats 400000 in
theorem dcheck_any (A : Option Addr) (c : Nat) (l : List Opr) (w : World) (hA : OS w w.heap.size A l) :
    Calls Tryz.prog 63 #[.agg #[.slice A l.length c]] w fun e w' => e = .returned (.int .i64 (chkD l)) ∧ Below w.heap.size w w' := by
  have HB := (Below.refl w.heap.size w).alloc (Nat.le_refl _) (.cells #[.slice A l.length c] 24)
  by_cases h1 : l.length < 1
  · have HC := hideP (show chkD l = 2 by simp [chkD, h1])
    have h1' : (l.length : Int) < 1 := by omega
    go_enter Tryz.func63, Tryz.ntmps63
    go_wp2_with fail
    go_ret
    exact ⟨ret_int HC.out.symm, HB⟩
  have h1' : ¬ (l.length : Int) < 1 := by omega
  by_cases h2 : 8 < l.length
  · have HC := hideP (show chkD l = 2 by simp [chkD, h1, h2])
    have h2' : (8 : Int) < (l.length : Int) := by omega
    go_enter Tryz.func63, Tryz.ntmps63
    go_wp2_with fail
    go_ret
    exact ⟨ret_int HC.out.symm, HB⟩
  have h2' : ¬ (8 : Int) < (l.length : Int) := by omega
  have HC := hideP (show chkD l = chkOs l by simp [chkD, h1, h2])
  go_enter Tryz.func63, Tryz.ntmps63
  go_wp2_with fail
  go_loopw [19] (fun i wr => ∃ k : Nat, k ≤ l.length ∧ i = .int .i64 k ∧ chkOs l = chkOs (l.drop k) ∧ Below w.heap.size w wr) (fun i _ => l.length - (intOf i).toNat)
  case atStart => exact ⟨0, Nat.zero_le _, rfl, rfl, HB⟩
  case round =>
    obtain ⟨k, hk, rfl, hchk, hb⟩ := hrel
    by_cases hlt : k < l.length
    · rw [chkOs_next hlt] at hchk
      obtain ⟨b, o, rfl, hbl, c1, c2, c3, c4⟩ := hA.below hb k _ (List.getElem?_eq_getElem hlt)
      clear hA HB
      generalize l[k] = p at c1 c2 c3 c4 hchk
      have HK := hideP hchk
      clear hchk
      have hb2 := (hb.alloc hb.size (.cells #[.int .i64 p.kind, .string p.key, .string p.src, .int .i64 p.n] 93))
      go_wp2_with fail
      refine (checkOp_any p _).mono ?_
      rintro e w3 ⟨rfl, hb3⟩
      have hb4 := hb2.trans (hb3.mono hb2.size)
      clear hb hb2 hb3
      by_cases h0 : chkO p = 0
      · have H0 := hideP h0
        rw [h0]
        clear h0
        go_wp2_with fail
        go_roundw
        case rel => exact ⟨k + 1, by omega, by go_num, by rw [HK.out, if_pos H0.out], hb4⟩
        case measure => simp [intOf]; omega
      · have H0 := hideP h0
        have d0 : (chkO p != 0) = true := by simp [h0]
        clear h0
        generalize hq : chkO p = q at d0
        have HQ := hideP hq
        clear hq
        go_wp2_with fail
        go_ret
        exact ⟨ret_int (by rw [HC.out, HK.out, if_neg H0.out, HQ.out]), hb4⟩
    · go_wp2_with fail
      go_ret
      exact ⟨ret_int (by rw [HC.out, hchk, List.drop_of_length_le (by omega)]; rfl), hb⟩
end Go.Proofs.YtmepmiokpcddbabGreatDoor

set_option linter.unusedVariables false
set_option linter.unusedSimpArgs false
namespace Go.Proofs.YtmepmiokpcddbabGreatDoor
open Go.RowKit

/-- what Run hands back: the store that is left, in memory of its own, and whether the transaction was executed -/
def RetRun (w : World) (r : VF × Bool) (e : Ending) (w' : World) : Prop :=
  ∃ A c l, e = .returned (.tuple #[.slice A (l : List Pr).length c, .bool r.2, .int .i64 0]) ∧ OV w' w.heap.size A c l ∧ Ok l ∧ valOf l = r.1 ∧ Below w.heap.size w w'
theorem doneV_take {v : VF} {l : List Opr} {k : Nat} {u : VF} (h : k < l.length) (hu : runV v (l.take k) = some u) (hn : stepV u l[k] = none) : doneV v l = (v, false) :=
  doneV_none (runV_none (k := k + 1) (by rw [runV_take h hu, hn]))

/-- while the operations are executed -/
def RunInv (B : Nat) (w4 : World) (v : VF) (d : List Opr) (s i : Value) (wr : World) : Prop :=
  ∃ (k : Nat) (A : Option Addr) (c : Nat) (l : List Pr), k ≤ d.length ∧ i = .int .i64 k ∧ s = .slice A l.length c ∧ OV wr B A c l ∧ Ok l ∧ runV v (d.take k) = some (valOf l) ∧ Below w4.heap.size w4 wr

set_option maxHeartbeats 1000000 in
set_option maxRecDepth 100000 in
theorem run_ok (A D : Option Addr) (c cd : Nat) (l : List Pr) (d : List Opr) (w : World) (hA : SV w A c l) (h : Ok l) (hD : OS w w.heap.size D d) (hd : chkD d = 0) :
    Calls Tryz.prog 100 #[.slice A l.length c, .agg #[.slice D d.length cd]] w (RetRun w (doneV (valOf l) d)) := by
  have hll := h.small
  obtain ⟨hd1, hd8, hdo⟩ := chkD_zero.1 hd
  have HD := hideP hd
  have HC := hideP (chk_ok.2 h)
  clear hd
  have hb0 := (Below.refl w.heap.size w).alloc (Nat.le_refl _) (.cells #[.slice D d.length cd] 24)
  go_enter Tryz.func100, Tryz.ntmps100
  go_wp2_with fail
  have hA0 := hA.below hb0
  have hD0 := hD.go hb0
  have hat : (w.alloc (.cells #[.slice D d.length cd] 24)).cell? ⟨w.heap.size, 0, none⟩ = some (.slice D d.length cd) := by simp
  have hlt : w.heap.size < (w.alloc (.cells #[.slice D d.length cd] 24)).heap.size := by simp
  generalize w.alloc (.cells #[.slice D d.length cd] 24) = w0 at hA0 hD0 hb0 hat hlt ⊢
  refine (check_any A c l _ hA0.ps (by omega)).mono ?_
  rintro e w1 ⟨rfl, hb1⟩
  rw [HC.out]
  have hA1 := hA0.below hb1
  have hD1 := hD0.go hb1
  have hat1 := (hb1.cell (p := ⟨w.heap.size, 0, none⟩) hlt).trans hat
  have hlt1 := Nat.lt_of_lt_of_le hlt hb1.size
  have hb2 := hb0.trans (hb1.mono hb0.size)
  clear hA0 hD0 hat hlt hb0 hb1 hA hD
  go_wp2_with fail
  refine (dcheck_any D cd d _ hD1).mono ?_
  rintro e w2 ⟨rfl, hb3⟩
  rw [HD.out]
  have hA2 := hA1.below hb3
  have hD2 := hD1.go hb3
  have hat2 := (hb3.cell (p := ⟨w.heap.size, 0, none⟩) hlt1).trans hat1
  have hlt2 := Nat.lt_of_lt_of_le hlt1 hb3.size
  have hb4 := hb2.trans (hb3.mono hb2.size)
  clear hA1 hD1 hat1 hlt1 hb2 hb3
  go_wp2_with fail
  refine (concat1 _ _ rfl A _ c l rfl hA2.ps (by omega)).mono ?_
  rintro e w4 ⟨v4, rfl, hown, hb5⟩
  obtain ⟨A4, c4, rfl, hO⟩ := OV.of_own hown
  have hb6 := (Below.refl w2.heap.size w2).alloc (Nat.le_refl _) (.cells #[.slice A l.length c] 58)
  have hb7 := hb6.trans (hb5.mono hb6.size)
  have hA4 := hA2.below hb7
  have hD4 := hD2.go hb7
  have hat4 := (hb7.cell (p := ⟨w.heap.size, 0, none⟩) hlt2).trans hat2
  have hlt4 := Nat.lt_of_lt_of_le hlt2 hb7.size
  have hb8 := hb4.trans (hb7.mono hb4.size)
  have hO4 : OV w4 w.heap.size A4 c4 l := hO.mono (Nat.le_trans hb4.size hb6.size)
  clear hA2 hD2 hat2 hlt2 hb4 hb5 hb6 hb7 hO hown
  go_wp2_with fail
  go_loopw [9, 30] (RunInv w.heap.size w4 (valOf l) d) (fun _ i _ => d.length - (intOf i).toNat)
  case atStart => exact ⟨0, A4, c4, l, Nat.zero_le _, rfl, rfl, hO4, h, rfl, Below.refl _ _⟩
  case round =>
    obtain ⟨k, Ak, ck, lk, hk, rfl, rfl, hOk, hok, hrun, hb⟩ := hrel
    have hRun := hideP hrun
    clear hrun hO4
    by_cases hlt : k < d.length
    · have hchk := hdo _ (List.getElem_mem hlt)
      obtain ⟨b, o, rfl, hbl, q1, q2, q3, q4⟩ := (hD4.below hb) k _ (List.getElem?_eq_getElem hlt)
      have hTake := hideP (fun u (hu : runV (valOf l) (d.take k) = some u) => runV_take hlt hu)
      generalize hgo : d[k] = p at hchk q1 q2 q3 q4
      have HG := hideP hgo
      clear hgo hdo
      have hsz := Nat.le_trans hb8.size hb.size
      have hb9 := hb.alloc hb.size (.cells #[.int .i64 p.kind, .string p.key, .string p.src, .int .i64 p.n] 93)
      have hO9 := hOk.below ((Below.refl _ wr).alloc (Nat.le_refl _) (.cells #[.int .i64 p.kind, .string p.key, .string p.src, .int .i64 p.n] 93))
      go_wp2_with fail
      refine (step_any w.heap.size Ak ck lk p _ hO9 (by simp; omega) hok hchk).mono ?_
      rintro e w5 ⟨A5, c5, l5, ok5, rfl, hr5, hb10⟩
      have hb11 := hb9.trans (hb10.mono hb9.size)
      clear hb9 hb10 hb hO9 hOk
      cases hst : stepV (valOf lk) p with
      | none =>
        rw [hst] at hr5
        obtain rfl : ok5 = false := hr5
        have HF := hideP (doneV_take hlt hRun.out (by rw [HG.out]; exact hst))
        clear hst
        have hA5 := hA4.below hb11
        have hb12 := hb8.trans (hb11.mono hb8.size)
        go_wp2_with fail
        refine (concat1 _ _ rfl A _ c l rfl hA5.ps (by omega)).mono ?_
        rintro e w6 ⟨v6, rfl, hown6, hb13⟩
        obtain ⟨A6, c6, rfl, hO6⟩ := OV.of_own hown6
        have hb14 := (hb12.alloc hb12.size (.cells #[.slice A l.length c] 58))
        have hO7 : OV w6 w.heap.size A6 c6 l := hO6.mono hb14.size
        have hb15 := hb14.trans (hb13.mono hb14.size)
        clear hown6 hO6 hb13 hb14 hb12
        go_wp2_with fail
        go_ret3
        exact ⟨A6, c6, l, by rw [HF.out]; rfl, hO7, h, by rw [HF.out], hb15⟩
      | some u =>
        rw [hst] at hr5
        obtain ⟨rfl, hO5, hok5, hv5⟩ := hr5
        have HV := hideP (show runV (valOf l) (d.take (k + 1)) = some (valOf l5) by rw [hTake.out _ hRun.out, HG.out, hst, hv5])
        clear hst hv5
        go_wp2_with fail
        go_roundw
        case rel => exact ⟨k + 1, A5, c5, l5, by omega, by go_num, rfl, hO5, hok5, HV.out, hb11⟩
        case measure => simp [intOf]; omega
    · have HF := hideP (show doneV (valOf l) d = (valOf lk, true) from doneV_some (by rw [← hRun.out, List.take_of_length_le (by omega)]))
      have hb12 := hb8.trans (hb.mono hb8.size)
      go_wp2_with fail
      go_ret3
      exact ⟨Ak, ck, lk, by rw [HF.out]; rfl, hOk, hok, by rw [HF.out], hb12⟩

/-- what Run answers where something is wrong -/
def chkR (l : List Pr) (d : List Opr) : Int := if chk ByteArray.empty l = 0 then chkD d else chk ByteArray.empty l
set_option maxHeartbeats 400000 in
set_option maxRecDepth 100000 in
theorem run_bad (A D : Option Addr) (c cd : Nat) (l : List Pr) (d : List Opr) (w : World) (hA : SV w A c l) (hl : l.length < 4611686018427387904) (hD : OS w w.heap.size D d) (h : chkR l d ≠ 0) :
    Calls Tryz.prog 100 #[.slice A l.length c, .agg #[.slice D d.length cd]] w fun e w' => e = .returned (.tuple #[.slice none 0 0, .bool false, .int .i64 (chkR l d)]) ∧ Below w.heap.size w w' := by
  have hb0 := (Below.refl w.heap.size w).alloc (Nat.le_refl _) (.cells #[.slice D d.length cd] 24)
  have hA0 := hA.below hb0
  have hD0 := hD.go hb0
  have hat : (w.alloc (.cells #[.slice D d.length cd] 24)).cell? ⟨w.heap.size, 0, none⟩ = some (.slice D d.length cd) := by simp
  have hlt : w.heap.size < (w.alloc (.cells #[.slice D d.length cd] 24)).heap.size := by simp
  clear hA hD
  by_cases hC : chk ByteArray.empty l = 0
  · have HC := hideP hC
    have HR := hideP (show chkR l d = chkD d by simp [chkR, hC])
    have d0 : (chkD d != 0) = true := by simp [chkR, hC] at h; simp [h]
    clear h hC
    generalize hq : chkD d = q at d0
    have HQ := hideP hq
    clear hq
    go_enter Tryz.func100, Tryz.ntmps100
    go_wp2_with fail
    generalize w.alloc (.cells #[.slice D d.length cd] 24) = w0 at hA0 hD0 hb0 hat hlt ⊢
    refine (check_any A c l _ hA0.ps hl).mono ?_
    rintro e w1 ⟨rfl, hb1⟩
    rw [HC.out]
    have hD1 := hD0.go hb1
    have hat1 := (hb1.cell (p := ⟨w.heap.size, 0, none⟩) hlt).trans hat
    have hb2 := hb0.trans (hb1.mono hb0.size)
    clear hA0 hD0 hat hlt hb0 hb1
    go_wp2_with fail
    refine (dcheck_any D cd d _ hD1).mono ?_
    rintro e w2 ⟨rfl, hb3⟩
    rw [HQ.out]
    have hb4 := hb2.trans (hb3.mono hb2.size)
    go_wp2_with fail
    go_ret3
    exact ⟨by rw [HR.out, HQ.out]; rfl, hb4⟩
  · have HR := hideP (show chkR l d = chk ByteArray.empty l by simp [chkR, hC])
    have d0 : (chk ByteArray.empty l != 0) = true := by simp [hC]
    clear h hC
    generalize hq : chk ByteArray.empty l = q at d0
    have HQ := hideP hq
    clear hq
    go_enter Tryz.func100, Tryz.ntmps100
    go_wp2_with fail
    refine (check_any A c l _ hA0.ps hl).mono ?_
    rintro e w1 ⟨rfl, hb1⟩
    rw [HQ.out]
    have hb2 := hb0.trans (hb1.mono hb0.size)
    go_wp2_with fail
    go_ret3
    exact ⟨by rw [HR.out, HQ.out]; rfl, hb2⟩
end Go.Proofs.YtmepmiokpcddbabGreatDoor

set_option linter.unusedVariables false
set_option linter.unusedSimpArgs false
namespace Go.Proofs.YtmepmiokpcddbabGreatDoor
open Go.RowKit

/-- the parts are written anew -/
theorem PB.fill {w w5 : World} {B g : Nat} {m : Mp} {l l' : List Pr} {q q' : Dv} (h : PB w5 B g m l q) (hB : B ≤ w.heap.size) (hbe : Below w.heap.size w w5) (hq : q'.Own w5 w.heap.size m.cs m.os l' 4) (hl : Ok l') :
    PB ((((w5.setCell ⟨g, 2, none⟩ (q'.s m.cs m.os l' 0)).setCell ⟨g, 3, none⟩ (q'.s m.cs m.os l' 1)).setCell ⟨g, 4, none⟩ (q'.s m.cs m.os l' 2)).setCell ⟨g, 5, none⟩ (q'.s m.cs m.os l' 3)) B g m l' q' ∧
      w.grownBy ((((w5.setCell ⟨g, 2, none⟩ (q'.s m.cs m.os l' 0)).setCell ⟨g, 3, none⟩ (q'.s m.cs m.os l' 1)).setCell ⟨g, 4, none⟩ (q'.s m.cs m.os l' 2)).setCell ⟨g, 5, none⟩ (q'.s m.cs m.os l' 3)) (some g) := by
  have hgr := grown_box (w := w5) (g := g) [(2, q'.s m.cs m.os l' 0), (3, q'.s m.cs m.os l' 1), (4, q'.s m.cs m.os l' 2), (5, q'.s m.cs m.os l' 3)]
  simp only [List.foldl] at hgr
  have b4 := (((h.box.set 2 (q'.s m.cs m.os l' 0)).set 3 (q'.s m.cs m.os l' 1)).set 4 (q'.s m.cs m.os l' 2)).set 5 (q'.s m.cs m.os l' 3)
  exact ⟨⟨b4, h.mo.kept h.box.ty (by decide) (by decide) hgr, (hq.mono hB).kept h.box.ty (by decide) hgr, h.okm, hl, h.low⟩, grown_trans (grown_below hbe _) hgr⟩
/-- what Do hands back, and makes -/
def RetDo (w : World) (B g : Nat) (m : Mp) (r : VF × Bool) (e : Ending) (w' : World) : Prop :=
  e = .returned (.tuple #[.bool r.2, .int .i64 0]) ∧ ∃ l' q', PB w' B g m l' q' ∧ valOf l' = r.1 ∧ w.grownBy w' (some g)

set_option maxHeartbeats 2000000 in
set_option maxRecDepth 100000 in
theorem do_ok (B g : Nat) (m : Mp) (l : List Pr) (q : Dv) (D : Option Addr) (cd : Nat) (d : List Opr) (w : World) (h : PB w B g m l q) (hD : OS w w.heap.size D d) (hd : chkD d = 0) :
    Calls Tryz.prog 55 #[.pointer (some ⟨g, 0, none⟩), .agg #[.slice D d.length cd]] w (RetDo w B g m (doneV (valOf l) d)) := by
  have hb0 := (Below.refl w.heap.size w).alloc (Nat.le_refl _) (.cells #[.slice D d.length cd] 24)
  have y := Box.new w 24 #[.slice D d.length cd]
  have hP := h.below hb0
  have hD0 := hD.go hb0
  have hB : B ≤ w.heap.size := Nat.le_of_lt (Nat.lt_of_le_of_lt h.low h.box.lt)
  have HAL := hideP (fun (W : World) (h : PB W B g m l q) => all_ok B g m l q W h)
  have HRU := hideP (fun (W : World) (A : Option Addr) (c : Nat) (hA : OV W w.heap.size A c l) (h : PB W B g m l q) (hD : OS W W.heap.size D d) => run_ok A D c cd l d W hA.sv h.ok hD hd)
  generalize doneV (valOf l) d = r at HRU ⊢
  clear h hD hd
  go_enter Tryz.func55, Tryz.ntmps55
  go_wp2_with fail
  generalize w.alloc _ = w1 at hb0 hP hD0 y ⊢
  generalize hgd : w.heap.size = gd at y ⊢
  have hgd' : w.heap.size ≤ w1.heap.size := hb0.size
  replace hP := hP.below (Below.refl _ _).drew
  replace y := y.drew
  replace hD0 := hD0.go (Below.refl _ _).drew
  replace hb0 := hb0.drew
  go_region_held3 (fun W => W.cell? ⟨gd, 0, none⟩ = some (.slice D d.length cd)) (first | with_reducible exact y3.cell 0 rfl | with_reducible exact y2.cell 0 rfl | with_reducible exact y.cell 0 rfl) (first
    | (go_at_call 59; refine (HAL.out _ hP).mono ?_; rintro e w2 ⟨A2, c2, rfl, ho2, hb2⟩; have hP2 := hP.below hb2; have y2 := y.below hb2; have hD2 := hD0.go hb2; have hb2' := hb0.trans (hb2.mono hb0.size))
    | (go_at_call 100; refine (HRU.out _ A2 c2 (ho2.mono hgd') hP2 hD2).mono ?_; rintro e w3 ⟨A3, c3, l3, rfl, ho3, hok3, hv3, hb3⟩; have hP3 := hP2.below hb3; have y3 := y2.below hb3; have hb3' := hb2'.trans (hb3.mono hb2'.size)))
  have HV := hideP hv3
  have z1 := hP3.c0
  have z2 := hP3.c1
  clear hv3 hP hP2 hD0 hD2 hb0 hb2 hb2' hb3 y y2 y3 HAL HRU ho2 hgd
  go_wp2_with fail
  refine (divide_ok m A3 c3 l3 _ hP3.mo.ms ho3.sv.ps hP3.okm hok3).mono ?_
  rintro e w4 ⟨q', rfl, hq, hb4⟩
  have hP4 := hP3.below hb4
  have hb4' := hb3'.trans (hb4.mono hb3'.size)
  have hq4 := hq.mono hb3'.size
  clear hP3 hb3' hb4 hq ho3 z1 z2
  simp only [Dv.ar]
  have HFI := hideP (fun (W : World) (h : PB W B g m l q) (hbe : Below w.heap.size w W) (hq : q'.Own W w.heap.size m.cs m.os l3 4) => h.fill hB hbe hq hok3)
  obtain ⟨a0, n0, c0, e0⟩ : ∃ a n c, q'.s m.cs m.os l3 0 = .slice a n c := ⟨_, _, _, rfl⟩
  obtain ⟨a1, n1, c1, e1⟩ : ∃ a n c, q'.s m.cs m.os l3 1 = .slice a n c := ⟨_, _, _, rfl⟩
  obtain ⟨a2, n2, c2', e2⟩ : ∃ a n c, q'.s m.cs m.os l3 2 = .slice a n c := ⟨_, _, _, rfl⟩
  obtain ⟨a3, n3, c3', e3⟩ : ∃ a n c, q'.s m.cs m.os l3 3 = .slice a n c := ⟨_, _, _, rfl⟩
  rw [e0, e1, e2, e3] at HFI ⊢
  clear e0 e1 e2 e3 hok3
  have ha := (Below.refl w4.heap.size w4).alloc (Nat.le_refl _) (.cells #[.slice a0 n0 c0, .slice a1 n1 c1, .slice a2 n2 c2', .slice a3 n3 c3'] 136)
  have hP5 := hP4.below ha
  have hb5 := hb4'.trans (ha.mono hb4'.size)
  have hq5 := hq4.below ha
  have y := Box.new w4 136 #[.slice a0 n0 c0, .slice a1 n1 c1, .slice a2 n2 c2', .slice a3 n3 c3']
  have HF := hideP (HFI.out _ hP5 hb5 hq5)
  have o1 := hP5.box.set 2 (.slice a0 n0 c0)
  have o2 := o1.set 3 (.slice a1 n1 c1)
  have o3 := o2.set 4 (.slice a2 n2 c2')
  have f0 := hP5.box.frozen 2
  have f1 := o1.frozen 3
  have f2 := o2.frozen 4
  have f3 := o3.frozen 5
  have d0 := hP5.box.cell 2 rfl
  have d1 := o1.cell 3 (v := q.s m.cs m.os l 1) rfl
  have d2 := o2.cell 4 (v := q.s m.cs m.os l 2) rfl
  have d3 := o3.cell 5 (v := q.s m.cs m.os l 3) rfl
  have k0 := y.cell 0 (v := .slice a0 n0 c0) rfl
  have k1 := y.cell 1 (v := .slice a1 n1 c1) rfl
  have k2 := y.cell 2 (v := .slice a2 n2 c2') rfl
  have k3 := y.cell 3 (v := .slice a3 n3 c3') rfl
  clear o1 o2 o3 hP4 hq4 hb4' ha hP5 hb5 hq5 HFI y
  go_wp2_with fail
  go_ret2
  exact ⟨rfl, l3, q', HF.out.1, HV.out, HF.out.2⟩
end Go.Proofs.YtmepmiokpcddbabGreatDoor
