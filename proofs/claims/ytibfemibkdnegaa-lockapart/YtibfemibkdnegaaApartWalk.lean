/-
  rokeep.LockApart: the law answers true.
-/
import Derived.Test.YtibfemibkdnegaaLAll
import Derived.Deep.Cut
set_option linter.unusedVariables false
set_option linter.unusedSimpArgs false
namespace Go.Proofs.Ytibfemibkdnegaa
open Go.RowKit Go.WideMaps Go.Maps

theorem comB_comm (xs ys : List ByteArray) : comB xs ys = comB ys xs := by
  rw [Bool.eq_iff_iff, comB_iff, comB_iff]
  exact ⟨fun ⟨k, h1, h2⟩ => ⟨k, h2, h1⟩, fun ⟨k, h1, h2⟩ => ⟨k, h2, h1⟩⟩
theorem clB_comm (a b : List Opr) : clB a b = clB b a := by
  unfold clB
  rw [comB_comm (wrL b) (wrL a), comB_comm (wrL b) (rdL a), comB_comm (rdL b) (wrL a), Bool.or_assoc, Bool.or_assoc, Bool.or_comm (comB (wrL a) (rdL b))]
/-- of those that may go on -/
structure Rd (R : List Nat) (dd : List (List Opr)) (gone : Nat → Bool) : Prop where
  srt : R.Pairwise (· < ·)
  mem : ∀ a ∈ R, a < dd.length ∧ gone a = false ∧ wtB dd gone a a = false
theorem Lk.rd {left : List En} {dd : List (List Opr)} {gone : Nat → Bool} (h : Lk left dd gone) : Rd (rdyL left left) dd gone := by
  rw [h.rdy]
  refine ⟨List.Pairwise.sublist List.filter_sublist List.pairwise_lt_range, fun a ha => ?_⟩
  obtain ⟨h1, h2⟩ := List.mem_filter.1 ha
  rw [Bool.and_eq_true, Bool.not_eq_true', Bool.not_eq_true'] at h2
  exact ⟨List.mem_range.1 h1, h2.1, h2.2⟩
theorem Rd.apart {R : List Nat} {dd : List (List Opr)} {gone : Nat → Bool} (h : Rd R dd gone) {i j : Nat} (hi : i < R.length) (hj : j < i) : clB (dd.getD R[i] []) (dd.getD (R[j]'(by omega)) []) = false := by
  have h1 := List.pairwise_iff_getElem.1 h.srt j i (by omega) hi hj
  rw [clB_comm]
  exact wtB_iff.1 (h.mem _ (List.getElem_mem hi)).2.2 _ h1 (h.mem _ (List.getElem_mem (show j < R.length by omega))).2.1
theorem Lk.some_ {left : List En} {dd : List (List Opr)} {gone : Nat → Bool} (h : Lk left dd gone) (h0 : 0 < left.length) : 0 < (rdyL left left).length := by
  cases left with
  | nil => simp at h0
  | cons e r =>
    have hr : ruB (e :: r) e = true := (ruB_iff h.asc (by simp)).2 fun x hx hlt => by
      rcases List.mem_cons.1 hx with rfl | hx
      · omega
      · have := (List.pairwise_cons.1 h.asc).1 x hx; omega
    unfold rdyL
    simp [hr]
theorem Lk.free_len {left : List En} {dd : List (List Opr)} {gone : Nat → Bool} (h : Lk left dd gone) {s : Nat} (hs : s < dd.length) (hg : gone s = false) : (left.filter (fun e => !decide ((e.seq : Int) = (s : Int)))).length + 1 = left.length := by
  obtain ⟨e, he, rfl⟩ := h.full s hs hg
  obtain ⟨i, hi, rfl⟩ := List.getElem_of_mem he
  rw [erase_filter h.asc hi, List.length_eraseIdx_of_lt hi]
  omega
theorem wtB_gone {dd : List (List Opr)} {gone gone' : Nat → Bool} (hg : ∀ i, gone i = true → gone' i = true) {k n : Nat} (h : wtB dd gone k n = false) : wtB dd gone' k n = false :=
  wtB_iff.2 fun i hi h1 => wtB_iff.1 h i hi (by cases e : gone i; rfl; rw [hg i e] at h1; cases h1)
/-- while one counts -/
def UpTo (w : World) (n : Nat) (v : Value) (w' : World) : Prop := ∃ k : Nat, k ≤ n ∧ v = .int .i64 k ∧ Below w.heap.size w w'
/-- one is picked -/
def PickRel (w : World) (n : Nat) (v : Value) (w' : World) : Prop := ∃ kk : Nat, kk < n ∧ v = .int .i64 kk ∧ w = w'
/-- while they are freed -/
def ApInv (w1 : World) (ds : List Dl) (v : Value) (wr : World) : Prop :=
  ∃ (n : Nat) (left : List En) (gone : Nat → Bool), v = .int .i64 n ∧ n = left.length ∧ n ≤ 20 ∧ TB wr w1.heap.size w1.heap.size ds.length left ∧ Lk left (ddOf ds) gone ∧ Below w1.heap.size w1 wr

set_option maxHeartbeats 2000000 in
set_option maxRecDepth 100000 in
theorem apart_walk (A T : Option Addr) (c ct : Nat) (cs : List Cl) (zs : List Int) (w : World) (hA : LS w A cs) (hl : cs.length ≤ c) (hc : c ≤ 9223372036854775807) (hn : A = none → c = 0)
    (hT : IS w T zs) (hlt : zs.length ≤ ct) (hct : ct ≤ 9223372036854775807) (hnt : T = none → ct = 0) :
    Calls Try.prog 3 #[.slice A cs.length c, .slice T zs.length ct] w fun e w' => e = .returned (.bool true) ∧ Below w.heap.size w w' := by
  go_enter Try.func3, Try.ntmps3
  go_wp2_with fail
  refine (lbegun_any _).mono ?_
  rintro e w0 ⟨rfl, hb0⟩
  have hA0 := hA.below hb0
  have hT0 := hT.below hb0
  clear hA hT
  go_wp2_with fail
  refine (deeds_any A c 20 cs _ hA0 hl hc hn (by omega)).mono ?_
  rintro e w1 ⟨A1, c1, ds, rfl, hD1, hlen, hb1⟩
  have hb2 := hb0.trans (hb1.mono hb0.size)
  have hT1 := hT0.below hb1
  have hchk := hD1.chk
  have hDS := hD1.ds
  clear hA0 hT0 hb0 hb1 hD1
  go_wp2_with fail
  refine (new_any _).mono ?_
  rintro e w2 ⟨rfl, hTB2, hb3, hlt3⟩
  go_wp2_with fail
  go_loopw [31] (AddsInv w1 ds) (fun i _ => ds.length - (intOf i).toNat)
  case atStart => exact ⟨0, [], Nat.zero_le _, rfl, hTB2, Lk.nil _, hb3⟩
  case round =>
    obtain ⟨k, left, hk, rfl, hTB, hLk, hbw⟩ := hrel
    clear hTB2
    by_cases hkl : k < ds.length
    · obtain ⟨⟨b, o, rfl, hbl, q1⟩, hos⟩ := (hDS.below hbw).at_ hkl
      have hck := hchk _ (List.getElem_mem hkl)
      have HT := hideP (ddOf_take hkl)
      have hdl : (ddOf (ds.take k)).length = k := by rw [ddOf_len, List.length_take]; omega
      generalize ds[k] = x at q1 hos hck HT
      obtain ⟨Dx, cx, dx⟩ := x
      simp only [dlV] at q1 hos hck HT
      have hb4 := (Below.refl wr.heap.size wr).alloc (Nat.le_refl _) (.cells #[.slice Dx dx.length cx] 31)
      have hTB4 := hTB.below hb4
      have hos4 := hos.go hb4
      have hbw4 := hbw.trans (hb4.mono hbw.size)
      have HL := hideP (fun A c => hLk.add rfl A c dx)
      rw [hdl, ← HT.out] at HL
      have r1 : (wr.alloc (.cells #[.slice Dx dx.length cx] 31)).cell? ⟨wr.heap.size, 0, none⟩ = some (.slice Dx dx.length cx) := by simp
      have hv : addV k dx = (k, 0) := by unfold addV; rw [if_pos hck, if_pos (by omega)]
      have g1 : (0 : Int) ≤ (k : Int) := by omega
      have g2 : (k : Int) < (ds.length : Int) := by omega
      have HV := hideP hv
      clear hTB hLk hos hb4 hDS HT hv
      go_wp2_with fail
      refine (add_any w1.heap.size w1.heap.size k left Dx cx dx _ hTB4 hbw4.size hos4).mono ?_
      rintro e w5 ⟨he, hK5, hT5⟩
      rw [HV.out] at he hT5
      subst he
      obtain ⟨A5, c5, hT6⟩ : ∃ A c, TB w5 w1.heap.size w1.heap.size (k + 1) (left ++ [⟨k, A, c, dx⟩]) := by
        rcases hT5 with ⟨_, h⟩ | ⟨h, _⟩
        · exact h
        · exact absurd rfl h
      have hb6 := hbw4.trans hK5.bel
      have hL6 := HL.out A5 c5
      clear hT5 hK5 hTB4 hos4 r1 HV HL
      go_wp2_with fail
      go_roundw
      case rel => exact ⟨k + 1, _, by omega, by go_num, hT6, hL6, hb6⟩
      case measure => simp [intOf]; omega
    · have hkk : k = ds.length := by omega
      subst hkk
      rw [List.take_length] at hLk
      have hI0 := hideP (show ApInv w1 ds (.int .i64 (ds.length : Int)) wr from ⟨ds.length, left, fun _ => false, rfl, by rw [hLk.len, ddOf_len, List.filter_eq_self.2 (by intro a _; rfl), List.length_range], hlen, hTB, hLk, hbw⟩)
      clear hTB hLk hbw hb3 hlt3
      go_wp2_with fail
      go_loopw [11] (ApInv w1 ds) (fun v _ => (intOf v).toNat)
      case atStart => exact hI0.out
      case round =>
        clear hI0
        obtain ⟨n, left, gone, rfl, rfl, hn20, hTB, hLk, hbw⟩ := hrel
        by_cases hn0 : 0 < left.length
        · have g1 : (0 : Int) < (left.length : Int) := by omega
          have hRd := hLk.rd
          have hRl := hLk.some_ (by omega)
          have HRY := hideP (ready_any w1.heap.size w1.heap.size ds.length left wr hTB)
          have hR20 : (rdyL left left).length ≤ 20 := by
            have := List.length_filter_le (ruB left) left
            unfold rdyL; rw [List.length_map]; omega
          go_wp2_with fail
          refine HRY.out.mono ?_
          rintro e w3 ⟨A3, c3, rfl, hO3, hb4⟩
          have hTB3 := hTB.below hb4
          have hbw3 := hbw.trans (hb4.mono hbw.size)
          clear HRY hTB hbw hb4
          generalize hR : rdyL left left = R at hRd hRl hR20 hO3 ⊢
          have HR := hideP hR
          clear hR
          go_wp2_with fail
          refine (left_any w1.heap.size w1.heap.size ds.length left _ hTB3).mono ?_
          rintro e w4 ⟨rfl, hb5⟩
          have hTB4 := hTB3.below hb5
          have hO4 := hO3.below hb5
          have hbw4 := hbw3.trans (hb5.mono hbw3.size)
          have hBO : wr.heap.size ≤ w4.heap.size := Nat.le_trans (Nat.le_trans (Nat.le_refl _) (by have := (World.ownsRow.form hO3 (by rw [nV_length]; exact hRl)); obtain ⟨g, cap, hv, h1, h2⟩ := this; omega)) hb5.size
          clear hTB3 hO3 hbw3 hb5
          have hcap3 := hO4.caps.1
          rw [nV_length] at hcap3
          have d1 : ((left.length : Int) != (left.length : Int)) = false := by simp
          have d2 : ((R.length : Int) == 0) = false := beq_false_of_ne (by omega)
          go_wp2_with fail
          go_loopw [63] (UpTo w4 R.length) (fun i _ => R.length - (intOf i).toNat)
          case atStart => exact ⟨0, Nat.zero_le _, rfl, Below.refl _ _⟩
          case round =>
            obtain ⟨i, hi, rfl, hbi⟩ := hrel
            by_cases hik : i < R.length
            · obtain ⟨b3, o3, rfl, hbl3, q3⟩ := (hO4.below hbi).vs i (.int .i64 (R[i] : Int)) (by simp [nV, hik])
              have hRi := (hRd.mem _ (List.getElem_mem hik)).1
              rw [ddOf_len] at hRi
              have g3 : (0 : Int) ≤ (i : Int) := by omega
              have g4 : (i : Int) < (R.length : Int) := by omega
              have HAP := hideP (fun j (hj : j < i) => hRd.apart hik hj)
              have g5 : (i : Int) ≤ (c3 : Int) := by omega
              have d3 : decide ((R[i] : Int) < 0) = false := decide_eq_false (by omega)
              have d4 : decide ((ds.length : Int) ≤ (R[i] : Int)) = false := decide_eq_false (by omega)
              have hgi : (0 : Int) ≤ (R[i] : Int) ∧ (R[i] : Int) < (ds.length : Int) := by omega
              generalize R[i] = a at q3 hRi HAP d3 d4 hgi
              obtain ⟨wq, rfl⟩ : ∃ wq, wq = wr := ⟨_, rfl⟩
              go_wp2_with fail
              rw [show decide (ds.length ≤ a) = false from decide_eq_false (by omega)]
              go_loopw [80] (UpTo wq i) (fun v _ => i - (intOf v).toNat)
              case atStart => exact ⟨0, Nat.zero_le _, rfl, Below.refl _ _⟩
              case round =>
                obtain ⟨j, hj, rfl, hbj⟩ := hrel
                have hbij := hbi.trans (hbj.mono hbi.size)
                by_cases hji : j < i
                · obtain ⟨b4, o4, eB, hbl4, q4⟩ := (hO4.below hbij).vs j (.int .i64 (R[j] : Int)) (by simp [nV, show j < R.length by omega])
                  injection eB with eB
                  injection eB with e1 e2 _
                  subst e1; subst e2
                  have hap := HAP.out j hji
                  have hRj := (hRd.mem _ (List.getElem_mem (show j < R.length by omega))).1
                  rw [ddOf_len] at hRj
                  have hgj : (0 : Int) ≤ (R[j] : Int) ∧ (R[j] : Int) < (ds.length : Int) := by omega
                  generalize R[j] = b at q4 hap hRj hgj
                  have hDSj := hDS.below (hbw4.trans (hbij.mono hbw4.size))
                  obtain ⟨⟨b1, o1, eA1, hbl1, y1⟩, hos1⟩ := hDSj.at_ hRi
                  obtain ⟨⟨b2, o2, eA2, hbl2, y2⟩, hos2⟩ := hDSj.at_ hRj
                  rw [eA1] at eA2
                  injection eA2 with eA2
                  injection eA2 with e1 e2 _
                  subst e1; subst e2
                  have hc1 := hchk _ (List.getElem_mem hRi)
                  have hc2 := hchk _ (List.getElem_mem hRj)
                  rw [ddOf_get hRi, ddOf_get hRj] at hap
                  clear hDSj
                  generalize ds[a] = x at y1 hos1 hc1 hap
                  generalize ds[b] = y at y2 hos2 hc2 hap
                  obtain ⟨Dx, cx, dx⟩ := x
                  obtain ⟨Dy, cy, dy⟩ := y
                  simp only [dlV] at y1 hos1 hc1 y2 hos2 hc2 hap
                  have hbd : Below wr.heap.size wr wr.drew := (Below.refl _ _).drew
                  have HC := hideP (clash_ok Dx Dy cx cy dx dy wr.drew (hos1.go hbd) (hos2.go hbd) hc1 hc2)
                  rw [hap] at HC
                  have hbjd := hbj.drew
                  have k1 : wr.drew.cell? ⟨b1, o1 + a, none⟩ = some (.slice Dx dx.length cx) ∧ wr.drew.cell? ⟨b1, o1 + b, none⟩ = some (.slice Dy dy.length cy) := ⟨y1, y2⟩
                  have hlb : b1 < wr.drew.heap.size := hbl1
                  obtain ⟨ga1, ga2⟩ := hgi
                  obtain ⟨gb1, gb2⟩ := hgj
                  have g6 : (0 : Int) ≤ (j : Int) := by omega
                  have g7 : (j : Int) < (i : Int) := by omega
                  clear hos1 hos2 hbd y1 y2 hc1 hc2 hap hTB4 hLk hRd HAP
                  subst eA1
                  go_wp2_with fail
                  go_region_held3 (fun w' => w'.cell? ⟨b1, o1 + a, none⟩ = some (.slice Dx dx.length cx) ∧ w'.cell? ⟨b1, o1 + b, none⟩ = some (.slice Dy dy.length cy)) (with_reducible first | exact k1 | exact k2) (first
                    | (go_at_call 11; refine HC.out.mono ?_; rintro e2 w8 ⟨rfl, hb8⟩; have k2 := And.intro ((hb8.cell (p := ⟨b1, o1 + a, none⟩) hlb).trans k1.1) ((hb8.cell (p := ⟨b1, o1 + b, none⟩) hlb).trans k1.2)))
                  all_goals
                    have hb9 := hbjd.trans (hb8.mono (Nat.le_trans hbj.size (Nat.le_refl _)))
                    clear hb8 HC k1 k2
                    go_wp2_with fail
                    go_roundw
                    case rel => exact ⟨j + 1, by omega, by go_num, hb9⟩
                    case measure => simp [intOf]; omega
                · go_wp2_with fail
                  go_roundw
                  case rel => exact ⟨i + 1, by omega, by go_num, hbij⟩
                  case measure => simp [intOf]; omega
            · clear hDS hchk
              obtain ⟨wq, rfl⟩ : ∃ wq, wq = wr := ⟨_, rfl⟩
              go_upto_if 106 with fail
              go_cut [19] (PickRel wq R.length)
              case first =>
                by_cases hpk : left.length < zs.length
                · obtain ⟨b5, o5, rfl, hbl5, q5⟩ := hT1.below (hbw4.trans (hbi.mono hbw4.size)) left.length _ (List.getElem?_eq_getElem hpk)
                  generalize zs[left.length] = z at q5
                  have g6 : (left.length : Int) < (zs.length : Int) := by omega
                  have g7 : (0 : Int) ≤ (left.length : Int) := by omega
                  have hwi := wi_lt z R.length (by omega)
                  have HWI := hideP (within_any z R.length (by omega) (by omega) wq)
                  clear hTB4 hLk hRd hO4
                  go_wp2_with fail
                  refine HWI.out.mono ?_
                  rintro e w7 ⟨rfl, rfl⟩
                  go_wp2_with fail
                  go_meet
                  case rel => exact ⟨_, hwi, rfl, rfl⟩
                · have g6 : ¬ (left.length : Int) < (zs.length : Int) := by omega
                  clear hTB4 hLk hRd hO4
                  go_wp2_with fail
                  go_meet
                  case rel => exact ⟨0, hRl, rfl, rfl⟩
              case rest =>
                obtain ⟨kk, hkk, rfl, rfl⟩ := hcut
                have hOq := hO4.below hbi
                have hTBq := hTB4.below hbi
                have hbq := hbw4.trans (hbi.mono hbw4.size)
                obtain ⟨b5, o5, rfl, hbl5, q5⟩ := hOq.vs kk (.int .i64 (R[kk] : Int)) (by simp [nV, hkk])
                obtain ⟨hm1, hm2, hm3⟩ := hRd.mem _ (List.getElem_mem hkk)
                have hfv : freeV left (R[kk] : Int) = 0 := by rw [hLk.freeV_ hm1, hm2, hm3]; rfl
                have hLf := hLk.free R[kk]
                have hll := hLk.free_len hm1 hm2
                have HFR := hideP (free_any w1.heap.size w1.heap.size ds.length left (R[kk] : Int) wq hTBq hbq.size)
                have HOT := hideP (fun i (hi : i < R.length) (hne : i ≠ kk) => show mayV (left.filter (fun e => !decide ((e.seq : Int) = (R[kk] : Int)))) (R[i] : Int) = (true, 0) by
                  obtain ⟨h1, h2, h3⟩ := hRd.mem _ (List.getElem_mem hi)
                  have hne2 : R[i] ≠ R[kk] := fun e => by
                    rcases Nat.lt_or_ge i kk with h | h
                    · have := List.pairwise_iff_getElem.1 hRd.srt i kk hi hkk h; omega
                    · have := List.pairwise_iff_getElem.1 hRd.srt kk i hkk hi (by omega); omega
                  rw [hLf.mayV_ h1 (by simp [h2, hne2]), wtB_gone (gone := gone) (fun i h => by simp [h]) h3]
                  rfl)
                clear hO4 hTB4 hTBq hm1 hm2 hm3 hLk hRd
                generalize hRk : (R[kk] : Int) = rk at q5 hfv HFR hll hLf HOT
                have HRK := hideP hRk
                clear hRk
                generalize hlf : left.filter (fun e => !decide ((e.seq : Int) = rk)) = left' at hll hLf HOT
                have HLF := hideP hlf
                clear hlf
                have g6 : (0 : Int) ≤ (kk : Int) := by omega
                have g7 : (kk : Int) < (R.length : Int) := by omega
                go_wp2_with fail
                refine HFR.out.mono ?_
                rintro e w9 ⟨he, hT9, hK9⟩
                rw [hfv] at he hT9
                rw [if_pos rfl, HLF.out] at hT9
                subst he
                have hO9 := hOq.kp hK9 (by decide) (by decide) (by decide)
                have hb9 := hbq.trans hK9.bel
                clear HFR hOq hbq hK9 q5 hfv
                go_wp2_with fail
                go_loopw [123] (UpTo w9 R.length) (fun v _ => R.length - (intOf v).toNat)
                case atStart => exact ⟨0, Nat.zero_le _, rfl, Below.refl _ _⟩
                case round =>
                  obtain ⟨j, hj, rfl, hbj⟩ := hrel
                  by_cases hjR : j < R.length
                  · obtain ⟨b6, o6, eB, hbl6, q6⟩ := (hO9.below hbj).vs j (.int .i64 (R[j] : Int)) (by simp [nV, hjR])
                    injection eB with eB
                    injection eB with e1 e2 _
                    subst e1; subst e2
                    have hTj := hT9.below hbj
                    have HMY := hideP (may_any w1.heap.size w1.heap.size ds.length left' (R[j] : Int) wr hTj)
                    have g8 : (0 : Int) ≤ (j : Int) := by omega
                    have g9 : (j : Int) < (R.length : Int) := by omega
                    by_cases hjk : j = kk
                    · subst hjk
                      have d5 : ((j : Int) != (j : Int)) = false := by simp
                      clear hTj hT9 hO9 HOT
                      generalize (R[j] : Int) = a at q6 HMY
                      generalize (mayV left' a) = mv at HMY
                      obtain ⟨m1, m2⟩ := mv
                      go_wp2_with fail
                      refine HMY.out.mono ?_
                      rintro e w10 ⟨rfl, hb10⟩
                      have hb11 := hbj.trans (hb10.mono hbj.size)
                      clear HMY hb10
                      go_wp2_with fail
                      go_roundw
                      case rel => exact ⟨j + 1, by omega, by go_num, hb11⟩
                      case measure => simp [intOf]; omega
                    · have d5 : ((j : Int) != (kk : Int)) = true := by simp; omega
                      rw [HOT.out j hjR hjk] at HMY
                      clear hTj hT9 hO9 HOT
                      generalize (R[j] : Int) = a at q6 HMY
                      go_wp2_with fail
                      refine HMY.out.mono ?_
                      rintro e w10 ⟨rfl, hb10⟩
                      have hb11 := hbj.trans (hb10.mono hbj.size)
                      clear HMY hb10
                      go_wp2_with fail
                      go_roundw
                      case rel => exact ⟨j + 1, by omega, by go_num, hb11⟩
                      case measure => simp [intOf]; omega
                  · have hEN := hideP (show ApInv w1 ds (.int .i64 (left'.length : Int)) wr from ⟨left'.length, left', _, rfl, rfl, by omega, hT9.below hbj, hLf, hb9.trans (hbj.mono hb9.size)⟩)
                    have HLL := hideP hll
                    have g8 : (1 : Int) ≤ (left.length : Int) := by omega
                    clear hT9 hLf hO9 HOT hll
                    go_wp2_with fail
                    go_roundw
                    case rel => rw [show (left.length : Int) - 1 = (left'.length : Int) by have := HLL.out; omega]; exact hEN.out
                    case measure => have := HLL.out; simp [intOf]; omega
        · have hl0 : left = [] := List.length_eq_zero_iff.1 (by omega)
          subst hl0
          have hfin := hb2.trans (hbw.mono hb2.size)
          go_wp2_with fail
          refine (left_any w1.heap.size w1.heap.size ds.length [] _ hTB).mono ?_
          rintro e w3 ⟨rfl, hb4⟩
          have hTB3 := hTB.below hb4
          have hfin2 := hfin.trans (hb4.mono hfin.size)
          clear hTB hfin hb4
          go_wp2_with fail
          refine (ready_any w1.heap.size w1.heap.size ds.length [] _ hTB3).mono ?_
          rintro e w4 ⟨A3, c3, rfl, hO3, hb5⟩
          have hfin3 := hfin2.trans (hb5.mono hfin2.size)
          rw [show rdyL [] [] = [] from rfl]
          go_wp2_with fail
          go_ret
          exact ⟨rfl, hfin3⟩
end Go.Proofs.Ytibfemibkdnegaa
