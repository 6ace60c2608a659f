/-
  rokeep.StoreTotals: the law answers true.
-/
import Derived.Test.YtikklfoenjmdgaaScansWalk
set_option linter.unusedVariables false
set_option linter.unusedSimpArgs false
namespace Go.Proofs.Ytikklfoenjmdgaa
open Go.RowKit Go.WideMaps Go.Maps

/-- the sum of all values -/
def sumI (l : List Pr) : Int := (l.map (·.2)).sum
theorem sumI_append (l m : List Pr) : sumI (l ++ m) = sumI l + sumI m := by simp [sumI]
theorem sumI_bd {l : List Pr} (h : ∀ p ∈ l, -20 ≤ p.2 ∧ p.2 ≤ 20) : -20 * (l.length : Int) ≤ sumI l ∧ sumI l ≤ 20 * (l.length : Int) := by
  induction l with
  | nil => simp [sumI]
  | cons p r ih =>
    have h1 := h p (by simp)
    have h2 := ih fun q hq => h q (by simp [hq])
    have : sumI (p :: r) = p.2 + sumI r := by simp [sumI]
    rw [this]
    simp only [List.length_cons]
    omega
theorem sumW_eq {l : List Pr} (h : ∀ p ∈ l, -20 ≤ p.2 ∧ p.2 ≤ 20) (hl : l.length ≤ 100) : sumW l = sumI l := by
  have hgo : ∀ (m : List Pr) (s : Int), (∀ p ∈ m, -20 ≤ p.2 ∧ p.2 ≤ 20) → m.length ≤ 100 → -10000 ≤ s - 20 * (m.length : Int) → s + 20 * (m.length : Int) ≤ 10000 → m.foldl (fun s p => wrap64 (s + p.2)) s = s + sumI m := by
    intro m
    induction m with
    | nil => intro s _ _ _ _; simp [sumI]
    | cons p r ih =>
      intro s h1 h2 h3 h4
      have hp := h1 p (by simp)
      simp only [List.length_cons] at h2 h3 h4
      have e : wrap64 (s + p.2) = s + p.2 := by unfold wrap64; omega
      rw [List.foldl_cons, e, ih _ (fun q hq => h1 q (by simp [hq])) (by omega) (by omega) (by omega)]
      have : sumI (p :: r) = p.2 + sumI r := by simp [sumI]
      rw [this]; omega
  have := hgo l 0 h hl (by omega) (by omega)
  unfold sumW
  rw [this]; omega
theorem Joined.append {a b l : List Pr} (h : Joined a b l) (hlo : ∀ p ∈ a, ∀ q ∈ b, ltB p.1 q.1 = true) (ha : Ok a) (hb : Ok b) : l = a ++ b := by
  refine h.ok.same ⟨List.pairwise_append.2 ⟨ha.srt, hb.srt, hlo⟩, fun p hp => ?_, fun p hp => ?_, fun p hp => ?_⟩ fun p => by rw [h.mem, List.mem_append]
  · rcases List.mem_append.1 hp with hp | hp; exact ha.key p hp; exact hb.key p hp
  · rcases List.mem_append.1 hp with hp | hp; exact ha.val p hp; exact hb.val p hp
  · rcases List.mem_append.1 hp with hp | hp; exact ha.nz p hp; exact hb.nz p hp
theorem Joined.swap {a b l m : List Pr} (h : Joined a b l) (k : Joined b a m) : m = l := k.ok.same h.ok fun p => by rw [h.mem, k.mem]; exact Or.comm
theorem lt_of_sides {x y at_ : ByteArray} (h : ltB x at_ = true) (k : ltB y at_ = false) : ltB x y = true := by
  cases hc : ltB x y
  · cases hd : ltB y x
    · have := ltB_total hc hd; subst this; rw [h] at k; cases k
    · rw [ltB_trans hd h] at k; cases k
  · rfl

set_option maxHeartbeats 2000000 in
set_option maxRecDepth 100000 in
theorem totals_any (A B : Option Addr) (c d : Nat) (zs us : List Int) (k : Int) (w : World) (hA : IS w A zs) (hl : zs.length ≤ c) (hc : c ≤ 9223372036854775807) (hn : A = none → c = 0) (hB : IS w B us) (hlB : us.length ≤ d) (hcB : d ≤ 9223372036854775807) (hnB : B = none → d = 0) :
    Calls Try.prog 5 #[.slice A zs.length c, .slice B us.length d, .int .i64 k] w fun e w' => e = .returned (.bool true) ∧ Below w.heap.size w w' := by
  have hOK2 : Ok [(⟨#[97]⟩, 3), (⟨#[98]⟩, -1)] := chk_ok.1 (by decide +kernel)
  have hL2 : sumW [(⟨#[97]⟩, 3), (⟨#[98]⟩, -1)] = 2 := by decide +kernel
  have HL2 := hideP hL2
  clear hL2
  go_enter Try.func5, Try.ntmps5
  go_wp2_with fail
  refine (total_ok _ 2 [(⟨#[97]⟩, 3), (⟨#[98]⟩, -1)] _ (SV.lit2 w ⟨#[97]⟩ ⟨#[98]⟩ 3 (-1) 36) (by simp) hOK2).mono ?_
  rw [HL2.out]
  rintro e w1 ⟨rfl, hb0⟩
  have hb1 := ((Below.refl _ w).alloc (Nat.le_refl _) (.cells #[.string ⟨#[97]⟩, .int .i64 3, .string ⟨#[98]⟩, .int .i64 (-1)] 36)).trans (hb0.mono (by simp))
  have hA1 := hA.below hb1
  have hB1 := hB.below hb1
  clear hA hB hb0 hOK2 HL2
  go_wp2_with fail
  refine (pairs_any A c zs _ hA1 hl hc hn).mono ?_
  rintro e w2 ⟨As, cs, s, rfl, hs, hsm, hb2⟩
  have hb := hb1.trans (hb2.mono hb1.size)
  have hB2 := hB1.below hb2
  have hok := hsm.ok
  have hlen := hsm.len
  clear hb1 hb2 hA1 hB1 hn
  have hne : (⟨#[99]⟩ : ByteArray).toList.isEmpty = false := by decide +kernel
  have okx := scanL_ok hok ByteArray.empty ⟨#[99]⟩
  have lx := scanL_len s ByteArray.empty ⟨#[99]⟩
  have px : ∀ p ∈ scanL s ByteArray.empty ⟨#[99]⟩, ltB p.1 ⟨#[99]⟩ = true ∧ -20 ≤ p.2 ∧ p.2 ≤ 20 := fun p hp => by
    rw [scan_low s hne] at hp; simp at hp; exact ⟨hp.2, hsm.val p hp.1⟩
  have c1 := scan_ok As cs s ByteArray.empty ⟨#[99]⟩ w2 hs (by omega) hok
  generalize scanL s ByteArray.empty ⟨#[99]⟩ = x at okx lx px c1
  have C1 := hideP c1
  have PX := hideP px
  clear c1 px hsm
  go_wp2_with fail
  refine C1.out.mono ?_
  rintro e w3 ⟨Ax, cx, rfl, hx, hb3⟩
  have hs3 := hs.below hb3
  have hB3 := hB2.below hb3
  have hbb := hb.trans (hb3.mono hb.size)
  clear hb hb3 hs hB2 C1
  go_wp2_with fail
  refine (pairs_any B d us _ hB3 hlB hcB hnB).mono ?_
  rintro e w4 ⟨At, ct, t, rfl, ht, htm, hb4⟩
  have hs4 := hs3.below hb4
  have hx4 := hx.below hb4
  have hbc := hbb.trans (hb4.mono hbb.size)
  have hokt := htm.ok
  have hlent := htm.len
  clear hbb hb4 hs3 hx hB3 hnB
  have oky := scanL_ok hokt ⟨#[99]⟩ ByteArray.empty
  have ly := scanL_len t ⟨#[99]⟩ ByteArray.empty
  have py : ∀ p ∈ scanL t ⟨#[99]⟩ ByteArray.empty, ltB p.1 ⟨#[99]⟩ = false ∧ -20 ≤ p.2 ∧ p.2 ≤ 20 := fun p hp => by
    rw [scan_high] at hp; simp at hp; exact ⟨hp.2, htm.val p hp.1⟩
  have c2 := scan_ok At ct t ⟨#[99]⟩ ByteArray.empty w4 ht (by omega) hokt
  generalize scanL t ⟨#[99]⟩ ByteArray.empty = y at oky ly py c2
  have C2 := hideP c2
  have PY := hideP py
  clear c2 py htm
  go_wp2_with fail
  refine C2.out.mono ?_
  rintro e w5 ⟨Ay, cy, rfl, hy, hb5⟩
  have hs5 := hs4.below hb5
  have hx5 := hx4.below hb5
  have hbd := hbc.trans (hb5.mono hbc.size)
  clear hbc hb5 hs4 hx4 C2 ht
  have hlo : ∀ p ∈ x, ∀ q ∈ y, ltB p.1 q.1 = true := fun p hp q hq => lt_of_sides (PX.out p hp).1 (PY.out q hq).1
  have HLO := hideP hlo
  clear hlo
  have hap : Apart x y := fun p hp q hq => ltB_ne (HLO.out p hp q hq)
  have hap2 : Apart y x := fun p hp q hq => (ltB_ne (HLO.out q hq p hp)).symm
  have HAP := hideP hap
  have HAP2 := hideP hap2
  clear hap hap2
  go_wp2_with fail
  refine (join_ok Ax Ay cx cy x y _ hx5 hy okx oky (by omega)).mono ?_
  rintro e w6 ⟨hj | ⟨Aj, cj, j, he, hj, hjj⟩, hb6⟩
  · exact absurd HAP.out hj.1
  rw [he]
  clear he
  have hs6 := hs5.below hb6
  have hx6 := hx5.below hb6
  have hy6 := hy.below hb6
  have hbe := hbd.trans (hb6.mono hbd.size)
  clear hbd hb6 hs5 hx5 hy
  go_wp2_with fail
  refine (join_ok Ay Ax cy cx y x _ hy6 hx6 oky okx (by omega)).mono ?_
  rintro e w7 ⟨hi | ⟨Ai, ci, i, he, hi, hii⟩, hb7⟩
  · exact absurd HAP2.out hi.1
  rw [he]
  clear he
  obtain rfl : i = j := hjj.swap hii
  have hjl : i = x ++ y := hjj.append HLO.out okx oky
  have lj : i.length ≤ 60 := by rw [hjl]; simp; omega
  have okj := hjj.ok
  have hsj : sumW i = sumW x + sumW y := by
    rw [sumW_eq (fun p hp => (PX.out p hp).2) (by omega), sumW_eq (fun p hp => (PY.out p hp).2) (by omega), hjl, sumW_eq (fun p hp => ?_) (by simp; omega), sumI_append]
    rcases List.mem_append.1 hp with hp | hp
    · exact (PX.out p hp).2
    · exact (PY.out p hp).2
  have bx : -1000 ≤ sumW x ∧ sumW x ≤ 1000 := by
    have := sumI_bd (fun p hp => (PX.out p hp).2)
    rw [sumW_eq (fun p hp => (PX.out p hp).2) (by omega)]; omega
  have by_ : -1000 ≤ sumW y ∧ sumW y ≤ 1000 := by
    have := sumI_bd (fun p hp => (PY.out p hp).2)
    rw [sumW_eq (fun p hp => (PY.out p hp).2) (by omega)]; omega
  have HSJ := hideP hsj
  clear hsj hjl hjj hii HLO HAP HAP2 PX PY
  have hs7 := hs6.below hb7
  have hx7 := hx6.below hb7
  have hy7 := hy6.below hb7
  have hj7 := hj.below hb7
  have hbf := hbe.trans (hb7.mono hbe.size)
  clear hbe hb7 hs6 hx6 hy6 hj
  go_wp2_with fail
  refine (total_ok Ax cx x _ hx7 (by omega) okx).mono ?_
  rintro e w8 ⟨rfl, hb8⟩
  have hs8 := hs7.below hb8
  have hy8 := hy7.below hb8
  have hj8 := hj7.below hb8
  have hi8 := hi.below hb8
  have hbg := hbf.trans (hb8.mono hbf.size)
  clear hbf hb8 hs7 hx7 hy7 hj7 hi
  go_wp2_with fail
  refine (total_ok Ay cy y _ hy8 (by omega) oky).mono ?_
  rintro e w9 ⟨rfl, hb9⟩
  have hs9 := hs8.below hb9
  have hj9 := hj8.below hb9
  have hi9 := hi8.below hb9
  have hbh := hbg.trans (hb9.mono hbg.size)
  clear hbg hb9 hs8 hy8 hj8 hi8
  go_wp2_with fail
  refine (total_ok Aj cj i _ hj9 (by omega) okj).mono ?_
  rw [HSJ.out]
  rintro e w10 ⟨rfl, hb10⟩
  have hs10 := hs9.below hb10
  have hj10 := hj9.below hb10
  have hi10 := hi9.below hb10
  have hb17 := hbh.trans (hb10.mono hbh.size)
  clear hbh hb10 hs9 hj9 hi9
  generalize sumW x = SX at bx HSJ
  generalize sumW y = SY at by_ HSJ
  go_wp2_with fail
  go_loop [90] (fun i => ∃ k : Nat, k ≤ 7 ∧ i = .int .i64 k) (fun i => 7 - (intOf i).toNat)
  case atStart => exact ⟨0, Nat.zero_le _, rfl⟩
  case round =>
    obtain ⟨n, hk, rfl⟩ := hrel
    by_cases hlt : n < 7
    · have c1 := zeros7 w10 28 n hlt
      go_wp2_with fail
      go_round
      case rel => exact ⟨n + 1, by omega, by go_num⟩
      case measure => simp [intOf]; omega
    · have hbl := (Below.refl _ w10).alloc (Nat.le_refl _) (.cells #[.int .i64 0, .int .i64 0, .int .i64 0, .int .i64 0, .int .i64 0, .int .i64 0, .int .i64 0] 28)
      have hb18 := hb17.trans (hbl.mono hb17.size)
      have hs11 := hs10.below hbl
      have hj11 := hj10.below hbl
      have hi11 := hi10.below hbl
      clear hbl hb17 hs10 hj10 hi10
      generalize w10.alloc (.cells #[.int .i64 0, .int .i64 0, .int .i64 0, .int .i64 0, .int .i64 0, .int .i64 0, .int .i64 0] 28) = w11 at hb18 hs11 hj11 hi11
      go_wp2_with fail
      refine (equal_same _ _ _ _ i _ hi11.ps hj11.ps (by omega)).mono ?_
      rintro e w12 ⟨rfl, hb19⟩
      have hb20 := hb18.trans (hb19.mono hb18.size)
      have hs12 := hs11.below hb19
      clear hb18 hb19 hs11 hj11 hi11
      have hadd : ((SX + SY) != (SX + SY)) = false := by simp
      by_cases hs0 : s.length = 0
      · have ds : ((s.length : Int) == 0) = true := by simp [hs0]
        clear hs0
        go_wp2_with fail
        go_ret
        exact ⟨rfl, hb20⟩
      · have ds : ((s.length : Int) == 0) = false := by simp [hs0]
        have hs1 : 1 ≤ s.length := by omega
        clear hs0
        go_wp2_with fail
        refine (within_any k s.length hs1 (by omega) _).mono ?_
        rintro e w' ⟨rfl, rfl⟩
        have hlt2 := wi_lt k s.length hs1
        generalize wi k s.length = u at hlt2
        obtain ⟨sb, so, rfl, _, q1, q2⟩ := hs12.ps u _ (List.getElem?_eq_getElem hlt2)
        have hmem : s[u] ∈ s := List.getElem_mem hlt2
        generalize s[u] = p at q1 q2 hmem
        have hkp := hok.key p hmem
        have ok1 : Ok [(p.1, 1)] := ⟨by simp, by simp [hkp], by simp [valB], by simp⟩
        have hnap : ¬ Apart s [(p.1, 1)] := fun h => h p hmem (p.1, 1) (by simp) rfl
        have HNAP := hideP hnap
        have hl1 := (Below.refl _ w12).alloc (Nat.le_refl _) (.cells #[.string p.1, .int .i64 1] 36)
        have hs13 := hs12.below hl1
        have hb21 := hb20.trans (hl1.mono hb20.size)
        have h1 := SV.lit1 w12 p.1 1 36
        have g1 : (0 : Int) ≤ (u : Int) := by omega
        have g2 : (u : Int) < (s.length : Int) := by omega
        clear hnap hl1 hs12 hb20
        go_wp2_with fail
        refine (join_ok _ _ cs 1 s [(p.1, 1)] _ hs13 h1 hok ok1 (by simp; omega)).mono ?_
        rintro e w14 ⟨hj | ⟨_, _, _, _, _, hjj⟩, hb22⟩
        · obtain ⟨_, he⟩ := hj
          rw [he]
          clear he
          have hb23 := hb21.trans (hb22.mono hb21.size)
          go_wp2_with fail
          go_ret
          exact ⟨rfl, hb23⟩
        · exact absurd hjj.apart HNAP.out
end Go.Proofs.Ytikklfoenjmdgaa
