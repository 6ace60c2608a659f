/-
  rokeep.DeedClash: the law answers true.
-/
import Derived.Test.YtkikhananegclaaWritesWalk
import Derived.Test.YtkikhananegclaaDClash
import Derived.Deep.RegionHeld3
import Derived.Deep.LoopGhost
import Derived.Deep.DeepCutAuto
set_option linter.unusedVariables false
set_option linter.unusedSimpArgs false
namespace Go.Proofs.Ytkikhananegclaa
open Go.RowKit

theorem comB_symm (xs ys : List ByteArray) : comB xs ys = comB ys xs := by
  rw [Bool.eq_iff_iff, comB_iff, comB_iff]; exact ⟨fun ⟨k, a, b⟩ => ⟨k, b, a⟩, fun ⟨k, a, b⟩ => ⟨k, b, a⟩⟩
theorem clB_symm (a b : List Opr) : clB a b = clB b a := by
  unfold clB
  rw [comB_symm (wrL a) (wrL b), comB_symm (wrL a) (rdL b), comB_symm (rdL a) (wrL b)]
  cases comB (wrL b) (wrL a) <;> cases comB (rdL b) (wrL a) <;> cases comB (wrL b) (rdL a) <;> rfl
theorem clB_free {a b : List Opr} (h : clB a b = false) : Free a b := by
  unfold clB at h
  have no : ∀ {xs ys : List ByteArray}, comB xs ys = false → ∀ k ∈ xs, k ∉ ys := fun h k h1 h2 => by
    rw [comB_iff.2 ⟨k, h1, h2⟩] at h; cases h
  cases h1 : comB (wrL a) (wrL b)
  · cases h2 : comB (wrL a) (rdL b)
    · cases h3 : comB (rdL a) (wrL b)
      · exact ⟨no h1, no h2, no h3⟩
      · simp [h1, h2, h3] at h
    · simp [h1, h2] at h
  · simp [h1] at h
theorem begun_clash : clB [⟨2, ka, ByteArray.empty, 0⟩] [⟨4, ka, ByteArray.empty, 0⟩] = true := by
  have : comB (wrL [⟨2, ka, ByteArray.empty, 0⟩]) (rdL [⟨4, ka, ByteArray.empty, 0⟩]) = true := comB_iff.2 ⟨ka, by simp [wrL, wrO], by simp [rdL, rdO]⟩
  unfold clB
  rw [this]; simp

/-- two boxed transactions, all else is as it was -/
def TwoD (wk : World) (x y : Dl) (s t : Value) (wc : World) : Prop :=
  ∃ g h, s = .pointer (some ⟨g, 0, none⟩) ∧ t = .pointer (some ⟨h, 0, none⟩) ∧ Box wc g 31 #[.slice x.D x.d.length x.c] ∧ Box wc h 31 #[.slice y.D y.d.length y.c] ∧ Below wk.heap.size wk wc

theorem twoD1 (w : World) (x y : Dl) : TwoD w x y (.pointer (some ⟨w.heap.size, 0, none⟩)) (.pointer (some ⟨w.heap.size + 1, 0, none⟩)) ((w.alloc (.cells #[.slice x.D x.d.length x.c] 31)).alloc (.cells #[.slice y.D y.d.length y.c] 31)).drew :=
  ⟨_, _, rfl, rfl, (Box.new w _ _).alloc _, by have := Box.new (w.alloc (.cells #[.slice x.D x.d.length x.c] 31)) 31 #[.slice y.D y.d.length y.c]; rw [World.size_alloc] at this; exact this, (((Below.refl _ w).alloc (Nat.le_refl _) _).alloc (by simp) _).drew⟩
theorem twoD2 (w : World) (x y : Dl) : TwoD w x y (.pointer (some ⟨w.heap.size + 1, 0, none⟩)) (.pointer (some ⟨w.heap.size, 0, none⟩)) ((w.alloc (.cells #[.slice y.D y.d.length y.c] 31)).alloc (.cells #[.slice x.D x.d.length x.c] 31)).drew :=
  ⟨_, _, rfl, rfl, by have := Box.new (w.alloc (.cells #[.slice y.D y.d.length y.c] 31)) 31 #[.slice x.D x.d.length x.c]; rw [World.size_alloc] at this; exact this, (Box.new w _ _).alloc _, (((Below.refl _ w).alloc (Nat.le_refl _) _).alloc (by simp) _).drew⟩
/-- what is at hand while two transactions are tried -/
structure AtHand (w3 : World) (g h : Nat) (x y : Dl) (A : Option Addr) (c : Nat) (s : List Pr) (wr : World) : Prop where
  b1 : Box wr g 31 #[.slice x.D x.d.length x.c]
  b2 : Box wr h 31 #[.slice y.D y.d.length y.c]
  o1 : OS wr wr.heap.size x.D x.d
  o2 : OS wr wr.heap.size y.D y.d
  sv : SV wr A c s
  be : Below w3.heap.size w3 wr
theorem AtHand.below {w3 : World} {g h : Nat} {x y : Dl} {A : Option Addr} {c : Nat} {s : List Pr} {wr w' : World} (k : AtHand w3 g h x y A c s wr) (hb : Below wr.heap.size wr w') : AtHand w3 g h x y A c s w' :=
  ⟨k.b1.below hb, k.b2.below hb, k.o1.go hb, k.o2.go hb, k.sv.below hb, k.be.trans (hb.mono k.be.size)⟩
theorem AtHand.c1 {w3 : World} {g h : Nat} {x y : Dl} {A : Option Addr} {c : Nat} {s : List Pr} {wr : World} (k : AtHand w3 g h x y A c s wr) : wr.cell? ⟨g, 0, none⟩ = some (.slice x.D x.d.length x.c) ∧ wr.cell? ⟨h, 0, none⟩ = some (.slice y.D y.d.length y.c) := ⟨k.b1.cell 0 rfl, k.b2.cell 0 rfl⟩

set_option maxHeartbeats 2000000 in
set_option maxRecDepth 100000 in
theorem clash_any (A A2 : Option Addr) (c c2 : Nat) (zs : List Int) (cs : List Cl) (w : World) (hA : IS w A zs) (hl : zs.length ≤ c) (hc : c ≤ 9223372036854775807) (hn : A = none → c = 0)
    (hL : LS w A2 cs) (hl2 : cs.length ≤ c2) (hc2 : c2 ≤ 9223372036854775807) (hn2 : A2 = none → c2 = 0) :
    Calls Try.prog 6 #[.slice A zs.length c, .slice A2 cs.length c2] w fun e w' => e = .returned (.bool true) ∧ Below w.heap.size w w' := by
  go_enter Try.func6, Try.ntmps6
  go_wp2_with fail
  have hd1 := (OS.one_at w (w.alloc (.cells #[.int .i64 2, .string ⟨#[97]⟩, .string ⟨#[]⟩, .int .i64 0] 52)) ⟨2, ka, ByteArray.empty, 0⟩ 52 rfl w.heap.size rfl).go ((Below.refl _ _).alloc (Nat.le_refl _) (.cells #[.int .i64 4, .string ⟨#[97]⟩, .string ⟨#[]⟩, .int .i64 0] 52))
  have hd2 := OS.one_at (w.alloc (.cells #[.int .i64 2, .string ⟨#[97]⟩, .string ⟨#[]⟩, .int .i64 0] 52)) ((w.alloc (.cells #[.int .i64 2, .string ⟨#[97]⟩, .string ⟨#[]⟩, .int .i64 0] 52)).alloc (.cells #[.int .i64 4, .string ⟨#[97]⟩, .string ⟨#[]⟩, .int .i64 0] 52)) ⟨4, ka, ByteArray.empty, 0⟩ 52 rfl (w.heap.size + 1) (by simp)
  have hb0 := ((Below.refl w.heap.size w).alloc (Nat.le_refl _) (.cells #[.int .i64 2, .string ⟨#[97]⟩, .string ⟨#[]⟩, .int .i64 0] 52)).alloc (by simp) (.cells #[.int .i64 4, .string ⟨#[97]⟩, .string ⟨#[]⟩, .int .i64 0] 52)
  generalize (w.alloc (.cells #[.int .i64 2, .string ⟨#[97]⟩, .string ⟨#[]⟩, .int .i64 0] 52)).alloc (.cells #[.int .i64 4, .string ⟨#[97]⟩, .string ⟨#[]⟩, .int .i64 0] 52) = w0 at hd1 hd2 hb0 ⊢
  refine (clash_ok _ _ 1 1 [⟨2, ka, ByteArray.empty, 0⟩] [⟨4, ka, ByteArray.empty, 0⟩] _ hd1 hd2 (by decide +kernel) (by decide +kernel)).mono ?_
  rw [begun_clash]
  rintro e w1 ⟨rfl, hb1'⟩
  have hb1 := hb0.trans (hb1'.mono hb0.size)
  have hA1 := hA.below hb1
  have hL1 := hL.below hb1
  clear hA hL hd1 hd2 hb0 hb1'
  go_wp2_with fail
  refine (deeds_any A2 c2 8 cs _ hL1 hl2 hc2 hn2 (by omega)).mono ?_
  rintro e w2 ⟨Ad, cd, ds, rfl, hD, hdl, hb4⟩
  have hb5 := hb1.trans (hb4.mono hb1.size)
  have hA2 := hA1.below hb4
  clear hb1 hb4 hA1 hL1 hn2
  go_wp2_with fail
  refine (pairs_any A c zs _ hA2 hl hc hn).mono ?_
  rintro e w3 ⟨As, cs', s, rfl, hs, hsm, hb6⟩
  have hb7 := hb5.trans (hb6.mono hb5.size)
  have hD3 := hD.below hb6
  have hDS := hD3.ds
  have hchk := hD3.chk
  have hok := hsm.ok
  clear hD hD3 hb5 hb6 hA2 hn hsm
  go_wp2_with fail
  go_loopg [9] ds.length (fun gk i wr => ∃ k : Nat, gk = ds.length - k ∧ k ≤ ds.length ∧ i = .int .i64 k ∧ Below w3.heap.size w3 wr)
  case atStart => exact ⟨0, by omega, Nat.zero_le _, rfl, Below.refl _ _⟩
  case round =>
    obtain ⟨k, rfl, hk, rfl, hb⟩ := hrel
    by_cases hlt : k + 1 < ds.length
    · obtain ⟨⟨b, o, rfl, hbl, q1⟩, hos1⟩ := (hDS.below hb).at_ (k := k) (by omega)
      obtain ⟨⟨b', o', e', _, q2⟩, hos2⟩ := (hDS.below hb).at_ hlt
      injection e' with e'
      injection e' with e1 e2 _
      subst e1; subst e2
      have hc1 := hchk _ (List.getElem_mem (show k < ds.length by omega))
      have hc2' := hchk _ (List.getElem_mem hlt)
      generalize ds[k] = x at q1 hos1 hc1
      generalize ds[k + 1] = y at q2 hos2 hc2'
      obtain ⟨Dx, cx, dx⟩ := x
      obtain ⟨Dy, cy, dy⟩ := y
      simp only [dlV] at q1 q2
      simp only at hos1 hc1 hos2 hc2'
      have g1 : (k : Int) + 1 < (ds.length : Int) := by omega
      have p0 : (0 : Int) ≤ (k : Int) := by omega
      have p1 : (k : Int) < (ds.length : Int) := by omega
      have p2 : (0 : Int) ≤ (k : Int) + 1 := by omega
      have p6 : IntKind.i64.wrap ((k : Int) + 1) = (k : Int) + 1 := by simp only [IntKind.wrap_i64]; omega
      have p8 : ((k : Int) + 1).toNat = k + 1 := by omega
      go_wp2_with fail
      go_cut [10, 11] (TwoD wr ⟨Dx, cx, dx⟩ ⟨Dy, cy, dy⟩)
      case first =>
        go_region_held3 (fun w' => w'.cell? ⟨b, o + k, none⟩ = some (.slice Dx dx.length cx) ∧ w'.cell? ⟨b, o + (k + 1), none⟩ = some (.slice Dy dy.length cy)) (go_keep) (fail)
        all_goals (go_wp2_with fail; go_meet; case rel => first | exact twoD1 wr ⟨Dx, cx, dx⟩ ⟨Dy, cy, dy⟩ | exact twoD2 wr ⟨Dx, cx, dx⟩ ⟨Dy, cy, dy⟩)
      case rest =>
        obtain ⟨g, h, rfl, rfl, hg, hh, hbc⟩ := hcut
        have hH : AtHand w3 g h ⟨Dx, cx, dx⟩ ⟨Dy, cy, dy⟩ As cs' s wc := ⟨hg, hh, hos1.go hbc, hos2.go hbc, (hs.below hb).below hbc, hb.trans (hbc.mono hb.size)⟩
        clear hg hh hbc hos1 hos2 q1 q2
        have hoc1 := (chkD_zero.1 hc1).2.2
        have hoc2 := (chkD_zero.1 hc2').2.2
        have HCM := hideP (fun h => commute hoc1 hoc2 (clB_free h) (valOf s))
        have HSY := hideP (clB_symm dx dy)
        clear hoc1 hoc2
        obtain ⟨z1, z2⟩ := hH.c1
        simp only at z1 z2
        go_wp2_with fail
        refine (clash_ok Dx Dy cx cy dx dy _ hH.o1 hH.o2 hc1 hc2').mono ?_
        rintro e wa ⟨rfl, hba⟩
        replace hH := hH.below hba
        clear hba z1 z2
        obtain ⟨z1, z2⟩ := hH.c1
        simp only at z1 z2
        go_wp2_with fail
        refine (clash_ok Dy Dx cy cx dy dx _ hH.o2 hH.o1 hc2' hc1).mono ?_
        rintro e wb ⟨rfl, hbb⟩
        rw [← HSY.out]
        replace hH := hH.below hbb
        clear hbb z1 z2
        obtain ⟨z1, z2⟩ := hH.c1
        simp only at z1 z2
        generalize clB dx dy = cl at HCM ⊢
        have dcl : (cl != cl) = false := by simp
        go_wp2_with fail
        refine (rrun_ok As Dx cs' cx s dx _ hH.sv hok hH.o1 hc1).mono ?_
        rintro e wd ⟨A1, c1, l1, rfl, hO1, hok1, hv1, hbd⟩
        replace hH := hH.below hbd
        have hx1 := hO1.sv
        have HV1 := hideP hv1
        clear hbd z1 z2 hO1 hv1
        obtain ⟨z1, z2⟩ := hH.c1
        simp only at z1 z2
        go_wp2_with fail
        refine (rrun_ok A1 Dy c1 cy l1 dy _ hx1 hok1 hH.o2 hc2').mono ?_
        rintro e we ⟨A3, c3, l3, rfl, hO3, hok3, hv3, hbe⟩
        replace hH := hH.below hbe
        have hx3 := hO3.sv
        have HV3 := hideP hv3
        rw [HV1.out] at HV3 ⊢
        clear hbe z1 z2 hO3 hv3 hx1
        obtain ⟨z1, z2⟩ := hH.c1
        simp only at z1 z2
        go_wp2_with fail
        refine (rrun_ok As Dy cs' cy s dy _ hH.sv hok hH.o2 hc2').mono ?_
        rintro e wf ⟨A4, c4, l4, rfl, hO4, hok4, hv4, hbf⟩
        replace hH := hH.below hbf
        have hx4 := hO4.sv
        have hx5 := hx3.below hbf
        have HV4 := hideP hv4
        clear hbf z1 z2 hO4 hv4 hx3
        obtain ⟨z1, z2⟩ := hH.c1
        simp only at z1 z2
        go_wp2_with fail
        refine (rrun_ok A4 Dx c4 cx l4 dx _ hx4 hok4 hH.o1 hc1).mono ?_
        rintro e wg ⟨A6, c6, l6, rfl, hO6, hok6, hv6, hbg⟩
        replace hH := hH.below hbg
        have hx6 := hO6.sv
        have hx7 := hx5.below hbg
        have HV6 := hideP hv6
        rw [HV4.out] at HV6 ⊢
        clear hbg z1 z2 hO6 hv6 hx4 hx5
        have hl3 := hok3.small
        have hbe := hH.be
        clear hH
        cases cl with
        | true =>
          generalize (doneV (valOf s) dx).2 = ok1
          generalize (doneV (valOf s) dy).2 = ok3
          generalize (doneV (doneV (valOf s) dx).1 dy).2 = ok2
          generalize (doneV (doneV (valOf s) dy).1 dx).2 = ok4
          go_wp2_with fail
          go_roundg (ds.length - (k + 1))
          case measure => omega
          case rel => exact ⟨k + 1, rfl, by omega, by go_num, hbe⟩
        | false =>
          obtain ⟨m1, m2, m3⟩ := HCM.out rfl
          obtain rfl : l6 = l3 := hok6.ext hok3 (fun k => by rw [HV6.out, HV3.out, m1])
          rw [m2, m3]
          generalize (doneV (doneV (valOf s) dy).1 dx).2 = ok4
          generalize (doneV (valOf s) dy).2 = ok3
          clear m1 m2 m3 HV6 HV3
          have d4 : (ok4 != ok4) = false := by simp
          have d3 : (ok3 != ok3) = false := by simp
          go_wp2_with fail
          refine (equal_same _ _ _ _ l6 _ hx7.ps hx6.ps (by omega)).mono ?_
          rintro e wh ⟨rfl, hbh⟩
          have hbe2 := hbe.trans (hbh.mono hbe.size)
          go_wp2_with fail
          go_roundg (ds.length - (k + 1))
          case measure => omega
          case rel => exact ⟨k + 1, rfl, by omega, by go_num, hbe2⟩
    · have hb8 := hb7.trans (hb.mono hb7.size)
      have g1 : ¬ ((k : Int) + 1 < (ds.length : Int)) := by omega
      go_wp2_with fail
      go_ret
      exact ⟨rfl, hb8⟩
end Go.Proofs.Ytkikhananegclaa
