/-
  rolaw.TextSays: the walk.
-/
import Derived.Test.YtmepmiokpcddbabGreatDoorBz12
import Derived.Test.YtmepmiokpcddbabGreatDoorBz14
import Derived.Test.YtmepmiokpcddbabGreatDoorBz22
import Derived.Test.YtmepmiokpcddbabGreatDoorBz29
import Derived.Test.YtmepmiokpcddbabGreatDoorBz31
import Derived.Test.YtmepmiokpcddbabGreatDoorBz32
import Derived.Test.YtmepmiokpcddbabGreatDoorBz28
import Derived.Test.YtmepmiokpcddbabGreatDoorBz33
set_option linter.unusedVariables false
set_option linter.unusedSimpArgs false
namespace Go.Proofs.YtmepmiokpcddbabGreatDoor
open Go.RowKit
open Go.Lib hiding intOf

/-- what came in, in its boxes -/
structure TsH (w0 : World) (gd gm : Nat) (D : Option Addr) (c : Nat) (d : List Opr) (A : Option Addr) (ca : Nat) (cs : List ByteArray) (O : Option Addr) (co : Nat) (os : List Int) (w : World) : Prop where
  bd : Box w gd 24 #[.slice D d.length c]
  bm : Box w gm 28 #[.slice A cs.length ca, .slice O os.length co]
  o : OS w w.heap.size D d
  m : MS w ⟨A, ca, cs, O, co, os⟩
  gl : Gl w
  be : Below w0.heap.size w0 w
theorem TsH.below {w0 w w' : World} {gd gm : Nat} {D : Option Addr} {c : Nat} {d : List Opr} {A : Option Addr} {ca : Nat} {cs : List ByteArray} {O : Option Addr} {co : Nat} {os : List Int} (h : TsH w0 gd gm D c d A ca cs O co os w) (hb : Below w.heap.size w w') : TsH w0 gd gm D c d A ca cs O co os w' :=
  ⟨h.bd.below hb, h.bm.below hb, h.o.go hb, h.m.below hb, h.gl.below hb, h.be.trans (hb.mono h.be.size)⟩
/-- a transaction in its box -/
structure TsD (w : World) (g : Nat) (D : Option Addr) (c : Nat) (d : List Opr) : Prop where
  x : Box w g 24 #[.slice D d.length c]
  o : OS w w.heap.size D d
theorem TsD.below {w w' : World} {g : Nat} {D : Option Addr} {c : Nat} {d : List Opr} (h : TsD w g D c d) (hb : Below w.heap.size w w') : TsD w' g D c d := ⟨h.x.below hb, h.o.go hb⟩
/-- a map in its box -/
structure TsM (w : World) (g : Nat) (A : Option Addr) (ca : Nat) (cs : List ByteArray) (O : Option Addr) (co : Nat) (os : List Int) : Prop where
  x : Box w g 28 #[.slice A cs.length ca, .slice O os.length co]
  m : MS w ⟨A, ca, cs, O, co, os⟩
theorem TsM.below {w w' : World} {g : Nat} {A : Option Addr} {ca : Nat} {cs : List ByteArray} {O : Option Addr} {co : Nat} {os : List Int} (h : TsM w g A ca cs O co os) (hb : Below w.heap.size w w') : TsM w' g A ca cs O co os := ⟨h.x.below hb, h.m.below hb⟩
theorem ts_rdM : rdM [48, 58, 109, 58, 49] = (0, [⟨#[109]⟩], [0, 1]) := by
  have e0 : itoa (0 : Int) = [48] := by have := itoa_nonneg 0; rw [decDigits_one (by decide)] at this; exact this
  have e1 : itoa (1 : Int) = [49] := by have := itoa_nonneg 1; rw [decDigits_one (by decide)] at this; exact this
  have h := rdM_tM (chkM_ok.1 (show chkM [⟨#[109]⟩] [0, 1] = 0 by decide +kernel))
  rwa [show tM [⟨#[109]⟩] [0, 1] = [48, 58, 109, 58, 49] by unfold tM; show join [itoa 0, [109], itoa 1] [58] = _; rw [e0, e1]; rfl] at h
theorem ts_few (l : List UInt8) : (rdD l).2.length ≤ 8 := by
  unfold rdD
  split
  · simp
  · next d _ =>
    split
    · next h => exact (chkD_zero.1 h).2.1
    · simp
theorem ts_ms {w : World} {g1 g2 : Nat} (h1 : Box w g1 9 #[.string ⟨#[109]⟩]) (h2 : Box w g2 3 #[.int .i64 0, .int .i64 1]) : MS w ⟨some ⟨g1, 0, none⟩, 1, [⟨#[109]⟩], some ⟨g2, 0, none⟩, 2, [0, 1]⟩ :=
  ⟨fun i v hv => ⟨g1, 0, rfl, h1.lt, by rw [Nat.zero_add]; exact h1.cell i (by simpa using hv)⟩, VS.is_int (l := [0, 1]) (fun i v hv => ⟨g2, 0, rfl, h2.lt, by rw [Nat.zero_add]; exact h2.cell i (by simpa using hv)⟩), Nat.le_refl _, Nat.le_refl _, by simp [maxLen], by simp [maxLen], (fun e => by cases e), (fun e => by cases e)⟩
set_option maxHeartbeats 8000000 in
set_option maxRecDepth 100000 in
theorem tsays_walk (D : Option Addr) (c : Nat) (d : List Opr) (m : Mp) (s : ByteArray) (w : World) (hD : OS w w.heap.size D d) (hN : ∀ o ∈ d, -9223372036854775808 ≤ o.n ∧ o.n ≤ 9223372036854775807) (hm : MS w m) (hs : s.size < 4294967281) (hg : Gl w) :
    Calls Tryz.prog 3 #[.agg #[.slice D d.length c], .agg #[.slice m.A m.cs.length m.ca, .slice m.O m.os.length m.co], .string s] w fun e w' => e = .returned (.bool true) ∧ Below w.heap.size w w' := by
  obtain ⟨A, ca, cs, O, co, os⟩ := m
  have hol : os.length ≤ 9223372036854775807 := by have := hm.lo; have := hm.mo; unfold maxLen at this; simp only at *; omega
  have b1 := ((Below.refl w.heap.size w).alloc (Nat.le_refl _) (.cells #[.slice D d.length c] 24)).alloc (by simp) (.cells #[.slice A cs.length ca, .slice O os.length co] 28)
  have x1 := (Box.new w 24 #[.slice D d.length c]).alloc (.cells #[.slice A cs.length ca, .slice O os.length co] 28)
  have x2 := Box.new (w.alloc (.cells #[.slice D d.length c] 24)) 28 #[.slice A cs.length ca, .slice O os.length co]
  simp only [World.size_alloc] at x2
  have H := (⟨x1, x2, hD.go b1, hm.below b1, hg.below b1, b1⟩ : TsH w w.heap.size (w.heap.size + 1) D c d A ca cs O co os _)
  clear x1 x2 b1 hD hm hg
  go_enter Tryz.func3, Tryz.ntmps3
  go_wp2_with fail
  generalize (w.alloc (.cells #[.slice D d.length c] 24)).alloc (.cells #[.slice A cs.length ca, .slice O os.length co] 28) = w1 at H ⊢
  generalize hgm : w.heap.size + 1 = gm at H ⊢
  generalize hgd : w.heap.size = gd at H ⊢
  have HG := hideP (And.intro hgd hgm)
  clear hgd hgm
  have HT := hideP (deedT_any D c d w1 H.o hN H.gl)
  refine HT.out.mono ?_
  clear HT
  rintro e w2 ⟨rfl, hb⟩
  replace H := H.below hb
  clear hb
  have k0 := H.bm.cell 0 (v := .slice A cs.length ca) rfl
  have k1 := H.bm.cell 1 (v := .slice O os.length co) rfl
  go_wp2_with fail
  refine (mapT_any ⟨A, ca, cs, O, co, os⟩ w2 H.m H.gl).mono ?_
  rintro e w3 ⟨rfl, hb⟩
  replace H := H.below hb
  clear hb k0 k1
  simp only
  go_wp2_with fail
  refine (rddeed_any s w3 H.gl hs).mono ?_
  rintro e w4 ⟨D2, c2, d2, rfl, hd2, ho2, hb⟩
  replace H := H.below hb
  have P : TsD (w4.alloc (.cells #[.slice D2 d2.length c2] 24)) w4.heap.size D2 c2 d2 := ⟨Box.new w4 24 #[.slice D2 d2.length c2], ho2.os.go ((Below.refl _ _).alloc (Nat.le_refl _) _)⟩
  replace H := H.below ((Below.refl w4.heap.size w4).alloc (Nat.le_refl _) (.cells #[.slice D2 d2.length c2] 24))
  clear hb ho2
  have hl2 : d2.length ≤ 8 := by rw [← hd2]; exact ts_few _
  have HD2 := hideP hd2
  clear hd2
  go_wp2_with fail
  generalize w4.alloc (.cells #[.slice D2 d2.length c2] 24) = w5 at H P ⊢
  generalize w4.heap.size = g2 at P ⊢
  refine (rdmap_any s w5 H.gl hs).mono ?_
  rintro e w6 ⟨n, rfl, hn, hmo, hb⟩
  obtain ⟨A2, ca2, cs2, O2, co2, os2⟩ := n
  simp only at hn ⊢
  replace H := H.below hb
  replace P := P.below hb
  have al := (Below.refl w6.heap.size w6).alloc (Nat.le_refl _) (.cells #[.slice A2 cs2.length ca2, .slice O2 os2.length co2] 28)
  have M : TsM (w6.alloc (.cells #[.slice A2 cs2.length ca2, .slice O2 os2.length co2] 28)) w6.heap.size A2 ca2 cs2 O2 co2 os2 := ⟨Box.new w6 28 #[.slice A2 cs2.length ca2, .slice O2 os2.length co2], (hmo.below al).ms⟩
  replace H := H.below al
  replace P := P.below al
  clear hb hmo al
  have HN2 := hideP hn
  clear hn
  go_wp2_with fail
  generalize w6.alloc (.cells #[.slice A2 cs2.length ca2, .slice O2 os2.length co2] 28) = w7 at H P M ⊢
  generalize w6.heap.size = g3 at M ⊢
  refine (rdmap_any ⟨#[48, 58, 109, 58, 49]⟩ w7 H.gl (by decide)).mono ?_
  rintro e w8 ⟨n, rfl, hn, hmo, hb⟩
  rw [show (ByteArray.mk #[48, 58, 109, 58, 49]).data.toList = [48, 58, 109, 58, 49] from rfl, ts_rdM] at hn ⊢
  obtain ⟨A3, ca3, cs3, O3, co3, os3⟩ := n
  simp only [Prod.mk.injEq] at hn ⊢
  obtain ⟨rfl, rfl⟩ := hn
  replace H := H.below hb
  replace P := P.below hb
  replace M := M.below hb
  have al := (Below.refl w8.heap.size w8).alloc (Nat.le_refl _) (.cells #[.slice A3 1 ca3, .slice O3 2 co3] 28)
  have z3 := Box.new w8 28 #[.slice A3 1 ca3, .slice O3 2 co3]
  have m3 := (hmo.below al).ms
  replace H := H.below al
  replace P := P.below al
  replace M := M.below al
  clear hb hmo al
  simp only [List.length_cons, List.length_nil, Nat.zero_add, Nat.reduceAdd]
  have k0 := z3.cell 0 (v := .slice A3 1 ca3) rfl
  have k1 := z3.cell 1 (v := .slice O3 2 co3) rfl
  go_wp2_with fail
  obtain ⟨w9, hw9⟩ : ∃ W, W = w8.alloc (.cells #[.slice A3 1 ca3, .slice O3 2 co3] 28) := ⟨_, rfl⟩
  have e9 : w9.heap.size = w8.heap.size + 1 := by rw [hw9]; simp
  rw [← hw9] at H P M m3 ⊢
  clear hw9 z3 k0 k1
  have y1 := (Box.new w9 9 #[.string ⟨#[109]⟩]).alloc (.cells #[.int .i64 0, .int .i64 1] 3)
  have y2 := Box.new (w9.alloc (.cells #[.string ⟨#[109]⟩] 9)) 3 #[.int .i64 0, .int .i64 1]
  have al := ((Below.refl w9.heap.size w9).alloc (Nat.le_refl _) (.cells #[.string ⟨#[109]⟩] 9)).alloc (by simp) (.cells #[.int .i64 0, .int .i64 1] 3)
  simp only [World.size_alloc] at y2
  rw [e9] at y1 y2
  replace H := H.below al
  replace P := P.below al
  replace M := M.below al
  have lm := ts_ms y1 y2
  have m3' := m3.below al
  clear al y1 y2 m3
  generalize (w9.alloc (.cells #[.string ⟨#[109]⟩] 9)).alloc (.cells #[.int .i64 0, .int .i64 1] 3) = w10 at H P M lm m3' ⊢
  have HSM := hideP (samemap_any _ _ _ m3' lm)
  simp only [List.length_cons, List.length_nil, Nat.zero_add, Nat.reduceAdd, decide_true, Bool.and_self] at HSM
  clear lm m3' e9
  refine HSM.out.mono ?_
  clear HSM
  rintro e w11 ⟨rfl, hb⟩
  replace H := H.below hb
  replace P := P.below hb
  replace M := M.below hb
  clear hb
  have k0 := H.bd.cell 0 (v := .slice D d.length c) rfl
  go_wp2_with fail
  refine (rdeed_any D c d w11 H.o).mono ?_
  rintro e w12 ⟨rfl, hb⟩
  replace H := H.below hb
  replace P := P.below hb
  replace M := M.below hb
  clear hb k0
  by_cases hcd : chkD d = 0
  · have HA := hideP (show ddA d = bs (tD d) by unfold ddA; rw [if_pos hcd])
    have HC := hideP hcd
    rw [hcd, HA.out]
    clear hcd
    have k0 := H.bd.cell 0 (v := .slice D d.length c) rfl
    go_wp2_with fail
    refine (rtext_any D c d w12 H.o HC.out).mono ?_
    rintro e w13 ⟨rfl, hb⟩
    replace H := H.below hb
    replace P := P.below hb
    replace M := M.below hb
    clear hb k0
    generalize bs (tD d) = td
    have k0 := H.bm.cell 0 (v := .slice A cs.length ca) rfl
    have k1 := H.bm.cell 1 (v := .slice O os.length co) rfl
    go_wp2_with fail
    refine (rmap_any ⟨A, ca, cs, O, co, os⟩ w13 H.m hol).mono ?_
    rintro e w14 ⟨rfl, hb⟩
    replace H := H.below hb
    replace P := P.below hb
    replace M := M.below hb
    clear hb k0 k1
    simp only
    by_cases hcm : chkM cs os = 0
    · have HB := hideP (show mpA cs os = bs (tM cs os) by unfold mpA; rw [if_pos hcm])
      have HE := hideP hcm
      rw [hcm, HB.out]
      clear hcm
      have k0 := H.bm.cell 0 (v := .slice A cs.length ca) rfl
      have k1 := H.bm.cell 1 (v := .slice O os.length co) rfl
      go_wp2_with fail
      refine (rmapT_any ⟨A, ca, cs, O, co, os⟩ w14 H.m HE.out).mono ?_
      rintro e w15 ⟨rfl, hb⟩
      replace H := H.below hb
      replace P := P.below hb
      replace M := M.below hb
      clear hb k0 k1
      simp only
      generalize bs (tM cs os) = tm
      go_wp2_with fail
      refine (rrddeed_any s w15 hs).mono ?_
      rintro e w16 ⟨D5, c5, d5, rfl, hd5, ho5, hb⟩
      replace H := H.below hb
      replace P := P.below hb
      replace M := M.below hb
      have al := (Below.refl w16.heap.size w16).alloc (Nat.le_refl _) (.cells #[.slice D5 d5.length c5] 24)
      have P5 : TsD (w16.alloc (.cells #[.slice D5 d5.length c5] 24)) w16.heap.size D5 c5 d5 := ⟨Box.new w16 24 #[.slice D5 d5.length c5], ho5.os.go al⟩
      replace H := H.below al
      replace P := P.below al
      replace M := M.below al
      have HDD := hideP (HD2.out.symm.trans hd5)
      clear hb ho5 al hd5
      go_wp2_with fail
      generalize w16.alloc (.cells #[.slice D5 d5.length c5] 24) = w17 at H P M P5 ⊢
      generalize w16.heap.size = g5 at P5 ⊢
      refine (rrdmap_any s w17 hs).mono ?_
      rintro e w18 ⟨n, rfl, hn, hmo, hb⟩
      obtain ⟨A6, ca6, cs6, O6, co6, os6⟩ := n
      simp only at hn ⊢
      replace H := H.below hb
      replace P := P.below hb
      replace M := M.below hb
      replace P5 := P5.below hb
      have al := (Below.refl w18.heap.size w18).alloc (Nat.le_refl _) (.cells #[.slice A6 cs6.length ca6, .slice O6 os6.length co6] 28)
      have M6 : TsM (w18.alloc (.cells #[.slice A6 cs6.length ca6, .slice O6 os6.length co6] 28)) w18.heap.size A6 ca6 cs6 O6 co6 os6 := ⟨Box.new w18 28 #[.slice A6 cs6.length ca6, .slice O6 os6.length co6], (hmo.below al).ms⟩
      replace H := H.below al
      replace P := P.below al
      replace M := M.below al
      replace P5 := P5.below al
      have HNN := hideP (HN2.out.symm.trans hn)
      clear hb hmo al hn
      have k0 := P.x.cell 0 (v := .slice D2 d2.length c2) rfl
      have k1 := P5.x.cell 0 (v := .slice D5 d5.length c5) rfl
      generalize (rdD s.data.toList).1 = qd
      generalize (rdM s.data.toList).1 = qn
      go_wp2_with fail
      refine (samedeed_any D2 D5 c2 c5 d2 d5 _ P.o P5.o (by omega)).mono ?_
      generalize w18.alloc (.cells #[.slice A6 cs6.length ca6, .slice O6 os6.length co6] 28) = w19 at H P M P5 M6 ⊢
      generalize w18.heap.size = g6 at M6 ⊢
      rintro e w20 ⟨rfl, hb⟩
      rw [sameB_true HDD.out]
      replace H := H.below hb
      replace M := M.below hb
      replace M6 := M6.below hb
      clear hb k0 k1 P P5
      have k0 := M.x.cell 0 (v := .slice A2 cs2.length ca2) rfl
      have k1 := M.x.cell 1 (v := .slice O2 os2.length co2) rfl
      have k2 := M6.x.cell 0 (v := .slice A6 cs6.length ca6) rfl
      have k3 := M6.x.cell 1 (v := .slice O6 os6.length co6) rfl
      go_wp2_with fail
      have HSM := samemap_any _ _ _ M.m M6.m
      simp only at HSM
      have hcs : cs2 = cs6 := by have := HNN.out; injection this
      have hos : os2 = os6 := by have := HNN.out; injection this
      rw [decide_eq_true hcs, decide_eq_true hos, Bool.and_self] at HSM
      clear hcs hos
      refine HSM.mono ?_
      clear HSM
      rintro e w21 ⟨rfl, hb⟩
      replace H := H.below hb
      clear hb k0 k1 k2 k3 M M6
      go_wp2_with fail
      go_ret
      exact ⟨rfl, H.be⟩
    · have HB := hideP (show mpA cs os = ByteArray.empty by unfold mpA; rw [if_neg hcm])
      have cz2 : (chkM cs os != 0) = true := by simpa using hcm
      rw [HB.out]
      clear hcm
      generalize chkM cs os = qm at cz2 ⊢
      generalize w14 = w15 at H P M ⊢
      go_wp2_with fail
      refine (rrddeed_any s w15 hs).mono ?_
      rintro e w16 ⟨D5, c5, d5, rfl, hd5, ho5, hb⟩
      replace H := H.below hb
      replace P := P.below hb
      replace M := M.below hb
      have al := (Below.refl w16.heap.size w16).alloc (Nat.le_refl _) (.cells #[.slice D5 d5.length c5] 24)
      have P5 : TsD (w16.alloc (.cells #[.slice D5 d5.length c5] 24)) w16.heap.size D5 c5 d5 := ⟨Box.new w16 24 #[.slice D5 d5.length c5], ho5.os.go al⟩
      replace H := H.below al
      replace P := P.below al
      replace M := M.below al
      have HDD := hideP (HD2.out.symm.trans hd5)
      clear hb ho5 al hd5
      go_wp2_with fail
      generalize w16.alloc (.cells #[.slice D5 d5.length c5] 24) = w17 at H P M P5 ⊢
      generalize w16.heap.size = g5 at P5 ⊢
      refine (rrdmap_any s w17 hs).mono ?_
      rintro e w18 ⟨n, rfl, hn, hmo, hb⟩
      obtain ⟨A6, ca6, cs6, O6, co6, os6⟩ := n
      simp only at hn ⊢
      replace H := H.below hb
      replace P := P.below hb
      replace M := M.below hb
      replace P5 := P5.below hb
      have al := (Below.refl w18.heap.size w18).alloc (Nat.le_refl _) (.cells #[.slice A6 cs6.length ca6, .slice O6 os6.length co6] 28)
      have M6 : TsM (w18.alloc (.cells #[.slice A6 cs6.length ca6, .slice O6 os6.length co6] 28)) w18.heap.size A6 ca6 cs6 O6 co6 os6 := ⟨Box.new w18 28 #[.slice A6 cs6.length ca6, .slice O6 os6.length co6], (hmo.below al).ms⟩
      replace H := H.below al
      replace P := P.below al
      replace M := M.below al
      replace P5 := P5.below al
      have HNN := hideP (HN2.out.symm.trans hn)
      clear hb hmo al hn
      have k0 := P.x.cell 0 (v := .slice D2 d2.length c2) rfl
      have k1 := P5.x.cell 0 (v := .slice D5 d5.length c5) rfl
      generalize (rdD s.data.toList).1 = qd
      generalize (rdM s.data.toList).1 = qn
      go_wp2_with fail
      refine (samedeed_any D2 D5 c2 c5 d2 d5 _ P.o P5.o (by omega)).mono ?_
      generalize w18.alloc (.cells #[.slice A6 cs6.length ca6, .slice O6 os6.length co6] 28) = w19 at H P M P5 M6 ⊢
      generalize w18.heap.size = g6 at M6 ⊢
      rintro e w20 ⟨rfl, hb⟩
      rw [sameB_true HDD.out]
      replace H := H.below hb
      replace M := M.below hb
      replace M6 := M6.below hb
      clear hb k0 k1 P P5
      have k0 := M.x.cell 0 (v := .slice A2 cs2.length ca2) rfl
      have k1 := M.x.cell 1 (v := .slice O2 os2.length co2) rfl
      have k2 := M6.x.cell 0 (v := .slice A6 cs6.length ca6) rfl
      have k3 := M6.x.cell 1 (v := .slice O6 os6.length co6) rfl
      go_wp2_with fail
      have HSM := samemap_any _ _ _ M.m M6.m
      simp only at HSM
      have hcs : cs2 = cs6 := by have := HNN.out; injection this
      have hos : os2 = os6 := by have := HNN.out; injection this
      rw [decide_eq_true hcs, decide_eq_true hos, Bool.and_self] at HSM
      clear hcs hos
      refine HSM.mono ?_
      clear HSM
      rintro e w21 ⟨rfl, hb⟩
      replace H := H.below hb
      clear hb k0 k1 k2 k3 M M6
      go_wp2_with fail
      go_ret
      exact ⟨rfl, H.be⟩
  · have HA := hideP (show ddA d = ByteArray.empty by unfold ddA; rw [if_neg hcd])
    have c1 : (chkD d != 0) = true := by simpa using hcd
    rw [HA.out]
    clear hcd
    generalize chkD d = q at c1 ⊢
    generalize w12 = w13 at H P M ⊢
    have k0 := H.bm.cell 0 (v := .slice A cs.length ca) rfl
    have k1 := H.bm.cell 1 (v := .slice O os.length co) rfl
    go_wp2_with fail
    refine (rmap_any ⟨A, ca, cs, O, co, os⟩ w13 H.m hol).mono ?_
    rintro e w14 ⟨rfl, hb⟩
    replace H := H.below hb
    replace P := P.below hb
    replace M := M.below hb
    clear hb k0 k1
    simp only
    by_cases hcm : chkM cs os = 0
    · have HB := hideP (show mpA cs os = bs (tM cs os) by unfold mpA; rw [if_pos hcm])
      have HE := hideP hcm
      rw [hcm, HB.out]
      clear hcm
      have k0 := H.bm.cell 0 (v := .slice A cs.length ca) rfl
      have k1 := H.bm.cell 1 (v := .slice O os.length co) rfl
      go_wp2_with fail
      refine (rmapT_any ⟨A, ca, cs, O, co, os⟩ w14 H.m HE.out).mono ?_
      rintro e w15 ⟨rfl, hb⟩
      replace H := H.below hb
      replace P := P.below hb
      replace M := M.below hb
      clear hb k0 k1
      simp only
      generalize bs (tM cs os) = tm
      go_wp2_with fail
      refine (rrddeed_any s w15 hs).mono ?_
      rintro e w16 ⟨D5, c5, d5, rfl, hd5, ho5, hb⟩
      replace H := H.below hb
      replace P := P.below hb
      replace M := M.below hb
      have al := (Below.refl w16.heap.size w16).alloc (Nat.le_refl _) (.cells #[.slice D5 d5.length c5] 24)
      have P5 : TsD (w16.alloc (.cells #[.slice D5 d5.length c5] 24)) w16.heap.size D5 c5 d5 := ⟨Box.new w16 24 #[.slice D5 d5.length c5], ho5.os.go al⟩
      replace H := H.below al
      replace P := P.below al
      replace M := M.below al
      have HDD := hideP (HD2.out.symm.trans hd5)
      clear hb ho5 al hd5
      go_wp2_with fail
      generalize w16.alloc (.cells #[.slice D5 d5.length c5] 24) = w17 at H P M P5 ⊢
      generalize w16.heap.size = g5 at P5 ⊢
      refine (rrdmap_any s w17 hs).mono ?_
      rintro e w18 ⟨n, rfl, hn, hmo, hb⟩
      obtain ⟨A6, ca6, cs6, O6, co6, os6⟩ := n
      simp only at hn ⊢
      replace H := H.below hb
      replace P := P.below hb
      replace M := M.below hb
      replace P5 := P5.below hb
      have al := (Below.refl w18.heap.size w18).alloc (Nat.le_refl _) (.cells #[.slice A6 cs6.length ca6, .slice O6 os6.length co6] 28)
      have M6 : TsM (w18.alloc (.cells #[.slice A6 cs6.length ca6, .slice O6 os6.length co6] 28)) w18.heap.size A6 ca6 cs6 O6 co6 os6 := ⟨Box.new w18 28 #[.slice A6 cs6.length ca6, .slice O6 os6.length co6], (hmo.below al).ms⟩
      replace H := H.below al
      replace P := P.below al
      replace M := M.below al
      replace P5 := P5.below al
      have HNN := hideP (HN2.out.symm.trans hn)
      clear hb hmo al hn
      have k0 := P.x.cell 0 (v := .slice D2 d2.length c2) rfl
      have k1 := P5.x.cell 0 (v := .slice D5 d5.length c5) rfl
      generalize (rdD s.data.toList).1 = qd
      generalize (rdM s.data.toList).1 = qn
      go_wp2_with fail
      refine (samedeed_any D2 D5 c2 c5 d2 d5 _ P.o P5.o (by omega)).mono ?_
      generalize w18.alloc (.cells #[.slice A6 cs6.length ca6, .slice O6 os6.length co6] 28) = w19 at H P M P5 M6 ⊢
      generalize w18.heap.size = g6 at M6 ⊢
      rintro e w20 ⟨rfl, hb⟩
      rw [sameB_true HDD.out]
      replace H := H.below hb
      replace M := M.below hb
      replace M6 := M6.below hb
      clear hb k0 k1 P P5
      have k0 := M.x.cell 0 (v := .slice A2 cs2.length ca2) rfl
      have k1 := M.x.cell 1 (v := .slice O2 os2.length co2) rfl
      have k2 := M6.x.cell 0 (v := .slice A6 cs6.length ca6) rfl
      have k3 := M6.x.cell 1 (v := .slice O6 os6.length co6) rfl
      go_wp2_with fail
      have HSM := samemap_any _ _ _ M.m M6.m
      simp only at HSM
      have hcs : cs2 = cs6 := by have := HNN.out; injection this
      have hos : os2 = os6 := by have := HNN.out; injection this
      rw [decide_eq_true hcs, decide_eq_true hos, Bool.and_self] at HSM
      clear hcs hos
      refine HSM.mono ?_
      clear HSM
      rintro e w21 ⟨rfl, hb⟩
      replace H := H.below hb
      clear hb k0 k1 k2 k3 M M6
      go_wp2_with fail
      go_ret
      exact ⟨rfl, H.be⟩
    · have HB := hideP (show mpA cs os = ByteArray.empty by unfold mpA; rw [if_neg hcm])
      have cz2 : (chkM cs os != 0) = true := by simpa using hcm
      rw [HB.out]
      clear hcm
      generalize chkM cs os = qm at cz2 ⊢
      generalize w14 = w15 at H P M ⊢
      go_wp2_with fail
      refine (rrddeed_any s w15 hs).mono ?_
      rintro e w16 ⟨D5, c5, d5, rfl, hd5, ho5, hb⟩
      replace H := H.below hb
      replace P := P.below hb
      replace M := M.below hb
      have al := (Below.refl w16.heap.size w16).alloc (Nat.le_refl _) (.cells #[.slice D5 d5.length c5] 24)
      have P5 : TsD (w16.alloc (.cells #[.slice D5 d5.length c5] 24)) w16.heap.size D5 c5 d5 := ⟨Box.new w16 24 #[.slice D5 d5.length c5], ho5.os.go al⟩
      replace H := H.below al
      replace P := P.below al
      replace M := M.below al
      have HDD := hideP (HD2.out.symm.trans hd5)
      clear hb ho5 al hd5
      go_wp2_with fail
      generalize w16.alloc (.cells #[.slice D5 d5.length c5] 24) = w17 at H P M P5 ⊢
      generalize w16.heap.size = g5 at P5 ⊢
      refine (rrdmap_any s w17 hs).mono ?_
      rintro e w18 ⟨n, rfl, hn, hmo, hb⟩
      obtain ⟨A6, ca6, cs6, O6, co6, os6⟩ := n
      simp only at hn ⊢
      replace H := H.below hb
      replace P := P.below hb
      replace M := M.below hb
      replace P5 := P5.below hb
      have al := (Below.refl w18.heap.size w18).alloc (Nat.le_refl _) (.cells #[.slice A6 cs6.length ca6, .slice O6 os6.length co6] 28)
      have M6 : TsM (w18.alloc (.cells #[.slice A6 cs6.length ca6, .slice O6 os6.length co6] 28)) w18.heap.size A6 ca6 cs6 O6 co6 os6 := ⟨Box.new w18 28 #[.slice A6 cs6.length ca6, .slice O6 os6.length co6], (hmo.below al).ms⟩
      replace H := H.below al
      replace P := P.below al
      replace M := M.below al
      replace P5 := P5.below al
      have HNN := hideP (HN2.out.symm.trans hn)
      clear hb hmo al hn
      have k0 := P.x.cell 0 (v := .slice D2 d2.length c2) rfl
      have k1 := P5.x.cell 0 (v := .slice D5 d5.length c5) rfl
      generalize (rdD s.data.toList).1 = qd
      generalize (rdM s.data.toList).1 = qn
      go_wp2_with fail
      refine (samedeed_any D2 D5 c2 c5 d2 d5 _ P.o P5.o (by omega)).mono ?_
      generalize w18.alloc (.cells #[.slice A6 cs6.length ca6, .slice O6 os6.length co6] 28) = w19 at H P M P5 M6 ⊢
      generalize w18.heap.size = g6 at M6 ⊢
      rintro e w20 ⟨rfl, hb⟩
      rw [sameB_true HDD.out]
      replace H := H.below hb
      replace M := M.below hb
      replace M6 := M6.below hb
      clear hb k0 k1 P P5
      have k0 := M.x.cell 0 (v := .slice A2 cs2.length ca2) rfl
      have k1 := M.x.cell 1 (v := .slice O2 os2.length co2) rfl
      have k2 := M6.x.cell 0 (v := .slice A6 cs6.length ca6) rfl
      have k3 := M6.x.cell 1 (v := .slice O6 os6.length co6) rfl
      go_wp2_with fail
      have HSM := samemap_any _ _ _ M.m M6.m
      simp only at HSM
      have hcs : cs2 = cs6 := by have := HNN.out; injection this
      have hos : os2 = os6 := by have := HNN.out; injection this
      rw [decide_eq_true hcs, decide_eq_true hos, Bool.and_self] at HSM
      clear hcs hos
      refine HSM.mono ?_
      clear HSM
      rintro e w21 ⟨rfl, hb⟩
      replace H := H.below hb
      clear hb k0 k1 k2 k3 M M6
      go_wp2_with fail
      go_ret
      exact ⟨rfl, H.be⟩
end Go.Proofs.YtmepmiokpcddbabGreatDoor
