/-
  The walk of ShardParts.
-/
import Derived.Test.YtoelnhnbefkfoaaShLaw
import Derived.Test.YtoelnhnbefkfoaaShPartW
import Derived.Test.YtoelnhnbefkfoaaPairs
import Derived.Test.YtoelnhnbefkfoaaJoin
import Derived.Test.YtoelnhnbefkfoaaEqual
set_option linter.unusedVariables false
set_option linter.unusedSimpArgs false
namespace Go.Proofs.Ytoelnhnbefkfoaa
open Go.RowKit

theorem partV_begun : partV [⟨#[109]⟩] [0, 3] [(⟨#[110]⟩, 1)] 3 = ([(⟨#[110]⟩, 1)], 0) := by decide +kernel
/-- the parts of the owners so far, joined -/
theorem up_join {cs : List ByteArray} {os : List Int} {l y : List Pr} {n : Int} (h : Ok l) (hj : Joined (upL cs os n l) (ptL cs os n l) y) : y = upL cs os (n + 1) l :=
  hj.ok.one_ (upL_ok h _) fun p => by rw [hj.mem, up_mem]
/-- between two owners -/
def PtI (w : World) (gm : Nat) (m : Mp) (Al : Option Addr) (cl : Nat) (l : List Pr) (vj vn vi : Value) (wr : World) : Prop :=
  ∃ (k : Nat) (A : Option Addr) (c : Nat), k ≤ 4 ∧ vi = .int .i64 k ∧ vn = .int .i64 ((upL m.cs m.os (k : Int) l).length : Nat) ∧ vj = .slice A (upL m.cs m.os (k : Int) l).length c ∧ SV wr A c (upL m.cs m.os (k : Int) l) ∧ SV wr Al cl l ∧ MX w gm m wr
def PqI (w1 : World) (n : Nat) (i : Value) (wr : World) : Prop := ∃ k : Nat, k ≤ n ∧ i = .int .i64 k ∧ Below w1.heap.size w1 wr

set_option maxHeartbeats 4000000 in
set_option maxRecDepth 100000 in
theorem parts_walk (P T : Option Addr) (cp ct : Nat) (zs ts : List Int) (w : World) (hP : IS w P zs) (hl : zs.length ≤ cp) (hc : cp ≤ 9223372036854775807) (hn : P = none → cp = 0)
    (hT : IS w T ts) (hlt : ts.length ≤ ct) (hct : ct ≤ 9223372036854775807) (hnt : T = none → ct = 0) :
    Calls Try.prog 6 #[.slice P zs.length cp, .slice T ts.length ct] w fun e w' => e = .returned (.bool true) ∧ Below w.heap.size w w' := by
  have b0 := (((Below.refl w.heap.size w).alloc (Nat.le_refl _) (.cells #[.string ⟨#[109]⟩] 9)).alloc (by simp) (.cells #[.int .i64 0, .int .i64 3] 3)).alloc (by simp; omega) (.cells #[.string ⟨#[110]⟩, .int .i64 1] 49)
  have x0 := ((Box.new w 9 #[.string ⟨#[109]⟩]).alloc (.cells #[.int .i64 0, .int .i64 3] 3)).alloc (.cells #[.string ⟨#[110]⟩, .int .i64 1] 49)
  have x1 := (Box.new (w.alloc (.cells #[.string ⟨#[109]⟩] 9)) 3 #[.int .i64 0, .int .i64 3]).alloc (.cells #[.string ⟨#[110]⟩, .int .i64 1] 49)
  have x2 := PS.one ((w.alloc (.cells #[.string ⟨#[109]⟩] 9)).alloc (.cells #[.int .i64 0, .int .i64 3] 3)) ⟨#[110]⟩ 1 49
  simp only [World.size_alloc] at x1
  rw [show ((w.alloc (.cells #[.string ⟨#[109]⟩] 9)).alloc (.cells #[.int .i64 0, .int .i64 3] 3)).heap.size = w.heap.size + 1 + 1 by simp] at x2
  have hm : MS (((w.alloc (.cells #[.string ⟨#[109]⟩] 9)).alloc (.cells #[.int .i64 0, .int .i64 3] 3)).alloc (.cells #[.string ⟨#[110]⟩, .int .i64 1] 49)) ⟨some ⟨w.heap.size, 0, none⟩, 1, [⟨#[109]⟩], some ⟨w.heap.size + 1, 0, none⟩, 2, [0, 3]⟩ :=
    ⟨VS.of_box x0, VS.is_int (l := [0, 3]) (VS.of_box x1), by simp, by simp, by simp [maxLen], by simp [maxLen], (fun e => by cases e), (fun e => by cases e)⟩
  have HF := hideP (shpart_any _ (some ⟨w.heap.size + 1 + 1, 0, none⟩) 1 [(⟨#[110]⟩, 1)] 3 _ hm x2 (by simp) (by simp))
  rw [show partV (⟨some ⟨w.heap.size, 0, none⟩, 1, [⟨#[109]⟩], some ⟨w.heap.size + 1, 0, none⟩, 2, [0, 3]⟩ : Mp).cs (⟨some ⟨w.heap.size, 0, none⟩, 1, [⟨#[109]⟩], some ⟨w.heap.size + 1, 0, none⟩, 2, [0, 3]⟩ : Mp).os [(⟨#[110]⟩, 1)] 3 = ([(⟨#[110]⟩, 1)], 0) from partV_begun] at HF
  clear x0 x1 x2 hm
  go_enter Try.func6, Try.ntmps6
  go_wp2_with fail
  refine HF.out.mono ?_
  rintro e w1 ⟨Ax, cx, rfl, hx, hb1⟩
  have hb1 := b0.trans (hb1.mono b0.size)
  have hP1 := hP.below hb1
  have hT1 := hT.below hb1
  clear HF hx hP hT b0
  go_wp2_with fail
  refine (kmap_mk P cp zs _ hP1 (by omega)).mono ?_
  rintro e w2 ⟨m, rfl, hok, h6, hmo, hb2⟩
  have hT2 := hT1.below hb2
  have hb2' := hb1.trans (hb2.mono hb1.size)
  clear hP1 hT1
  go_wp2_with fail
  refine (pairs_any T ct ts _ hT2 hlt hct hnt).mono ?_
  rintro e w3 ⟨Al, cl, l, rfl, hsv, hsm, hb3⟩
  have hM := MX.mk_ ((hmo.mono hb1.size).below hb3) (hb2'.trans (hb3.mono hb2'.size))
  have hs0 := hsv.below ((Below.refl _ _).alloc (Nat.le_refl _) (.cells #[.slice m.A m.cs.length m.ca, .slice m.O m.os.length m.co] 26))
  have hokl := hsm.ok
  have hsl := hsm.len
  clear hb1 hb2 hb3 hb2' hmo hT2 hsm hsv
  go_wp2_with fail
  generalize w3.alloc _ = w4 at hM hs0 ⊢
  generalize w3.heap.size = gm at hM ⊢
  go_loopw [9, 10, 39] (PtI w gm m Al cl l) (fun _ _ i _ => 4 - (intOf i).toNat)
  case atStart => exact ⟨0, none, 0, by omega, rfl, by rw [show ((0 : Nat) : Int) = 0 from rfl, upL_zero hok]; rfl, by rw [show ((0 : Nat) : Int) = 0 from rfl, upL_zero hok]; rfl, by rw [show ((0 : Nat) : Int) = 0 from rfl, upL_zero hok]; exact SV.nil _, hs0, hM⟩
  case round =>
    obtain ⟨k, A, c, hk, rfl, rfl, rfl, hj, hs, hMr⟩ := hrel
    have hupl : (upL m.cs m.os (k : Int) l).length ≤ l.length := List.length_filter_le _ _
    by_cases hk4 : k < 4
    · have g1 : (k : Int) < 4 := by omega
      obtain ⟨z1, z2⟩ := hMr.c
      have hob : ownB (k : Int) = true := ownB_iff.2 (by omega)
      have HPT := hideP (fun (W : World) (h : MS W m) (hs : SV W Al cl l) => shpart_any m Al cl l (k : Int) W h hs.ps hok.l2 (by omega))
      rw [partV_ok (chkM_ok.2 hok) (chk_ok.2 hokl) hob] at HPT
      have hptl : (ptL m.cs m.os (k : Int) l).length ≤ l.length := List.length_filter_le _ _
      have HUL := hideP (upL_len (cs := m.cs) (os := m.os) (l := l) (k : Int))
      have hpk := ptL_ok (cs := m.cs) (os := m.os) hokl (k : Int)
      have huk := upL_ok (cs := m.cs) (os := m.os) hokl (k : Int)
      have HAP := hideP (up_apart (cs := m.cs) (os := m.os) (l := l) (k : Int))
      have HUJ := hideP (fun y (h : Joined (upL m.cs m.os (k : Int) l) (ptL m.cs m.os (k : Int) l) y) => up_join hokl h)
      have HWH := hideP (show ∀ p ∈ ptL m.cs m.os (k : Int) l, keyB p.1 = true ∧ whV m.cs m.os p.1 = (k : Int) from fun p hp => ⟨hpk.key p hp, by have := (List.mem_filter.1 hp).2; simpa using this⟩)
      clear hob
      go_wp2_with fail
      refine (HPT.out _ hMr.ms hs).mono ?_
      rintro e w5 ⟨Ap, cp', rfl, hov, hb5⟩
      simp only at hov ⊢
      replace hMr := hMr.below hb5
      replace hs := hs.below hb5
      replace hj := hj.below hb5
      have hp := hov.sv
      clear hb5 hov z1 z2 HPT
      generalize ptL m.cs m.os (k : Int) l = pt at HUL hpk HAP HUJ HWH hp hptl ⊢
      generalize upL m.cs m.os (k : Int) l = up at HUL huk HAP HUJ hj hupl ⊢
      have pn : IntKind.i64.wrap ((up.length : Int) + (pt.length : Int)) = (up.length : Int) + (pt.length : Int) := by simp only [IntKind.wrap_i64]; omega
      go_wp2_with fail
      refine (join_ok A Ap c cp' up pt _ hj hp huk hpk (by omega)).mono ?_
      rintro e w6 ⟨hor, hb6⟩
      rcases hor with ⟨hna, _⟩ | ⟨Ay, cy, y, rfl, hy, hjd⟩
      · exact absurd (show Apart up pt from HAP.out) hna
      have hyu := HUJ.out y hjd
      have HYU := hideP hyu
      have HYL := hideP (show y.length = up.length + pt.length by rw [hyu]; exact HUL.out)
      replace hMr := hMr.below hb6
      replace hs := hs.below hb6
      have hp6 := hp.below hb6
      clear hb6 hjd hyu hj hp
      go_wp2_with fail
      go_loopw [66] (PqI w6 pt.length) (fun i _ => pt.length - (intOf i).toNat)
      case atStart => exact ⟨0, Nat.zero_le _, rfl, Below.refl _ _⟩
      case round =>
        obtain ⟨q, hq, rfl, hb⟩ := hrel
        have hMq := hMr.below hb
        have hpq := hp6.below hb
        by_cases hql : q < pt.length
        · obtain ⟨b, o, rfl, hbl, c1, c2⟩ := hpq.ps q _ (List.getElem?_eq_getElem hql)
          obtain ⟨hkp, hwp⟩ := HWH.out _ (List.getElem_mem hql)
          generalize pt[q] = p at c1 c2 hkp hwp
          have HFD := hideP (fun (W : World) (h : MS W m) => shfind_any m p.1 W h hok.l2)
          rw [findV_ok (chkM_ok.2 hok) hkp, hwp] at HFD
          have g2 : (0 : Int) ≤ (q : Int) := by omega
          have g3 : (q : Int) < (pt.length : Int) := by omega
          have dd : ((k : Int) != (k : Int)) = false := by simp
          have hMa := hMq.alloc (o := .cells #[.string p.1, .int .i64 p.2] 49)
          have hba := hb.alloc hb.size (.cells #[.string p.1, .int .i64 p.2] 49)
          have y0 := (Box.new wr 49 #[.string p.1, .int .i64 p.2]).cell 0 (v := .string p.1) rfl
          obtain ⟨z1, z2⟩ := hMa.c
          clear hkp hwp hpq hMq
          go_wp2_with fail
          refine (HFD.out _ hMa.ms).mono ?_
          rintro e w7 ⟨rfl, hb7⟩
          have hb8 := hba.trans (hb7.mono hba.size)
          go_wp2_with fail
          go_roundw
          case rel => exact ⟨q + 1, by omega, by go_num, hb8⟩
          case measure => simp [intOf]; omega
        · have HFIN := hideP (show PtI w gm m Al cl l (.slice Ay y.length cy) (.int .i64 ((up.length : Int) + (pt.length : Int))) (.int .i64 ((k : Int) + 1)) wr from
            ⟨k + 1, Ay, cy, by omega, by simp, by rw [show ((k + 1 : Nat) : Int) = (k : Int) + 1 by omega, ← HYU.out, HYL.out]; simp, by rw [show ((k + 1 : Nat) : Int) = (k : Int) + 1 by omega, ← HYU.out], by rw [show ((k + 1 : Nat) : Int) = (k : Int) + 1 by omega, ← HYU.out]; exact hy.below hb, hs.below hb, hMq⟩)
          clear hpq hMq
          go_wp2_with fail
          go_roundw
          case rel => exact HFIN.out
          case measure => simp [intOf]; omega
    · have hk5 : k = 4 := by omega
      subst hk5
      rw [show ((4 : Nat) : Int) = 4 from rfl, upL_all hok] at hj ⊢
      clear hupl
      have hll : l.length < 4611686018427387904 := by omega
      have dd : ((l.length : Int) == (l.length : Int)) = true := by simp
      go_wp2_with fail
      refine (equal_same A Al c cl l _ hj.ps hs.ps hll).mono ?_
      rintro e w8 ⟨rfl, hb8⟩
      have hbe := (hMr.below hb8).be
      go_wp2_with fail
      go_ret
      exact ⟨rfl, hbe⟩
end Go.Proofs.Ytoelnhnbefkfoaa
