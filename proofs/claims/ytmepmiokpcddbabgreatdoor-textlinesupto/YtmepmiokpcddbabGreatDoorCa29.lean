/-
  rolaw.TextLines: the walk.
-/
import Derived.Test.YtmepmiokpcddbabGreatDoorCa12
import Derived.Test.YtmepmiokpcddbabGreatDoorCa25
import Derived.Test.YtmepmiokpcddbabGreatDoorCa27
import Derived.Test.YtmepmiokpcddbabGreatDoorCa28
set_option linter.unusedVariables false
set_option linter.unusedSimpArgs false
namespace Go.Proofs.YtmepmiokpcddbabGreatDoor
open Go.RowKit
open Go.Lib hiding intOf

/-- an entry in its box -/
structure TlE (w : World) (g : Nat) (x : Em) : Prop where
  bx : Box w g 45 (emC x)
  es : ES w x
theorem TlE.below {w w' : World} {g : Nat} {x : Em} (h : TlE w g x) (hb : Below w.heap.size w w') : TlE w' g x := ⟨h.bx.below hb, h.es.below hb⟩
theorem TlE.new {w : World} {B : Nat} {x : Em} (h : EO w B x) (hb : ∀ o ∈ x.d, -9223372036854775808 ≤ o.n ∧ o.n ≤ 9223372036854775807) : TlE (w.alloc (.cells (emC x) 45)) w.heap.size x :=
  ⟨Box.new w 45 (emC x), (h.es hb).below ((Below.refl _ _).alloc (Nat.le_refl _) _)⟩
section
variable {w : World} {g : Nat} {x : Em}
theorem TlE.c0 (h : TlE w g x) : w.cell? ⟨g, 0, none⟩ = some (.slice x.D x.d.length x.c) := h.bx.cell 0 rfl
theorem TlE.c1 (h : TlE w g x) : w.cell? ⟨g, 1, none⟩ = some (.bool x.isM) := h.bx.cell 1 rfl
theorem TlE.c2 (h : TlE w g x) : w.cell? ⟨g, 2, none⟩ = some (.slice x.m.A x.m.cs.length x.m.ca) := h.bx.cell 2 rfl
theorem TlE.c3 (h : TlE w g x) : w.cell? ⟨g, 3, none⟩ = some (.slice x.m.O x.m.os.length x.m.co) := h.bx.cell 3 rfl
end
theorem tl_few (l : List UInt8) : (rdE l).2.1.d.length ≤ 8 := by
  have hB : ∀ b, (rdB b).2.d.length ≤ 8 := fun b => by
    unfold rdB
    split
    · split
      · simp
      · simp [ent0]
    · split
      · exact ts_few1 b
      · simp [ent0]
  have hP : ∀ b, (prL b).2.d.length ≤ 8 := fun b => by
    unfold prL
    split
    · simp [ent0]
    · split
      · simp [ent0]
      · split
        · simp [ent0]
        · exact hB _
  unfold rdE
  split
  · simp [ent0]
  · split
    · exact hP _
    · simp [ent0]
/-- entries of a log have few operations -/
theorem logTo_few {l : List UInt8} {xs : List Ent} {k : Nat} (h : LogTo l xs k) : ∀ x ∈ xs, x.d.length ≤ 8 := by
  induction h with
  | nil => intro x hx; simp at hx
  | @snoc xs k y n h hr ih =>
    intro x hx
    rcases List.mem_append.1 hx with hx | hx
    · exact ih x hx
    · obtain rfl := List.mem_singleton.1 hx
      have h1 := tl_few (l.drop k)
      rw [hr] at h1
      exact h1
theorem tl_b : sm [98] = 98 := by decide +kernel
/-- while the lines are read again -/
def TlI (wz : World) (l : List UInt8) (s i : Value) (wr : World) : Prop :=
  ∃ (A : Option Addr) (c : Nat) (xs : List Em) (k : Nat), s = .slice A xs.length c ∧ i = .int .i64 (k : Nat) ∧ LogTo l (xs.map entOf) k ∧ EW wr wz.heap.size A c xs ∧ Below wz.heap.size wz wr
set_option maxHeartbeats 8000000 in
set_option maxRecDepth 100000 in
theorem tlines_walk (x : Em) (s : ByteArray) (w : World) (hx : ES w x) (hs : s.size < 4294967281) (hg : Gl w) :
    Calls Tryz.prog 4 #[emV x, .string s] w fun e w' => e = .returned (.bool true) ∧ Below w.heap.size w w' := by
  have hsl : s.data.toList.length = s.size := by simp
  have b1 := (Below.refl w.heap.size w).alloc (Nat.le_refl _) (.cells (emC x) 45)
  have X : TlE (w.alloc (.cells (emC x) 45)) w.heap.size x := ⟨Box.new w 45 (emC x), hx.below b1⟩
  have hg1 := hg.below b1
  have HXB := hideP hx.bd
  clear hx hg
  obtain ⟨w1, hw1⟩ : ∃ W, W = w.alloc (.cells (emC x) 45) := ⟨_, rfl⟩
  rw [← hw1] at b1 X hg1
  have k0 := X.c0
  have k1 := X.c1
  have k2 := X.c2
  have k3 := X.c3
  rw [hw1] at k0 k1 k2 k3
  have HEN := hideP (entry_any x w1 X.es hg1)
  unfold emV emC at HEN
  unfold emV
  unfold emC at k0 k1 k2 k3 hw1 ⊢
  go_enter Tryz.func4, Tryz.ntmps4
  go_wp2_with fail
  rw [← hw1]
  clear hw1 k0 k1 k2 k3
  generalize hgd : w.heap.size = gd at X ⊢
  have HGD := hideP hgd
  clear hgd
  refine HEN.out.mono ?_
  clear HEN
  rintro e w2 ⟨rfl, hb⟩
  replace b1 := b1.trans (hb.mono b1.size)
  replace hg1 := hg1.below hb
  replace X := X.below hb
  clear hb
  go_wp2_with fail
  refine (rdentry_any s w2 hg1 hs).mono ?_
  rintro e w3 ⟨y, rfl, hy, hybd, hyo, hb⟩
  have al := (Below.refl w3.heap.size w3).alloc (Nat.le_refl _) (.cells (emC y) 45)
  replace b1 := b1.trans (hb.mono b1.size)
  replace b1 := b1.trans (al.mono b1.size)
  replace hg1 := (hg1.below hb).below al
  replace X := (X.below hb).below al
  have Y := TlE.new hyo hybd
  have HY := hideP hy
  clear hb al hyo hybd hy
  unfold emV
  unfold emC at b1 hg1 X Y ⊢
  go_wp2_with fail
  generalize w3.alloc _ = w4 at b1 hg1 X Y ⊢
  generalize w3.heap.size = g3 at Y ⊢
  refine (log_any s w4 hg1).mono ?_
  rintro e w5 ⟨q, AL, cL, xs, kL, hlog, rfl, hEW, hb⟩
  replace b1 := b1.trans (hb.mono b1.size)
  replace hg1 := hg1.below hb
  replace X := X.below hb
  replace Y := Y.below hb
  have HLG := hideP hlog
  clear hb hlog
  have hEL := hEW.el
  have hxl : xs.length ≤ maxLen := Nat.le_trans hEW.caps.1 hEW.caps.2.1
  clear hEW
  have HS1 := hideP (fun W => sum_any s W (by omega))
  have HS2 := hideP (fun W => rsum_any s W (by omega))
  have HS3 := hideP (fun W => sum_any ⟨#[98]⟩ W (by decide))
  rw [show (ByteArray.mk #[98]).data.toList = [98] from rfl, tl_b] at HS3
  generalize (sm s.data.toList : Int) = zs at HS1 HS2
  go_wp2_with fail
  refine (HS1.out _).mono ?_
  rintro e w6 ⟨rfl, rfl⟩
  go_wp2_with fail
  refine (HS2.out _).mono ?_
  rintro e w6 ⟨rfl, rfl⟩
  go_wp2_with fail
  refine (HS3.out _).mono ?_
  rintro e w6 ⟨rfl, rfl⟩
  clear HS1 HS2 HS3
  have k0 := X.c0
  have k1 := X.c1
  have k2 := X.c2
  have k3 := X.c3
  have HRE := hideP (rentry_any x w5 X.es)
  unfold emV emC at HRE
  go_wp2_with fail
  refine HRE.out.mono ?_
  clear HRE
  rintro e w7 ⟨rfl, hb⟩
  replace b1 := b1.trans (hb.mono b1.size)
  replace X := X.below hb
  replace Y := Y.below hb
  replace hEL := hEL.below hb
  clear hb k0 k1 k2 k3 hg1
  by_cases hc : chkE (entOf x) = 0
  · have HA := hideP (show enA (entOf x) = bs (entT (entOf x)) by unfold enA; rw [if_pos hc])
    have HRL := hideP (rline_any x w7 X.es hc)
    unfold emV emC at HRL
    rw [hc, HA.out]
    clear hc
    have k0 := X.c0
    have k1 := X.c1
    have k2 := X.c2
    have k3 := X.c3
    go_wp2_with fail
    refine HRL.out.mono ?_
    clear HRL
    rintro e w8 ⟨rfl, hb⟩
    replace b1 := b1.trans (hb.mono b1.size)
    replace Y := Y.below hb
    replace hEL := hEL.below hb
    clear hb k0 k1 k2 k3 X
    generalize bs (entT (entOf x)) = tx
    go_wp2_with fail
    refine (rrdln_any s w8 hs).mono ?_
    rintro e w9 ⟨z, rfl, hz, hzbd, hzo, hb⟩
    have al := (Below.refl w9.heap.size w9).alloc (Nat.le_refl _) (.cells (emC z) 45)
    replace b1 := b1.trans (hb.mono b1.size)
    replace b1 := b1.trans (al.mono b1.size)
    replace Y := (Y.below hb).below al
    replace hEL := (hEL.below hb).below al
    have Z := TlE.new hzo hzbd
    have hsam : sameE y z = true := sameE_iff.2 (HY.out.symm.trans hz)
    have hyf : y.d.length < 4611686018427387904 := by
      have h1 := tl_few s.data.toList
      rw [HY.out] at h1
      show (entOf y).d.length < _
      omega
    have HSE := hideP (sameent_any y z _ Y.es Z.es hyf)
    rw [hsam] at HSE
    clear hb al hzo hzbd hz hsam hyf
    have k0 := Y.c0
    have k1 := Y.c1
    have k2 := Y.c2
    have k3 := Y.c3
    have l0 := Z.c0
    have l1 := Z.c1
    have l2 := Z.c2
    have l3 := Z.c3
    unfold emV at HSE ⊢
    unfold emC at b1 Y Z HSE hEL k0 k1 k2 k3 l0 l1 l2 l3 ⊢
    generalize hr1 : (rdE s.data.toList).1 = r1
    generalize hr2 : (rdE s.data.toList).2.2 = r2
    go_wp2_with fail
    refine HSE.out.mono ?_
    clear HSE k0 k1 k2 k3 l0 l1 l2 l3
    generalize w9.alloc _ = w10 at b1 Y Z hEL ⊢
    rintro e w11 ⟨rfl, hb⟩
    replace b1 := b1.trans (hb.mono b1.size)
    replace hEL := hEL.below hb
    clear hb Y Z
    by_cases hbig : 20000 < s.size
    · have hlg : q = 2 ∧ xs.length = 0 ∧ kL = 0 := by
        obtain ⟨h1, h2, h3⟩ := HLG.out.same (.large (by omega))
        exact ⟨h1, by rw [← List.length_map (f := entOf), h2]; rfl, h3⟩
      obtain ⟨rfl, hx0, rfl⟩ := hlg
      have g1 : (20000 : Int) < (s.size : Int) := by omega
      have e0 : ((xs.length : Int) == 0) = true := by rw [hx0]; rfl
      clear HLG hr1 hr2 hx0 hbig
      go_wp2_with fail
      go_ret
      exact ⟨rfl, by first | exact b1 | (rw [← HGD.out]; exact b1)⟩
    · have g1 : ¬ (20000 : Int) < (s.size : Int) := by omega
      have HLE := hideP (show s.data.toList.length ≤ 20000 by omega)
      have HSL := hideP hsl
      have hs2 : s.size ≤ 20000 := by omega
      have HB1 := hideP b1
      have HEL := hideP hEL
      clear hsl hbig b1 hEL hr1 hr2
      go_wp2_with fail
      go_loopw [17, 18] (TlI w11 s.data.toList) (fun _ i _ => s.size + 1 - (intOf i).toNat)
      case atStart => exact ⟨none, 0, [], 0, rfl, rfl, .nil, EW.nil _ _, Below.refl _ _⟩
      case round =>
        obtain ⟨A, c, ys, k, rfl, rfl, hto, hW, hb⟩ := hrel
        have hkl := hto.le
        have hrm := hto.room
        rw [HSL.out] at hkl
        rw [List.length_map] at hrm
        have g2 : (0 : Int) ≤ (k : Int) := by omega
        have g3 : (k : Int) ≤ (s.size : Int) := by omega
        have hyl : ys.length ≤ 20000 := by omega
        have hsz : (s.extract k s.size).size < 4294967281 := by
          have h1 : (s.extract k s.size).data.toList.length = (s.extract k s.size).size := by simp
          rw [ext_drop1, List.length_drop] at h1
          have := HSL.out
          omega
        have HR := hideP (rrdln_any (s.extract k s.size) wr hsz)
        unfold RetRe at HR
        rw [ext_drop1] at HR
        have hlen := fun x n (h : rdE (s.data.toList.drop k) = (0, x, n)) => rdE_len h
        rw [List.length_drop, HSL.out] at hlen
        obtain ⟨p, en, n, hq⟩ : ∃ q en n, rdE (s.data.toList.drop k) = (q, en, n) := ⟨_, _, _, rfl⟩
        rw [hq] at HR hlen
        have HQ := hideP hq
        have HT := hideP hto
        clear hq hto hrm hsz
        simp only at HR
        go_wp2_with fail
        refine HR.out.mono ?_
        clear HR
        rintro e w12 ⟨u, rfl, hu, hbd, heo, hb2⟩
        have b2 := hb.trans (hb2.mono hb.size)
        have hW2 := hW.below hb2
        have HX := hideP hu
        clear hu hW
        by_cases h7 : p = 7
        · subst h7
          obtain ⟨hq0, hxy, hkk⟩ := HLG.out.same (LogIs.ok HLE.out HT.out (by rw [HQ.out]))
          subst hq0
          subst hkk
          have al := b2.alloc b2.size (.cells (emC u) 45)
          have hW3 := hW2.below ((Below.refl w12.heap.size w12).alloc (Nat.le_refl _) (.cells (emC u) 45))
          have hfew : ∀ x ∈ xs, x.d.length < 4611686018427387904 := fun x hx => by
            have h1 := logTo_few HT.out (entOf x) (by rw [← hxy]; exact List.mem_map_of_mem hx)
            show (entOf x).d.length < _
            omega
          have HEF := hideP (eqfE_any AL A cL c xs ys _ (HEL.out.below al) hW3.el hfew (by have h5 := congrArg List.length hxy; rw [List.length_map, List.length_map] at h5; omega))
          rw [sameL_true hxy] at HEF
          clear HX heo hbd hlen hW2 hW3 hxy hfew
          unfold emV
          unfold emC at al HEF ⊢
          go_wp2_with fail
          refine HEF.out.mono ?_
          clear HEF
          generalize w12.alloc _ = w13 at al ⊢
          rintro e w14 ⟨rfl, hb3⟩
          go_wp2_with fail
          go_ret
          exact ⟨rfl, by first | exact HB1.out.trans ((al.trans (hb3.mono al.size)).mono HB1.out.size) | (rw [← HGD.out]; exact HB1.out.trans ((al.trans (hb3.mono al.size)).mono HB1.out.size))⟩
        · by_cases h0 : p = 0
          · subst h0
            obtain ⟨hn2, hnl⟩ := hlen en n rfl
            have HT2 := hideP (HT.out.snoc HQ.out)
            have al := (Below.refl w12.heap.size w12).alloc (Nat.le_refl _) (.cells (emC u) 45)
            have b3 := b2.alloc b2.size (.cells (emC u) 45)
            have hW3 := hW2.below al
            have heo3 := (heo.below al).mono hb.size
            have xe := Box.new w12 45 (emC u)
            obtain ⟨A', c', w13, hrun, hW4, _, hbel, _⟩ := app_ent _ w11.heap.size 49 A c ys hW3 u heo3 hbd (by omega) b3.size
            have b4 := hbel _ _ (Nat.le_refl _) b3
            simp only [World.size_alloc] at hrun
            have HRN := hideP hrun
            have g4 : IntKind.i64.wrap ((k : Int) + (n : Int)) = (k : Int) + (n : Int) := by simp only [IntKind.wrap_i64]; omega
            have HXE := hideP (show (ys ++ [u]).map entOf = ys.map entOf ++ [en] by rw [List.map_append, HX.out]; rfl)
            clear hrun hW3 heo3 heo hbel al b3 hbd hb2 hW2 hlen HX
            generalize hxx : ys ++ [u] = xx at HRN hW4 HXE
            clear hxx
            obtain ⟨D, cd, d, isM, ⟨A2, ca, cs, O, co, os⟩⟩ := u
            unfold emV
            unfold emC at xe HRN ⊢
            simp only at xe HRN ⊢
            have e0 := xe.cell 0 (v := .slice D d.length cd) rfl
            have e1 := xe.cell 1 (v := .bool isM) rfl
            have e2 := xe.cell 2 (v := .slice A2 cs.length ca) rfl
            have e3 := xe.cell 3 (v := .slice O os.length co) rfl
            clear xe
            go_wp2_with (at_builtin; refine Lib.wpList_append_run _ rfl _ _ _ _ rfl _ _ rfl rfl _ _ HRN.out ?_)
            go_roundw
            case rel => exact ⟨A', c', xx, k + n, rfl, by go_num, by rw [HXE.out]; exact HT2.out, hW4, b4⟩
            case measure => simp [intOf]; omega
          · obtain ⟨hq0, hxy, hkk⟩ := HLG.out.same (LogIs.bad HLE.out HT.out (by rw [HQ.out]) h0 h7)
            have hx0 : xs.length = 0 := by rw [← List.length_map (f := entOf), hxy]; rfl
            have e0 : ((xs.length : Int) == 0) = true := by rw [hx0]; rfl
            subst hkk
            have al := b2.alloc b2.size (.cells (emC u) 45)
            have d1 : (p == 7) = false := by simpa using h7
            have d2 : (p != 0) = true := by simpa using h0
            rw [show q = p from hq0]
            clear HX heo hbd hlen HQ h7 h0 hq0 hxy hx0
            unfold emV
            unfold emC at al ⊢
            go_wp2_with fail
            go_ret
            exact ⟨rfl, by first | exact HB1.out.trans (al.mono HB1.out.size) | (rw [← HGD.out]; exact HB1.out.trans (al.mono HB1.out.size))⟩
  · have HA := hideP (show enA (entOf x) = ByteArray.empty by unfold enA; rw [if_neg hc])
    have cq1 : (chkE (entOf x) != 0) = true := by simpa using hc
    rw [HA.out]
    clear hc X
    generalize chkE (entOf x) = qx at cq1 ⊢
    generalize w7 = w8 at b1 Y hEL ⊢
    go_wp2_with fail
    refine (rrdln_any s w8 hs).mono ?_
    rintro e w9 ⟨z, rfl, hz, hzbd, hzo, hb⟩
    have al := (Below.refl w9.heap.size w9).alloc (Nat.le_refl _) (.cells (emC z) 45)
    replace b1 := b1.trans (hb.mono b1.size)
    replace b1 := b1.trans (al.mono b1.size)
    replace Y := (Y.below hb).below al
    replace hEL := (hEL.below hb).below al
    have Z := TlE.new hzo hzbd
    have hsam : sameE y z = true := sameE_iff.2 (HY.out.symm.trans hz)
    have hyf : y.d.length < 4611686018427387904 := by
      have h1 := tl_few s.data.toList
      rw [HY.out] at h1
      show (entOf y).d.length < _
      omega
    have HSE := hideP (sameent_any y z _ Y.es Z.es hyf)
    rw [hsam] at HSE
    clear hb al hzo hzbd hz hsam hyf
    have k0 := Y.c0
    have k1 := Y.c1
    have k2 := Y.c2
    have k3 := Y.c3
    have l0 := Z.c0
    have l1 := Z.c1
    have l2 := Z.c2
    have l3 := Z.c3
    unfold emV at HSE ⊢
    unfold emC at b1 Y Z HSE hEL k0 k1 k2 k3 l0 l1 l2 l3 ⊢
    generalize hr1 : (rdE s.data.toList).1 = r1
    generalize hr2 : (rdE s.data.toList).2.2 = r2
    go_wp2_with fail
    refine HSE.out.mono ?_
    clear HSE k0 k1 k2 k3 l0 l1 l2 l3
    generalize w9.alloc _ = w10 at b1 Y Z hEL ⊢
    rintro e w11 ⟨rfl, hb⟩
    replace b1 := b1.trans (hb.mono b1.size)
    replace hEL := hEL.below hb
    clear hb Y Z
    by_cases hbig : 20000 < s.size
    · have hlg : q = 2 ∧ xs.length = 0 ∧ kL = 0 := by
        obtain ⟨h1, h2, h3⟩ := HLG.out.same (.large (by omega))
        exact ⟨h1, by rw [← List.length_map (f := entOf), h2]; rfl, h3⟩
      obtain ⟨rfl, hx0, rfl⟩ := hlg
      have g1 : (20000 : Int) < (s.size : Int) := by omega
      have e0 : ((xs.length : Int) == 0) = true := by rw [hx0]; rfl
      clear HLG hr1 hr2 hx0 hbig
      go_wp2_with fail
      go_ret
      exact ⟨rfl, by first | exact b1 | (rw [← HGD.out]; exact b1)⟩
    · have g1 : ¬ (20000 : Int) < (s.size : Int) := by omega
      have HLE := hideP (show s.data.toList.length ≤ 20000 by omega)
      have HSL := hideP hsl
      have hs2 : s.size ≤ 20000 := by omega
      have HB1 := hideP b1
      have HEL := hideP hEL
      clear hsl hbig b1 hEL hr1 hr2
      go_wp2_with fail
      go_loopw [17, 18] (TlI w11 s.data.toList) (fun _ i _ => s.size + 1 - (intOf i).toNat)
      case atStart => exact ⟨none, 0, [], 0, rfl, rfl, .nil, EW.nil _ _, Below.refl _ _⟩
      case round =>
        obtain ⟨A, c, ys, k, rfl, rfl, hto, hW, hb⟩ := hrel
        have hkl := hto.le
        have hrm := hto.room
        rw [HSL.out] at hkl
        rw [List.length_map] at hrm
        have g2 : (0 : Int) ≤ (k : Int) := by omega
        have g3 : (k : Int) ≤ (s.size : Int) := by omega
        have hyl : ys.length ≤ 20000 := by omega
        have hsz : (s.extract k s.size).size < 4294967281 := by
          have h1 : (s.extract k s.size).data.toList.length = (s.extract k s.size).size := by simp
          rw [ext_drop1, List.length_drop] at h1
          have := HSL.out
          omega
        have HR := hideP (rrdln_any (s.extract k s.size) wr hsz)
        unfold RetRe at HR
        rw [ext_drop1] at HR
        have hlen := fun x n (h : rdE (s.data.toList.drop k) = (0, x, n)) => rdE_len h
        rw [List.length_drop, HSL.out] at hlen
        obtain ⟨p, en, n, hq⟩ : ∃ q en n, rdE (s.data.toList.drop k) = (q, en, n) := ⟨_, _, _, rfl⟩
        rw [hq] at HR hlen
        have HQ := hideP hq
        have HT := hideP hto
        clear hq hto hrm hsz
        simp only at HR
        go_wp2_with fail
        refine HR.out.mono ?_
        clear HR
        rintro e w12 ⟨u, rfl, hu, hbd, heo, hb2⟩
        have b2 := hb.trans (hb2.mono hb.size)
        have hW2 := hW.below hb2
        have HX := hideP hu
        clear hu hW
        by_cases h7 : p = 7
        · subst h7
          obtain ⟨hq0, hxy, hkk⟩ := HLG.out.same (LogIs.ok HLE.out HT.out (by rw [HQ.out]))
          subst hq0
          subst hkk
          have al := b2.alloc b2.size (.cells (emC u) 45)
          have hW3 := hW2.below ((Below.refl w12.heap.size w12).alloc (Nat.le_refl _) (.cells (emC u) 45))
          have hfew : ∀ x ∈ xs, x.d.length < 4611686018427387904 := fun x hx => by
            have h1 := logTo_few HT.out (entOf x) (by rw [← hxy]; exact List.mem_map_of_mem hx)
            show (entOf x).d.length < _
            omega
          have HEF := hideP (eqfE_any AL A cL c xs ys _ (HEL.out.below al) hW3.el hfew (by have h5 := congrArg List.length hxy; rw [List.length_map, List.length_map] at h5; omega))
          rw [sameL_true hxy] at HEF
          clear HX heo hbd hlen hW2 hW3 hxy hfew
          unfold emV
          unfold emC at al HEF ⊢
          go_wp2_with fail
          refine HEF.out.mono ?_
          clear HEF
          generalize w12.alloc _ = w13 at al ⊢
          rintro e w14 ⟨rfl, hb3⟩
          go_wp2_with fail
          go_ret
          exact ⟨rfl, by first | exact HB1.out.trans ((al.trans (hb3.mono al.size)).mono HB1.out.size) | (rw [← HGD.out]; exact HB1.out.trans ((al.trans (hb3.mono al.size)).mono HB1.out.size))⟩
        · by_cases h0 : p = 0
          · subst h0
            obtain ⟨hn2, hnl⟩ := hlen en n rfl
            have HT2 := hideP (HT.out.snoc HQ.out)
            have al := (Below.refl w12.heap.size w12).alloc (Nat.le_refl _) (.cells (emC u) 45)
            have b3 := b2.alloc b2.size (.cells (emC u) 45)
            have hW3 := hW2.below al
            have heo3 := (heo.below al).mono hb.size
            have xe := Box.new w12 45 (emC u)
            obtain ⟨A', c', w13, hrun, hW4, _, hbel, _⟩ := app_ent _ w11.heap.size 49 A c ys hW3 u heo3 hbd (by omega) b3.size
            have b4 := hbel _ _ (Nat.le_refl _) b3
            simp only [World.size_alloc] at hrun
            have HRN := hideP hrun
            have g4 : IntKind.i64.wrap ((k : Int) + (n : Int)) = (k : Int) + (n : Int) := by simp only [IntKind.wrap_i64]; omega
            have HXE := hideP (show (ys ++ [u]).map entOf = ys.map entOf ++ [en] by rw [List.map_append, HX.out]; rfl)
            clear hrun hW3 heo3 heo hbel al b3 hbd hb2 hW2 hlen HX
            generalize hxx : ys ++ [u] = xx at HRN hW4 HXE
            clear hxx
            obtain ⟨D, cd, d, isM, ⟨A2, ca, cs, O, co, os⟩⟩ := u
            unfold emV
            unfold emC at xe HRN ⊢
            simp only at xe HRN ⊢
            have e0 := xe.cell 0 (v := .slice D d.length cd) rfl
            have e1 := xe.cell 1 (v := .bool isM) rfl
            have e2 := xe.cell 2 (v := .slice A2 cs.length ca) rfl
            have e3 := xe.cell 3 (v := .slice O os.length co) rfl
            clear xe
            go_wp2_with (at_builtin; refine Lib.wpList_append_run _ rfl _ _ _ _ rfl _ _ rfl rfl _ _ HRN.out ?_)
            go_roundw
            case rel => exact ⟨A', c', xx, k + n, rfl, by go_num, by rw [HXE.out]; exact HT2.out, hW4, b4⟩
            case measure => simp [intOf]; omega
          · obtain ⟨hq0, hxy, hkk⟩ := HLG.out.same (LogIs.bad HLE.out HT.out (by rw [HQ.out]) h0 h7)
            have hx0 : xs.length = 0 := by rw [← List.length_map (f := entOf), hxy]; rfl
            have e0 : ((xs.length : Int) == 0) = true := by rw [hx0]; rfl
            subst hkk
            have al := b2.alloc b2.size (.cells (emC u) 45)
            have d1 : (p == 7) = false := by simpa using h7
            have d2 : (p != 0) = true := by simpa using h0
            rw [show q = p from hq0]
            clear HX heo hbd hlen HQ h7 h0 hq0 hxy hx0
            unfold emV
            unfold emC at al ⊢
            go_wp2_with fail
            go_ret
            exact ⟨rfl, by first | exact HB1.out.trans (al.mono HB1.out.size) | (rw [← HGD.out]; exact HB1.out.trans (al.mono HB1.out.size))⟩
end Go.Proofs.YtmepmiokpcddbabGreatDoor
