/-
  rolaw.MergePlays: the walk.
-/
import Derived.Test.YtcjfkbponikadaaDoorBp24
import Derived.Test.YtcjfkbponikadaaDoorBp25
import Derived.Test.YtcjfkbponikadaaDoorBp26
import Derived.Test.YtcjfkbponikadaaDoorBp28
import Derived.Test.YtcjfkbponikadaaDoorBp29
import Derived.Deep.RegionLaw
set_option linter.unusedVariables false
set_option linter.unusedSimpArgs false
namespace Go.Proofs.YtcjfkbponikadaaDoor
open Go.RowKit

/-- the two Merges while they are played -/
structure PlH2 (w : World) (Br g gr : Nat) (s : Ms) (r : Rs) (wr : World) : Prop where
  so : s.Ok wr w.heap.size
  sg : s.g = g
  ro : r.Ok w wr Br
  rg : r.g = gr
  dj : ∀ q, s.F q → ¬ r.F q
  be : Below w.heap.size w wr
structure PlE (w : World) (Br g gr : Nat) (s : Ms) (r : Rs) (wr : World) : Prop extends PlH2 w Br g gr s r wr where
  eq : s.ct = r.ct
section
variable {w wr w' : World} {Br g gr : Nat} {s s' : Ms} {r r' : Rs} {ct' : List (List (List Ent))}
theorem PlH2.below (h : PlH2 w Br g gr s r wr) (hb : Below wr.heap.size wr w') : PlH2 w Br g gr s r w' := ⟨h.so.below hb, h.sg, h.ro.below hb, h.rg, h.dj, h.be.trans (hb.mono h.be.size)⟩
theorem PlE.below (h : PlE w Br g gr s r wr) (hb : Below wr.heap.size wr w') : PlE w Br g gr s r w' := ⟨h.toPlH2.below hb, h.eq⟩
theorem PlH2.stepS (h : PlH2 w Br g gr s r wr) (hT : s.To wr w.heap.size s' w' ct') : PlH2 w Br g gr s' r w' :=
  ⟨hT.ok, hT.g.trans h.sg, h.ro.fr hT.fr (fun q hq hs => h.dj q hs hq) (fun q hq => (h.so.lo hq).1), h.rg, fun q hq hr => (hT.F q hq).elim (fun e => h.dj q e hr) (fun e => by have := (h.ro.lo hr).2; omega), hT.below_ h.so (Nat.le_refl _) h.be⟩
theorem PlH2.stepR (h : PlH2 w Br g gr s r wr) (hT : r.To w wr Br r' w' ct') : PlH2 w Br g gr s r' w' :=
  ⟨h.so.fr hT.fr (fun q hq => h.dj q hq) (h.ro.off (by decide) (by decide) (by decide) (by decide)) (h.ro.off (by decide) (by decide) (by decide) (by decide)) (h.ro.off (by decide) (by decide) (by decide) (by decide)), h.sg, hT.ok, hT.g.trans h.rg,
    fun q hq hr => (hT.F q hr).elim (fun e => h.dj q hq e) (fun e => by have := (h.so.lo hq).2; omega), hT.below_ h.ro h.ro.lb h.be⟩
end
theorem sum_le1 {β : Type} (l : List β) (f g : β → Nat) (h : ∀ x ∈ l, f x ≤ g x) : (l.map f).sum ≤ (l.map g).sum := by
  induction l with
  | nil => exact Nat.le_refl _
  | cons a l ih =>
    have h1 := h a (by simp)
    have h2 := ih fun x hx => h x (by simp [hx])
    simp; omega
theorem log_len1 {α : Type} (ct : List (List (List α))) : (logM ct).length ≤ 60 * totM ct := by
  have h : ∀ R, (logUp ct R).length ≤ R * totM ct := fun R => by
    induction R with
    | zero => simp [logUp]
    | succ R ih =>
      rw [logUp_succ, List.length_append, Nat.succ_mul]
      have : (roundL ct R).length ≤ totM ct := by
        unfold roundL totM
        rw [List.length_flatten, List.map_map]
        refine sum_le1 ct _ _ fun b _ => ?_
        simp only [Function.comp_apply]
        cases e : b[R]? with
        | none => simp
        | some l => exact mem_sum (List.mem_map_of_mem (List.mem_of_getElem? e))
      omega
  exact Nat.le_trans (h _) (Nat.mul_le_mul_right _ (rnd_60 ct))
theorem log_fewM {s : Ms} {w : World} {B : Nat} {ct : List (List (List Ent))} (h : s.Ok w B) (hc : s.ct = ct) {xs : List Em} (he : xs.map entOf = logM ct) : ∀ x ∈ xs, x.d.length < 4611686018427387904 := fun x hx => by
  have h1 : entOf x ∈ logM s.ct := by rw [hc, ← he]; exact List.mem_map_of_mem hx
  unfold logM logUp at h1
  obtain ⟨l, hl, h1⟩ := List.mem_flatten.1 h1
  obtain ⟨r, _, rfl⟩ := List.mem_map.1 hl
  unfold roundL at h1
  obtain ⟨l, hl, h1⟩ := List.mem_flatten.1 h1
  obtain ⟨b, hb, rfl⟩ := List.mem_map.1 hl
  cases e2 : b[r]? with
  | none => rw [e2] at h1; simp at h1
  | some l =>
    rw [e2] at h1
    obtain ⟨xi, hxi, rfl⟩ := List.mem_map.1 hb
    have hlm := List.mem_of_getElem? e2
    obtain ⟨t, ht, rfl⟩ := List.mem_map.1 hlm
    obtain ⟨y, hy, hye⟩ := List.mem_map.1 h1
    obtain ⟨i, hi⟩ := List.mem_iff_getElem?.1 hxi
    obtain ⟨k, hk⟩ := List.mem_iff_getElem?.1 ht
    obtain ⟨c1, c2⟩ := h.mg.good i xi k t hi hk y hy
    rw [hye] at c1 c2
    obtain ⟨D, c, d, isM, m⟩ := x
    cases isM
    · have := (chkD_zero.1 (show chkD d = 0 from c1)).2.1
      simp only; omega
    · have : ([] : List Opr) = d := congrArg Ent.d c2
      simp only; rw [← this]; simp
theorem wait_new1 : waitM (List.replicate 1 [([] : List Ent)]) = [0] := by decide
def PlI2 (w : World) (Br g gr n : Nat) (i : Value) (wr : World) : Prop := ∃ (k : Nat) (s : Ms) (r : Rs), k ≤ n ∧ i = .int .i64 k ∧ PlE w Br g gr s r wr
set_option maxHeartbeats 16000000 in
set_option maxRecDepth 100000 in
theorem mplay_walk (A1 A2 : Option Addr) (c1 c2 : Nat) (cs : List Cl) (xs : List Em) (n0 : Int) (w : World) (h1 : LS w A1 cs) (hl1 : cs.length ≤ c1) (hc1 : c1 ≤ 9223372036854775807) (h2 : EL w A2 xs) (hl2 : xs.length ≤ 9223372036854775807) :
    Calls Tryd.prog 3 #[.int .i64 n0, .slice A1 cs.length c1, .slice A2 xs.length c2] w fun e w' => e = .returned (.bool true) ∧ Below w.heap.size w w' := by
  go_enter Tryd.func3, Tryd.ntmps3
  go_wp2_with fail
  refine (show Calls Tryd.prog 4 #[.int .i64 1] w (RetNm w 1) from mnew_ok 1 w (by decide) (by decide)).mono ?_
  rintro e w1 ⟨sx, rfl, hsx, hctx, hb1⟩
  have HW := hideP (mwaits_any _ sx.g sx.AI sx.cI sx.ins sx.added w1 hsx.mg hsx.gm)
  have hw : waitM (ctM sx.ins) = [0] := by unfold Ms.ct at hctx; rw [hctx]; exact wait_new1
  rw [hw] at HW
  clear hw hsx hctx
  go_wp2_with fail
  refine HW.out.mono ?_
  clear HW
  rintro e w2 ⟨V, cV, rfl, hor, hb2⟩
  have b2 := hb1.trans (hb2.mono hb1.size)
  have al := (Below.refl w2.heap.size w2).alloc (Nat.le_refl _) (.cells #[.int .i64 0] 3)
  have b3 := b2.trans (al.mono b2.size)
  have HE := hideP (iequal_same V (some ⟨w2.heap.size, 0, none⟩) cV 1 [0] _ (hor.below al).vs (VS.lit0 w2 3) (by decide))
  simp only [List.length_singleton] at HE ⊢
  clear hor hb2 hb1 al b2
  go_wp2_with fail
  refine HE.out.mono ?_
  clear HE
  generalize w2.alloc _ = w3 at b3 ⊢
  rintro e w4 ⟨rfl, hb4⟩
  have b4 := b3.trans (hb4.mono b3.size)
  clear hb4 b3
  by_cases hn : 1 ≤ n0 ∧ n0 ≤ 4
  · obtain ⟨n, rfl⟩ : ∃ n : Nat, n0 = n := ⟨n0.toNat, by omega⟩
    have hn1 : 1 ≤ n := by omega
    have hn4 : n ≤ 4 := by omega
    have d1 : decide ((n : Int) < 1) = false := decide_eq_false (by omega)
    have d2 : decide ((4 : Int) < (n : Int)) = false := decide_eq_false (by omega)
    have g1 : ¬ (n : Int) < 1 := by omega
    have g2 : ¬ (4 : Int) < (n : Int) := by omega
    go_wp2_with fail
    refine (mnew_ok n w4 hn1 hn4).mono ?_
    rintro e w5 ⟨s, rfl, hs, hcs, hb5⟩
    have b5 := b4.trans (hb5.mono b4.size)
    go_wp2_with fail
    refine (rnew_any n w w5 hn1 hn4 b5).mono ?_
    rintro e w6 ⟨r, rfl, hr, hcr, hb6⟩
    have hP : PlE w w5.heap.size s.g r.g s r w6 := ⟨⟨(hs.below hb6).mono b4.size, rfl, hr, rfl, fun q hq hr' => by have := (hs.lo hq).2; have := (hr.lo hr').1; omega, b5.trans (hb6.mono b5.size)⟩, hcs.trans hcr.symm⟩
    generalize s.g = g at hP ⊢
    generalize r.g = gr at hP ⊢
    generalize w5.heap.size = Br at hP
    have HLS := hideP (fun (W : World) (hb : Below w.heap.size w W) => h1.below hb)
    have HXS := hideP (fun (y : Int) (W : World) (hb : Below w.heap.size w W) => pickE_any A2 c2 xs y W (h2.below hb) hl2)
    have HES := hideP (fun (x : Em) (hx : x = em0 ∨ x ∈ xs) => show ES w x from hx.elim (fun e => by subst e; exact (em0_eo w w.heap.size).es (by simp [em0])) (h2.es x))
    clear hs hcs hb5 hr hcr hb6 b4 b5 hn1 hn4 hn d1 d2 g1 g2 h1 h2
    go_wp2_with fail
    go_loopw [64] (PlI2 w Br g gr cs.length) (fun i _ => cs.length - (intOf i).toNat)
    case atStart => exact ⟨0, s, r, Nat.zero_le _, rfl, hP⟩
    case round =>
      clear hP
      obtain ⟨k, s, r, hk, rfl, hH⟩ := hrel
      by_cases hlt : k < cs.length
      · have hL := HLS.out wr hH.be
        obtain ⟨b, o, hA, hbl, q1⟩ := hL.vs k (clV cs[k]) (by simp [hlt])
        obtain ⟨hI, hzc, hcc⟩ := hL.is_ _ (List.getElem_mem hlt)
        subst hA
        generalize cs[k] = x at q1 hI hzc hcc
        obtain ⟨Ac, cc, zs⟩ := x
        simp only [clV] at q1
        simp only at hI hzc hcc
        have g1 : (0 : Int) ≤ (k : Int) := by omega
        have g2 : (k : Int) < (cs.length : Int) := by omega
        have HA := hideP (fun (j : Nat) => rat_any Ac cc zs j wr hI (by omega))
        have HA0 := hideP (show Calls Tryd.prog 8 #[.slice Ac zs.length cc, .int .i64 0] wr fun e w' => e = .returned (.int .i64 (zs.getD 0 0)) ∧ wr = w' from HA.out 0)
        have HA1 := hideP (show Calls Tryd.prog 8 #[.slice Ac zs.length cc, .int .i64 1] wr fun e w' => e = .returned (.int .i64 (zs.getD 1 0)) ∧ wr = w' from HA.out 1)
        have HA2 := hideP (show Calls Tryd.prog 8 #[.slice Ac zs.length cc, .int .i64 2] wr fun e w' => e = .returned (.int .i64 (zs.getD 2 0)) ∧ wr = w' from HA.out 2)
        generalize zs.getD 0 0 = y0 at HA0
        generalize zs.getD 1 0 = y1 at HA1
        generalize zs.getD 2 0 = y2 at HA2
        clear HA hI hL
        by_cases hy1 : y0 = 1
        · subst hy1
          go_wp2_with fail
          refine HA1.out.mono ?_
          rintro e w' ⟨rfl, rfl⟩
          go_wp2_with fail
          refine HA0.out.mono ?_
          rintro e w' ⟨rfl, rfl⟩
          go_wp2_with fail
          refine HA2.out.mono ?_
          rintro e w' ⟨rfl, rfl⟩
          have HP := hideP (HXS.out y2 wr hH.be)
          clear HA0 HA1 HA2 q1
          go_wp2_with fail
          refine HP.out.mono ?_
          clear HP
          rintro e wp ⟨x, rfl, hxm, hbp⟩
          have hHp := hH.below hbp
          have al := (Below.refl wp.heap.size wp).alloc (Nat.le_refl _) (.cells (emC x) 41)
          have hHa := hHp.below al
          have xb := Box.new wp 41 (emC x)
          have hes := HES.out x hxm
          have hnF : ∀ q, s.F q → q ≠ wp.heap.size := fun q hq e => by have := (hHp.so.lo hq).2; omega
          have hnR : ∀ q, r.F q → q ≠ wp.heap.size := fun q hq e => by have := (hHp.ro.lo hq).2; omega
          have HADD := hideP (fun (W : World) (hW : PlH2 w Br g gr s r W) => madd_any s w.heap.size y1 x W hW.so (hes.below hW.be))
          have HRAD := hideP (fun (W : World) (s' : Ms) (hW : PlH2 w Br g gr s' r W) => radd_any r w Br y1 x W hW.ro hes)
          have HBX := hideP (fun (W : World) (hb : Box W wp.heap.size 41 (emC x)) => show ((W.cell? ⟨wp.heap.size, 0, none⟩ = some (.slice x.D x.d.length x.c) ∧ W.cell? ⟨wp.heap.size, 1, none⟩ = some (.bool x.isM)) ∧ W.cell? ⟨wp.heap.size, 2, none⟩ = some (.slice x.m.A x.m.cs.length x.m.ca) ∧ W.cell? ⟨wp.heap.size, 3, none⟩ = some (.slice x.m.O x.m.os.length x.m.co)) from
            ⟨⟨hb.cell 0 rfl, hb.cell 1 rfl⟩, hb.cell 2 rfl, hb.cell 3 rfl⟩)
          have HBS := hideP (fun (W W' : World) (s' : Ms) (ct' : List (List (List Ent))) (hb : Box W wp.heap.size 41 (emC x)) (hT : s.To W w.heap.size s' W' ct') => hT.fr.box hb fun e => hnF _ e rfl)
          have HBR := hideP (fun (W W' : World) (r' : Rs) (ct' : List (List (List Ent))) (hb : Box W wp.heap.size 41 (emC x)) (hT : r.To w W Br r' W' ct') => hT.fr.box hb fun e => hnR _ e rfl)
          have HEQ := hideP hH.eq
          have hct := hH.eq
          rw [hct, hH.sg] at HADD
          rw [hH.rg] at HRAD
          clear hH hHp al hbp hnF hnR hes hct
          unfold emV at HADD HRAD ⊢
          unfold emC at HADD HRAD HBX HBS HBR xb hHa ⊢
          go_wp2_with fail
          generalize w_x : wp.alloc _ = wa at hHa xb ⊢
          generalize hgx : wp.heap.size = gx at HBX HBS HBR xb ⊢
          clear w_x
          generalize addQ r.ct y1 (entOf x) = qa at HADD HRAD
          have d4 : (qa != qa) = false := bne_self_eq_false _
          have sS := HBX.out _ xb
          replace hHa : PlH2 w Br g gr s r wa.drew := hHa.toPlH2.below (Below.refl _ _).drew
          replace xb := xb.drew
          obtain ⟨⟨z0, z1⟩, z2, z3⟩ := HBX.out _ xb
          clear sS
          go_region_law (first
            | (go_simp
               go_at_call 10
               refine (HADD.out _ hHa).mono ?_
               rintro e wq ⟨s2, rfl, hT1⟩
               have hH1 := hHa.stepS hT1
               have xb1 := HBS.out _ _ _ _ xb hT1
               obtain ⟨⟨t0, t1⟩, t2, t3⟩ := HBX.out _ xb1
               have hE1 := hideP hT1.ct
               clear hT1)
            | (go_simp
               go_at_call 11
               refine (HRAD.out _ s2 hH1).mono ?_
               rintro e wt ⟨r2, rfl, hT2⟩
               have hH2' := hH1.stepR hT2
               have hE2 := hideP hT2.ct
               clear hT2))
          all_goals
            have hH2 : PlE w Br g gr s2 r2 wt := ⟨hH2', hE1.out.trans hE2.out.symm⟩
            clear hH2' HADD HRAD HBX HBS HBR
            have HRa := hideP (show Calls Tryd.prog 14 #[.pointer (some ⟨g, 0, none⟩)] wt fun e w' => e = .returned (.int .i64 (rndM r2.ct : Nat)) ∧ wt = w' from by
              rw [← hH2.sg, ← hH2.eq]; exact mrounds_any _ s2.g s2.AI s2.cI s2.ins s2.added wt hH2.so.mg hH2.so.gm)
            have HRb := hideP (show Calls Tryd.prog 15 #[.pointer (some ⟨gr, 0, none⟩)] wt fun e w' => e = .returned (.int .i64 (rndM r2.ct : Nat)) ∧ wt = w' from by
              rw [← hH2.rg]; exact rrounds_any r2 w _ wt hH2.ro)
            have HWa := hideP (show Calls Tryd.prog 6 #[.pointer (some ⟨g, 0, none⟩)] wt (RetWt wt (waitM r2.ct)) from by
              rw [← hH2.sg, ← hH2.eq]; exact mwaits_any _ s2.g s2.AI s2.cI s2.ins s2.added wt hH2.so.mg hH2.so.gm)
            have HWb := hideP (fun (W : World) (hb : Below wt.heap.size wt W) => show Calls Tryd.prog 16 #[.pointer (some ⟨gr, 0, none⟩)] W (RetWt W (waitM r2.ct)) from by
              rw [← hH2.rg]; exact rwaits_any r2 w _ W (hH2.ro.below hb))
            have HLa := hideP (fun (W : World) (hb : Below wt.heap.size wt W) => show Calls Tryd.prog 18 #[.pointer (some ⟨g, 0, none⟩)] W (RetLm W (logM r2.ct)) from by
              rw [← hH2.sg, ← hH2.eq]; exact mlog_any _ s2.g s2.AI s2.cI s2.ins s2.added W (hH2.so.below hb).mg hH2.so.gm)
            have HLb := hideP (fun (W : World) (hb : Below wt.heap.size wt W) => show Calls Tryd.prog 19 #[.pointer (some ⟨gr, 0, none⟩)] W (RetRl w W (logM r2.ct)) from by
              rw [← hH2.rg]; exact rlog_any r2 w _ W (hH2.ro.below hb))
            have HFE := hideP (fun (ys : List Em) (h : ys.map entOf = logM r2.ct) => log_fewM hH2.so hH2.eq h)
            have HLN := hideP (show (logM r2.ct).length ≤ 3600 from by
              have e2 := log_len1 r2.ct
              have e3 := hH2.ro.gm.most
              unfold Rs.ct at e2 ⊢
              omega)
            have HWL := hideP (show (waitM r2.ct).length ≤ 4 from by
              have h1 : (waitM r2.ct).length ≤ r2.ct.length := by
                have := List.length_filter_le (fun i => decide ((cloL r2.ct)[i]? = some (rndM r2.ct))) (List.range r2.ct.length)
                rw [List.length_range] at this
                exact this
              have h2 := hH2.ro.gm.few
              have h3 : r2.ct.length = r2.ins.length := by simp [Rs.ct, ctM]
              omega)
            have d5 : (((rndM r2.ct : Nat) : Int) != ((rndM r2.ct : Nat) : Int)) = false := bne_self_eq_false _
            go_wp2_with fail
            refine HRa.out.mono ?_
            rintro e w' ⟨rfl, rfl⟩
            go_wp2_with fail
            refine HRb.out.mono ?_
            rintro e w' ⟨rfl, rfl⟩
            clear HRa HRb
            go_wp2_with fail
            refine HWa.out.mono ?_
            clear HWa
            rintro e u1 ⟨V1, m1, rfl, ho1, hu1⟩
            go_wp2_with fail
            refine (HWb.out u1 hu1).mono ?_
            clear HWb
            rintro e u2 ⟨V2, m2, rfl, ho2, hu2⟩
            have hb2 := hu1.trans (hu2.mono hu1.size)
            have HIE := hideP (iequal_same V1 V2 m1 m2 (waitM r2.ct) u2 (ho1.below hu2).vs ho2.vs (by have := HWL.out; omega))
            clear ho1 ho2 hu1 hu2
            go_wp2_with fail
            refine HIE.out.mono ?_
            clear HIE
            rintro e u3 ⟨rfl, hu3⟩
            have hb3 := hb2.trans (hu3.mono hb2.size)
            clear hb2 hu3
            go_wp2_with fail
            refine (HLa.out u3 hb3).mono ?_
            clear HLa
            rintro e u4 ⟨L1, k1, ya, rfl, hya, hea, hu4⟩
            have hb4 := hb3.trans (hu4.mono hb3.size)
            clear hu4 hb3
            go_wp2_with fail
            refine (HLb.out u4 hb4).mono ?_
            clear HLb
            rintro e u5 ⟨L2, k2, yb, rfl, hyb, heb, hu5⟩
            have hb5 := hb4.trans (hu5.mono hb4.size)
            have hyl : ya.length ≤ 3600 := by have := congrArg List.length hya; rw [List.length_map] at this; have := HLN.out; omega
            have HEQ := hideP (eqfE_any L1 L2 k1 k2 ya yb u5 (hea.below hu5).el (heb.el (hH2.be.trans (hb5.mono hH2.be.size))) (HFE.out ya hya) (by omega))
            rw [sameL_true (hya.trans hyb.symm)] at HEQ
            clear hu5 hb4 hea heb hya hyb hyl
            go_wp2_with fail
            refine HEQ.out.mono ?_
            clear HEQ
            rintro e u6 ⟨rfl, hu6⟩
            have hH3 := hH2.below (hb5.trans (hu6.mono hb5.size))
            clear hu6 hb5 hH2 HFE HLN HWL
            go_wp2_with fail
            go_roundw
            case rel => exact ⟨k + 1, s2, r2, by omega, by go_num, hH3⟩
            case measure => simp [intOf]; omega
        · by_cases hy2 : y0 = 2
          · subst hy2
            have d6 : ((2 : Int) == 1) = false := by decide
            have HCL := hideP (mclose_any s w.heap.size y1 wr hH.so)
            rw [hH.eq, hH.sg] at HCL
            have HRC := hideP (fun (W : World) (s' : Ms) (hW : PlH2 w Br g gr s' r W) => rclose_any r w Br y1 W hW.ro)
            have HST := hideP (fun (s' : Ms) (W : World) (ct' : List (List (List Ent))) (hT : s.To wr w.heap.size s' W ct') => hH.toPlH2.stepS hT)
            rw [hH.rg] at HRC
            generalize hca : closeN r.ct y1 = ca at HCL HRC
            generalize hcb : closeQ r.ct y1 = cb at HCL HRC
            have d3 : (ca != ca) = false := bne_self_eq_false _
            have d4 : (cb != cb) = false := bne_self_eq_false _
            clear hca hcb hH
            go_wp2_with fail
            refine HA1.out.mono ?_
            rintro e w' ⟨rfl, rfl⟩
            go_wp2_with fail
            refine HA0.out.mono ?_
            rintro e w' ⟨rfl, rfl⟩
            go_wp2_with fail
            refine HCL.out.mono ?_
            rintro e wq ⟨s2, rfl, hT1⟩
            have hH1 := HST.out s2 wq _ hT1
            have hE1 := hideP hT1.ct
            clear HCL HST hT1 HA0 HA1 HA2 q1
            go_wp2_with fail
            refine (HRC.out wq s2 hH1).mono ?_
            rintro e wt ⟨r2, rfl, hT2⟩
            have hH2 : PlE w Br g gr s2 r2 wt := ⟨hH1.stepR hT2, by rw [hE1.out, hT2.ct]⟩
            clear hH1 hT2 HRC hE1
            have HRa := hideP (show Calls Tryd.prog 14 #[.pointer (some ⟨g, 0, none⟩)] wt fun e w' => e = .returned (.int .i64 (rndM r2.ct : Nat)) ∧ wt = w' from by
              rw [← hH2.sg, ← hH2.eq]; exact mrounds_any _ s2.g s2.AI s2.cI s2.ins s2.added wt hH2.so.mg hH2.so.gm)
            have HRb := hideP (show Calls Tryd.prog 15 #[.pointer (some ⟨gr, 0, none⟩)] wt fun e w' => e = .returned (.int .i64 (rndM r2.ct : Nat)) ∧ wt = w' from by
              rw [← hH2.rg]; exact rrounds_any r2 w _ wt hH2.ro)
            have HWa := hideP (show Calls Tryd.prog 6 #[.pointer (some ⟨g, 0, none⟩)] wt (RetWt wt (waitM r2.ct)) from by
              rw [← hH2.sg, ← hH2.eq]; exact mwaits_any _ s2.g s2.AI s2.cI s2.ins s2.added wt hH2.so.mg hH2.so.gm)
            have HWb := hideP (fun (W : World) (hb : Below wt.heap.size wt W) => show Calls Tryd.prog 16 #[.pointer (some ⟨gr, 0, none⟩)] W (RetWt W (waitM r2.ct)) from by
              rw [← hH2.rg]; exact rwaits_any r2 w _ W (hH2.ro.below hb))
            have HLa := hideP (fun (W : World) (hb : Below wt.heap.size wt W) => show Calls Tryd.prog 18 #[.pointer (some ⟨g, 0, none⟩)] W (RetLm W (logM r2.ct)) from by
              rw [← hH2.sg, ← hH2.eq]; exact mlog_any _ s2.g s2.AI s2.cI s2.ins s2.added W (hH2.so.below hb).mg hH2.so.gm)
            have HLb := hideP (fun (W : World) (hb : Below wt.heap.size wt W) => show Calls Tryd.prog 19 #[.pointer (some ⟨gr, 0, none⟩)] W (RetRl w W (logM r2.ct)) from by
              rw [← hH2.rg]; exact rlog_any r2 w _ W (hH2.ro.below hb))
            have HFE := hideP (fun (ys : List Em) (h : ys.map entOf = logM r2.ct) => log_fewM hH2.so hH2.eq h)
            have HLN := hideP (show (logM r2.ct).length ≤ 3600 from by
              have e2 := log_len1 r2.ct
              have e3 := hH2.ro.gm.most
              unfold Rs.ct at e2 ⊢
              omega)
            have HWL := hideP (show (waitM r2.ct).length ≤ 4 from by
              have h1 : (waitM r2.ct).length ≤ r2.ct.length := by
                have := List.length_filter_le (fun i => decide ((cloL r2.ct)[i]? = some (rndM r2.ct))) (List.range r2.ct.length)
                rw [List.length_range] at this
                exact this
              have h2 := hH2.ro.gm.few
              have h3 : r2.ct.length = r2.ins.length := by simp [Rs.ct, ctM]
              omega)
            have d5 : (((rndM r2.ct : Nat) : Int) != ((rndM r2.ct : Nat) : Int)) = false := bne_self_eq_false _
            go_wp2_with fail
            refine HRa.out.mono ?_
            rintro e w' ⟨rfl, rfl⟩
            go_wp2_with fail
            refine HRb.out.mono ?_
            rintro e w' ⟨rfl, rfl⟩
            clear HRa HRb
            go_wp2_with fail
            refine HWa.out.mono ?_
            clear HWa
            rintro e u1 ⟨V1, m1, rfl, ho1, hu1⟩
            go_wp2_with fail
            refine (HWb.out u1 hu1).mono ?_
            clear HWb
            rintro e u2 ⟨V2, m2, rfl, ho2, hu2⟩
            have hb2 := hu1.trans (hu2.mono hu1.size)
            have HIE := hideP (iequal_same V1 V2 m1 m2 (waitM r2.ct) u2 (ho1.below hu2).vs ho2.vs (by have := HWL.out; omega))
            clear ho1 ho2 hu1 hu2
            go_wp2_with fail
            refine HIE.out.mono ?_
            clear HIE
            rintro e u3 ⟨rfl, hu3⟩
            have hb3 := hb2.trans (hu3.mono hb2.size)
            clear hb2 hu3
            go_wp2_with fail
            refine (HLa.out u3 hb3).mono ?_
            clear HLa
            rintro e u4 ⟨L1, k1, ya, rfl, hya, hea, hu4⟩
            have hb4 := hb3.trans (hu4.mono hb3.size)
            clear hu4 hb3
            go_wp2_with fail
            refine (HLb.out u4 hb4).mono ?_
            clear HLb
            rintro e u5 ⟨L2, k2, yb, rfl, hyb, heb, hu5⟩
            have hb5 := hb4.trans (hu5.mono hb4.size)
            have hyl : ya.length ≤ 3600 := by have := congrArg List.length hya; rw [List.length_map] at this; have := HLN.out; omega
            have HEQ := hideP (eqfE_any L1 L2 k1 k2 ya yb u5 (hea.below hu5).el (heb.el (hH2.be.trans (hb5.mono hH2.be.size))) (HFE.out ya hya) (by omega))
            rw [sameL_true (hya.trans hyb.symm)] at HEQ
            clear hu5 hb4 hea heb hya hyb hyl
            go_wp2_with fail
            refine HEQ.out.mono ?_
            clear HEQ
            rintro e u6 ⟨rfl, hu6⟩
            have hH3 := hH2.below (hb5.trans (hu6.mono hb5.size))
            clear hu6 hb5 hH2 HFE HLN HWL
            go_wp2_with fail
            go_roundw
            case rel => exact ⟨k + 1, s2, r2, by omega, by go_num, hH3⟩
            case measure => simp [intOf]; omega
          · have d6 : (y0 == 1) = false := beq_eq_false_iff_ne.2 hy1
            have d7 : (y0 == 2) = false := beq_eq_false_iff_ne.2 hy2
            obtain ⟨s2, hs2⟩ : ∃ s2, s2 = s := ⟨_, rfl⟩
            obtain ⟨r2, hr2⟩ : ∃ r2, r2 = r := ⟨_, rfl⟩
            obtain ⟨wt, hwt⟩ : ∃ wt, wt = wr := ⟨_, rfl⟩
            have hH2 : PlE w Br g gr s2 r2 wt := by rw [hs2, hr2, hwt]; exact hH
            clear hH hs2 hr2
            subst hwt
            go_wp2_with fail
            refine HA1.out.mono ?_
            rintro e w' ⟨rfl, rfl⟩
            go_wp2_with fail
            refine HA0.out.mono ?_
            rintro e w' ⟨rfl, rfl⟩
            clear HA0 HA1 HA2 q1
            have HRa := hideP (show Calls Tryd.prog 14 #[.pointer (some ⟨g, 0, none⟩)] wt fun e w' => e = .returned (.int .i64 (rndM r2.ct : Nat)) ∧ wt = w' from by
              rw [← hH2.sg, ← hH2.eq]; exact mrounds_any _ s2.g s2.AI s2.cI s2.ins s2.added wt hH2.so.mg hH2.so.gm)
            have HRb := hideP (show Calls Tryd.prog 15 #[.pointer (some ⟨gr, 0, none⟩)] wt fun e w' => e = .returned (.int .i64 (rndM r2.ct : Nat)) ∧ wt = w' from by
              rw [← hH2.rg]; exact rrounds_any r2 w _ wt hH2.ro)
            have HWa := hideP (show Calls Tryd.prog 6 #[.pointer (some ⟨g, 0, none⟩)] wt (RetWt wt (waitM r2.ct)) from by
              rw [← hH2.sg, ← hH2.eq]; exact mwaits_any _ s2.g s2.AI s2.cI s2.ins s2.added wt hH2.so.mg hH2.so.gm)
            have HWb := hideP (fun (W : World) (hb : Below wt.heap.size wt W) => show Calls Tryd.prog 16 #[.pointer (some ⟨gr, 0, none⟩)] W (RetWt W (waitM r2.ct)) from by
              rw [← hH2.rg]; exact rwaits_any r2 w _ W (hH2.ro.below hb))
            have HLa := hideP (fun (W : World) (hb : Below wt.heap.size wt W) => show Calls Tryd.prog 18 #[.pointer (some ⟨g, 0, none⟩)] W (RetLm W (logM r2.ct)) from by
              rw [← hH2.sg, ← hH2.eq]; exact mlog_any _ s2.g s2.AI s2.cI s2.ins s2.added W (hH2.so.below hb).mg hH2.so.gm)
            have HLb := hideP (fun (W : World) (hb : Below wt.heap.size wt W) => show Calls Tryd.prog 19 #[.pointer (some ⟨gr, 0, none⟩)] W (RetRl w W (logM r2.ct)) from by
              rw [← hH2.rg]; exact rlog_any r2 w _ W (hH2.ro.below hb))
            have HFE := hideP (fun (ys : List Em) (h : ys.map entOf = logM r2.ct) => log_fewM hH2.so hH2.eq h)
            have HLN := hideP (show (logM r2.ct).length ≤ 3600 from by
              have e2 := log_len1 r2.ct
              have e3 := hH2.ro.gm.most
              unfold Rs.ct at e2 ⊢
              omega)
            have HWL := hideP (show (waitM r2.ct).length ≤ 4 from by
              have h1 : (waitM r2.ct).length ≤ r2.ct.length := by
                have := List.length_filter_le (fun i => decide ((cloL r2.ct)[i]? = some (rndM r2.ct))) (List.range r2.ct.length)
                rw [List.length_range] at this
                exact this
              have h2 := hH2.ro.gm.few
              have h3 : r2.ct.length = r2.ins.length := by simp [Rs.ct, ctM]
              omega)
            have d5 : (((rndM r2.ct : Nat) : Int) != ((rndM r2.ct : Nat) : Int)) = false := bne_self_eq_false _
            go_wp2_with fail
            refine HRa.out.mono ?_
            rintro e w' ⟨rfl, rfl⟩
            go_wp2_with fail
            refine HRb.out.mono ?_
            rintro e w' ⟨rfl, rfl⟩
            clear HRa HRb
            go_wp2_with fail
            refine HWa.out.mono ?_
            clear HWa
            rintro e u1 ⟨V1, m1, rfl, ho1, hu1⟩
            go_wp2_with fail
            refine (HWb.out u1 hu1).mono ?_
            clear HWb
            rintro e u2 ⟨V2, m2, rfl, ho2, hu2⟩
            have hb2 := hu1.trans (hu2.mono hu1.size)
            have HIE := hideP (iequal_same V1 V2 m1 m2 (waitM r2.ct) u2 (ho1.below hu2).vs ho2.vs (by have := HWL.out; omega))
            clear ho1 ho2 hu1 hu2
            go_wp2_with fail
            refine HIE.out.mono ?_
            clear HIE
            rintro e u3 ⟨rfl, hu3⟩
            have hb3 := hb2.trans (hu3.mono hb2.size)
            clear hb2 hu3
            go_wp2_with fail
            refine (HLa.out u3 hb3).mono ?_
            clear HLa
            rintro e u4 ⟨L1, k1, ya, rfl, hya, hea, hu4⟩
            have hb4 := hb3.trans (hu4.mono hb3.size)
            clear hu4 hb3
            go_wp2_with fail
            refine (HLb.out u4 hb4).mono ?_
            clear HLb
            rintro e u5 ⟨L2, k2, yb, rfl, hyb, heb, hu5⟩
            have hb5 := hb4.trans (hu5.mono hb4.size)
            have hyl : ya.length ≤ 3600 := by have := congrArg List.length hya; rw [List.length_map] at this; have := HLN.out; omega
            have HEQ := hideP (eqfE_any L1 L2 k1 k2 ya yb u5 (hea.below hu5).el (heb.el (hH2.be.trans (hb5.mono hH2.be.size))) (HFE.out ya hya) (by omega))
            rw [sameL_true (hya.trans hyb.symm)] at HEQ
            clear hu5 hb4 hea heb hya hyb hyl
            go_wp2_with fail
            refine HEQ.out.mono ?_
            clear HEQ
            rintro e u6 ⟨rfl, hu6⟩
            have hH3 := hH2.below (hb5.trans (hu6.mono hb5.size))
            clear hu6 hb5 hH2 HFE HLN HWL
            go_wp2_with fail
            go_roundw
            case rel => exact ⟨k + 1, s2, r2, by omega, by go_num, hH3⟩
            case measure => simp [intOf]; omega
      · have hb := hH.be
        clear hH
        go_wp2_with fail
        go_ret
        exact ⟨rfl, hb⟩
  · have HB := hideP (mnew_bad n0 w4 hn)
    by_cases h11 : n0 < 1
    · have d1 : decide (n0 < 1) = true := decide_eq_true h11
      clear hn
      go_wp2_with fail
      refine HB.out.mono ?_
      rintro e w' ⟨rfl, rfl⟩
      go_wp2_with fail
      go_ret
      exact ⟨rfl, b4⟩
    · have h12 : 4 < n0 := by omega
      have d1 : decide (n0 < 1) = false := decide_eq_false h11
      have d2 : decide (4 < n0) = true := decide_eq_true h12
      clear hn
      go_wp2_with fail
      refine HB.out.mono ?_
      rintro e w' ⟨rfl, rfl⟩
      go_wp2_with fail
      go_ret
      exact ⟨rfl, b4⟩
end Go.Proofs.YtcjfkbponikadaaDoor
