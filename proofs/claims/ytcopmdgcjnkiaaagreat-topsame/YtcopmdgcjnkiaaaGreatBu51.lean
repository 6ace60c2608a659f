/-
  rotop.TopSame: the walk.
-/
import Derived.Test.YtcopmdgcjnkiaaaGreatBu49
import Derived.Test.YtcopmdgcjnkiaaaGreatBu50
import Derived.Test.YtcopmdgcjnkiaaaGreatBu36
import Derived.Test.YtcopmdgcjnkiaaaGreatBu29
import Derived.Test.YtcopmdgcjnkiaaaGreatBu22
set_option linter.unusedVariables false
set_option linter.unusedSimpArgs false
namespace Go.Proofs.YtcopmdgcjnkiaaaGreat
open Go.RowKit

/-- how much a replica has done, by the cells -/
def repLen (g i : Nat) (wr : World) : Nat := match wr.cell? ⟨g, 2, none⟩ with
  | some (.slice (some a) _ _) => (match wr.cell? ⟨a.block, i * 2 + 1, none⟩ with | some (.slice _ n _) => n | _ => 0)
  | _ => 0
theorem Cs.Ok.repLen_ {c : Cs} {w : World} {B i : Nat} {r : Rp} (h : c.Ok w B) (hi : c.rs[i]? = some r) : repLen c.s.g i w = r.bs.length := by
  obtain ⟨gr, hAR, _, _, q1⟩ := h.at_ hi
  have c2 := h.c2
  rw [hAR] at c2
  unfold repLen
  rw [c2]
  simp only [q1]
/-- what was made one by one, while Copies go on -/
structure RfH (w : World) (g cn : Nat) (r0 : Sr) (es : List Ent) (gm : Nat) (A : Option Addr) (c1 : Nat) (l : List Pr) (m : Mp) (Ao : Option Addr) (co : Nat) (bs : List Bool) (c : Cs) (wr : World) : Prop where
  ok : c.Ok wr w.heap.size
  gg : c.s.g = g
  ct : logM c.s.ct = es
  rl : c.st.length = cn
  pl : Played r0 es c.st
  sv : SV wr A c1 l
  okl : Ok l
  x0 : Box wr gm 31 #[.slice m.A m.cs.length m.ca, .slice m.O m.os.length m.co]
  ob : OR wr 0 4 Ao co (bs.map Value.bool)
  mo : MO wr 0 m
  eq : (⟨valOf l, m.cs, m.os, bs⟩ : Sr) = playR r0 es
  apS : l ≠ [] → ∀ a, A = some a → ¬ c.F a.block
  apO : ∀ k, blk Ao = some k → ¬ c.F k
  be : Below w.heap.size w wr
section
variable {w wr w' : World} {g cn gm c1 co : Nat} {r0 : Sr} {es : List Ent} {A Ao : Option Addr} {l : List Pr} {m : Mp} {bs : List Bool} {c c' : Cs}
theorem RfH.below (h : RfH w g cn r0 es gm A c1 l m Ao co bs c wr) (hb : Below wr.heap.size wr w') : RfH w g cn r0 es gm A c1 l m Ao co bs c w' :=
  ⟨h.ok.below hb, h.gg, h.ct, h.rl, h.pl, h.sv.below hb, h.okl, h.x0.below hb, h.ob.below hb, h.mo.below hb, h.eq, h.apS, h.apO, h.be.trans (hb.mono h.be.size)⟩
theorem RfH.step (h : RfH w g cn r0 es gm A c1 l m Ao co bs c wr) (i : Int) (T : c.To wr w.heap.size c' w' c.s.ct (cpS es c.st i)) : RfH w g cn r0 es gm A c1 l m Ao co bs c' w' := by
  refine ⟨T.ok, T.g.trans h.gg, by rw [T.ct]; exact h.ct, by rw [T.st, cpS_len]; exact h.rl, by rw [T.st]; exact h.pl.cpS i, h.sv.fr T.fr h.apS, h.okl, T.fr.box_ty h.x0 (h.ok.off (by decide) (by decide) (by decide) (by decide) (by decide) (by decide) (by decide)), T.fr.own h.ob fun k hk => h.apO k (Go.Proofs.YtcopmdgcjnkiaaaGreat.ob hk), ⟨T.fr.own_ty h.mo.cuts h.ok.offS, T.fr.own_ty h.mo.own h.ok.offI⟩, h.eq, fun hl a ha hF => ?_, fun k hk hF => ?_, T.below_ h.ok (Nat.le_refl _) h.be⟩
  · rcases T.F _ hF with hF | hF
    · exact h.apS hl a ha hF
    · have := h.sv.blk_lt hl ha; omega
  · rcases T.F _ hF with hF | hF
    · exact h.apO k hk hF
    · have := (World.ownsRow.lt h.ob k (bo _ _ hk)).2; omega
theorem RepH.done {wi : World} (h : RepH wi r0 es gm es.length A c1 l m Ao co bs wr) (hA : ∀ a, A = some a → wi.heap.size ≤ a.block) (hok : c.Ok wi w.heap.size) (hw : Below w.heap.size w wi) (hg : c.s.g = g) (hct : logM c.s.ct = es) (hrl : c.st.length = cn) (hpl : Played r0 es c.st) : RfH w g cn r0 es gm A c1 l m Ao co bs c wr :=
  ⟨hok.below h.be, hg, hct, hrl, hpl, h.sv, h.okl, h.x0, h.ob.mono (Nat.zero_le _), h.mo, by rw [h.eq, List.take_length], fun _ a ha hF => by have := hA a ha; have := (hok.lo hF).2; omega, fun k hk hF => by have := (World.ownsRow.lt h.ob k (bo _ _ hk)).1; have := (hok.lo hF).2; omega, hw.trans (h.be.mono hw.size)⟩
theorem RfH.at_ (h : RfH w g cn r0 es gm A c1 l m Ao co bs c wr) {i : Nat} (hi : i < cn) : ∃ r, c.rs[i]? = some r ∧ c.st[i]? = some r.st ∧ r.st = playR r0 (es.take r.bs.length) ∧ r.bs.length ≤ es.length := by
  obtain ⟨a, ha⟩ : ∃ a, c.st[i]? = some a := ⟨_, List.getElem?_eq_getElem (by rw [h.rl]; exact hi)⟩
  obtain ⟨r, hr, e⟩ := Cs.at_st ha
  obtain ⟨p1, p2⟩ := h.pl a (List.mem_of_getElem? ha)
  rw [← e] at p1 p2 ha
  exact ⟨r, hr, ha, p1, p2⟩
end
def TsI1 (wi : World) (r0 : Sr) (es : List Ent) (gm q : Nat) (s o i : Value) (wr : World) : Prop :=
  ∃ (k : Nat) (A : Option Addr) (c : Nat) (l : List Pr) (m : Mp) (Ao : Option Addr) (co : Nat) (bs : List Bool), k ≤ q ∧ i = .int .i64 k ∧ s = .slice A l.length c ∧ o = .slice Ao bs.length co ∧ RepH wi r0 es gm k A c l m Ao co bs wr ∧ ∀ a, A = some a → wi.heap.size ≤ a.block
def TsI2 (w : World) (g cn : Nat) (r0 : Sr) (es : List Ent) (gm : Nat) (A : Option Addr) (c1 : Nat) (l : List Pr) (m : Mp) (Ao : Option Addr) (co : Nat) (bs : List Bool) (i : Value) (wr : World) : Prop :=
  ∃ (k : Nat) (c : Cs), k ≤ cn ∧ i = .int .i64 k ∧ RfH w g cn r0 es gm A c1 l m Ao co bs c wr
def TsI3 (w : World) (g cn : Nat) (r0 : Sr) (es : List Ent) (gm : Nat) (A : Option Addr) (c1 : Nat) (l : List Pr) (m : Mp) (Ao : Option Addr) (co : Nat) (bs : List Bool) (v : Value) (wr : World) : Prop :=
  ∃ (c : Cs), RfH w g cn r0 es gm A c1 l m Ao co bs c wr
def TsI4 (w : World) (g cn : Nat) (r0 : Sr) (es : List Ent) (gm : Nat) (A : Option Addr) (c1 : Nat) (l : List Pr) (m : Mp) (Ao : Option Addr) (co : Nat) (bs : List Bool) (c : Cs) (j i : Value) (wr : World) : Prop :=
  ∃ (k : Nat) (Aj : Option Addr) (cj : Nat), k ≤ 4 ∧ i = .int .i64 k ∧ j = .slice Aj (upL m.cs m.os (k : Int) l).length cj ∧ SV wr Aj cj (upL m.cs m.os (k : Int) l) ∧ RfH w g cn r0 es gm A c1 l m Ao co bs c wr
set_option maxHeartbeats 8000000 in
set_option maxRecDepth 100000 in
theorem tsame_walk (P T L D : Option Addr) (cp ct cl cd : Nat) (zs ts : List Int) (ps ds : List Cl) (i0 n0 : Int) (w : World) (hP : IS w P zs) (hl : zs.length ≤ cp) (hc : cp ≤ 9223372036854775807) (hn : P = none → cp = 0)
    (hT : IS w T ts) (hlt : ts.length ≤ ct) (hct : ct ≤ 9223372036854775807) (hnt : T = none → ct = 0)
    (hL : LS w L ps) (hLl : ps.length ≤ cl) (hLc : cl ≤ 9223372036854775807) (hLn : L = none → cl = 0)
    (hD : LS w D ds) (hDl : ds.length ≤ cd) (hDc : cd ≤ 9223372036854775807) (hDn : D = none → cd = 0) :
    Calls Tryz.prog 5 #[.int .i64 i0, .int .i64 n0, .slice P zs.length cp, .slice T ts.length ct, .slice L ps.length cl, .slice D ds.length cd] w fun e w' => e = .returned (.bool true) ∧ Below w.heap.size w w' := by
  go_enter Tryz.func5, Tryz.ntmps5
  go_wp2_with fail
  refine (tbegun_any _).mono ?_
  rintro e w1 ⟨rfl, hb1⟩
  have HF := hideP (tfed_any P T L D cp ct cl cd zs ts ps ds i0 n0 w1 (hP.below hb1) hl hc hn (hT.below hb1) hlt hct hnt (hL.below hb1) hLl hLc hLn (hD.below hb1) hDl hDc hDn)
  have HIS := hideP (fun (W : World) (hb : Below w.heap.size w W) => show IS W P zs ∧ IS W T ts from ⟨hP.below hb, hT.below hb⟩)
  have HLT := hideP (And.intro hlt (And.intro hct hnt))
  have hcpz : zs.length ≤ 9223372036854775807 := by omega
  have HWN := hideP (show ∀ W, Calls Tryz.prog 15 #[.int .i64 n0, .int .i64 4] W fun e w' => e = .returned (.int .i64 (wi n0 4)) ∧ W = w' from fun W => within_any n0 4 (by decide) (by decide) W)
  have hn4 := wi_lt n0 4 (by decide)
  obtain ⟨cn, hcn⟩ : ∃ cn, 1 + wi n0 4 = cn := ⟨_, rfl⟩
  have gqn : IntKind.i64.wrap (1 + ((wi n0 4 : Nat) : Int)) = ((1 + wi n0 4 : Nat) : Int) := by simp only [IntKind.wrap_i64]; omega
  rw [hcn] at HF gqn
  generalize wi n0 4 = qn at HWN gqn hn4 hcn
  have hcn4 : cn ≤ 4 := by omega
  clear hcn hn4
  clear hP hT hL hD hLl hLc hLn hDl hDc hDn hlt hct hnt hl hc hn
  go_wp2_with fail
  refine HF.out.mono ?_
  clear HF
  rintro e w2 ⟨c, Ae, ce, xs, s0, rfl, hok, hxs, hew, hap, hrl, hvs0, hpl, hgc, hb2⟩
  have b2 := hb1.trans (hb2.mono hb1.size)
  replace hok := hok.mono hb1.size
  have hCK0 : ∀ x ∈ xs, chkE (entOf x) = 0 := fun x hx => hok.ms.log_chk (by rw [← hxs]; exact List.mem_map_of_mem hx)
  have HCK := hideP hCK0
  generalize hr0 : (⟨valOf s0, mpC zs, mpO zs, []⟩ : Sr) = r0 at hpl
  have hr00 := hideP (show r0.bs = [] by rw [← hr0])
  have HR0 := hideP (show ∀ l, (∀ k, valOf l k = prV ts (min ts.length 30) k) → (⟨valOf l, mpC zs, mpO zs, []⟩ : Sr) = r0 from fun l hl => by rw [← hr0]; congr 1; funext k; rw [hl, hvs0])
  obtain ⟨es, hes⟩ : ∃ es, xs.map entOf = es := ⟨_, rfl⟩
  have hel : es.length = xs.length := by rw [← hes, List.length_map]
  have hx36 : xs.length ≤ 3600 := by
    have h2 := log_len c.s.ct
    have h3 := hok.ms.gm.cnt
    have h4 := hok.ms.gm.most
    rw [← hxs, List.length_map] at h2
    unfold Ms.ct at h2
    omega
  have hct : logM c.s.ct = es := by rw [← hxs, hes]
  rw [hct] at hpl
  have HES := hideP hes
  have hcap := hew.caps
  generalize hg : c.s.g = g at ⊢
  have HC := hideP (show c.Ok w2 w.heap.size ∧ Below w.heap.size w w2 ∧ c.s.g = g ∧ logM c.s.ct = es ∧ c.st.length = cn ∧ Played r0 es c.st from ⟨hok, b2, hg, hct, hrl, hpl⟩)
  have HEW := hideP (fun (W : World) (hb : Below w2.heap.size w2 W) => hew.below hb)
  obtain ⟨i1, i2⟩ := HIS.out w2 b2
  have HPR := hideP (pairs_fr T ct ts w2 i2 HLT.out.1 HLT.out.2.1 HLT.out.2.2)
  clear hr0 hvs0 hgc hap hok hew hb1 hb2 b2 hxs hes hct hrl hpl hg hCK0 i2
  go_wp2_with fail
  refine HPR.out.mono ?_
  clear HPR
  rintro e w8 ⟨As, cs', s, rfl, hsv, hsm, hvs, hb8, hfs⟩
  have HKM := hideP (kmap_is P cp zs w8 (i1.below hb8) hcpz)
  have HR := hideP (HR0.out s hvs)
  have hoks := hsm.ok
  clear i1 hsm hvs HIS HLT
  go_wp2_with fail
  refine HKM.out.mono ?_
  clear HKM
  rintro e w9 ⟨A9, ca9, O9, co9, rfl, hmo9, hb9⟩
  have al9 := (Below.refl w9.heap.size w9).alloc (Nat.le_refl _) (.cells #[.slice A9 (mpC zs).length ca9, .slice O9 (mpO zs).length co9] 31)
  have x9 := Box.new w9 31 #[.slice A9 (mpC zs).length ca9, .slice O9 (mpO zs).length co9]
  have hRep : RepH w2 r0 es w9.heap.size 0 As cs' s ⟨A9, ca9, mpC zs, O9, co9, mpO zs⟩ none 0 [] (w9.alloc (.cells #[.slice A9 (mpC zs).length ca9, .slice O9 (mpO zs).length co9] 31)) :=
    RepH.first (hsv.below hb9) hoks x9 al9 (Nat.le_refl _) (hb8.trans (hb9.mono hb8.size)) ((hmo9.below al9).mono (Nat.zero_le _)) HR.out
  clear hsv hoks x9 al9 hmo9 hb9 hb8 HR
  obtain ⟨wi, hwi⟩ : ∃ wi : World, wi = w2 := ⟨_, rfl⟩
  rw [← hwi] at hRep hfs HEW HC
  clear hwi
  go_wp2_with fail
  generalize w9.heap.size = gm at hRep ⊢
  generalize w9.alloc _ = w10 at hRep ⊢
  go_wp2_with fail
  go_loopw [16, 18, 59] (TsI1 wi r0 es gm xs.length) (fun _ _ i _ => xs.length - (intOf i).toNat)
  case atStart => exact ⟨0, _, _, _, _, _, _, _, Nat.zero_le _, rfl, rfl, rfl, hRep, hfs⟩
  case round =>
        clear hRep hfs
        obtain ⟨j, A1, c1, l1, m1, Ao, co, bs, hj, rfl, rfl, rfl, hRp, hfs0⟩ := hrel
        by_cases hjq : j < xs.length
        · have hEw := HEW.out wr hRp.be
          have hlx : j < xs.length := hjq
          obtain ⟨bb, oo, hA, hbl, p0, p1, p2, p3⟩ := hEw.el.cells j xs[j] (List.getElem?_eq_getElem hlx)
          have hes := hEw.el.es _ (List.getElem_mem hlx)
          have heo := hEw.eo _ (List.getElem_mem hlx)
          have hgd := HCK.out _ (List.getElem_mem hlx)
          have hxe : es[j]? = some (entOf xs[j]) := by rw [← HES.out, List.getElem?_map, List.getElem?_eq_getElem hlx]; rfl
          have hbs : bs.length ≤ 100000 := by
            have := congrArg (fun r : Sr => r.bs.length) hRp.eq
            simp only [playR_len, hr00.out, List.length_take] at this
            have h36 := hx36
            simp at this
            omega
          have g2 : (0 : Int) ≤ (j : Int) := by omega
          have g3 : (j : Int) < (xs.length : Int) := by omega
          clear hEw
          generalize xs[j] = x at p0 p1 p2 p3 hes heo hgd hxe
          obtain ⟨Dx, cx, dx, isM, ⟨Am, cam, csm, Om, com, osm⟩⟩ := x
          simp only at p0 p1 p2 p3
          have al := (Below.refl wr.heap.size wr).alloc (Nat.le_refl _) (.cells #[.slice Dx dx.length cx, .bool isM, .slice Am csm.length cam, .slice Om osm.length com] 41)
          have xb := Box.new wr 41 #[.slice Dx dx.length cx, .bool isM, .slice Am csm.length cam, .slice Om osm.length com]
          have hR1 := hRp.below al
          have x0 := xb.cell 0 (v := .slice Dx dx.length cx) rfl
          have x1 := xb.cell 1 (v := .bool isM) rfl
          have x2 := xb.cell 2 (v := .slice Am csm.length cam) rfl
          have x3 := xb.cell 3 (v := .slice Om osm.length com) rfl
          subst hA
          cases isM
          · have HRN := hideP (run_ok A1 Dx c1 cx l1 dx _ hR1.sv hR1.okl (hes.ops.go al) hgd)
            have HTL := hideP (fun (W : World) (hb : Below (wr.alloc (.cells #[.slice Dx dx.length cx, .bool false, .slice Am csm.length cam, .slice Om osm.length com] 41)).heap.size (wr.alloc (.cells #[.slice Dx dx.length cx, .bool false, .slice Am csm.length cam, .slice Om osm.length com] 41)) W) (A8 : Option Addr) (c8 : Nat) (l8 : List Pr)
                (ho : OV W (wr.alloc (.cells #[.slice Dx dx.length cx, .bool false, .slice Am csm.length cam, .slice Om osm.length com] 41)).heap.size A8 c8 l8) (hok8 : Ok l8) (hv : valOf l8 = (doneV (valOf l1) dx).1) =>
              hR1.told (x := entOf ⟨Dx, cx, dx, false, ⟨Am, cam, csm, Om, com, osm⟩⟩) (b := (doneV (valOf l1) dx).2) hbs (Fr.of_below hb) ho.sv hok8
                (fun hl a ha => ⟨fun e => absurd ((own_ty ho (show (Value.slice A8 l8.length c8).ownBlock = some gm by rw [ownBlock_slice, ha, ← e]; rfl)).inj (hR1.x0.below hb).ty) (by decide),
                  fun e => absurd ((own_ty ho (show (Value.slice A8 l8.length c8).ownBlock = some a.block by rw [ownBlock_slice, ha]; rfl)).inj (own_ty (hR1.ob.below hb) (bo _ _ e))) (by decide)⟩)
                (hR1.x0.below hb) (hR1.mo.below hb) hxe (by show (⟨(doneV (valOf l1) dx).1, m1.cs, m1.os, bs ++ [(doneV (valOf l1) dx).2]⟩ : Sr) = _; rw [hv]) 55)
            have hRF := hideP (fun (A8 : Option Addr) (h8 : ∀ a, A8 = some a → (wr.heap.size + 1) ≤ a.block) (a : Addr) (ha : A8 = some a) => show wi.heap.size ≤ a.block from by have h1 := h8 a ha; have h2 := hRp.be.size; omega)
            generalize (doneV (valOf l1) dx) = dv at HRN HTL
            clear hR1 hRp hes heo hgd hxe hbs al xb
            go_wp2_with fail
            refine HRN.out.mono ?_
            clear HRN
            rintro e w11 ⟨A8, c8, l8, rfl, ho8, hok8, hv8, hb8⟩
            obtain ⟨Ao', co', w12, hrun, hN⟩ := HTL.out w11 hb8 A8 c8 l8 ho8 hok8 hv8
            have HR := hideP hrun
            have hfs : ∀ a, A8 = some a → (wr.heap.size + 1) ≤ a.block := fun a ha => by have := (World.ownsRow.lt ho8 a.block (by rw [ownBlock_slice, ha]; rfl)).1; simpa using this
            clear hrun HTL ho8 hok8 hv8 hb8
            go_wp2_with (at_builtin; refine Lib.wpList_append_run _ rfl _ _ _ _ rfl _ _ rfl rfl _ _ HR.out ?_)
            go_roundw
            case rel => exact ⟨j + 1, A8, c8, l8, m1, Ao', co', bs ++ [dv.2], by omega, by go_num, rfl, by simp, hN, hRF.out A8 hfs⟩
            case measure => simp [intOf]; omega
          · have f0 := hR1.x0.frozen 0
            have f1 := (hR1.x0.set 0 (.slice Am csm.length cam)).frozen 1
            have d0 := hR1.x0.cell 0 (v := .slice m1.A m1.cs.length m1.ca) rfl
            have d1 := (hR1.x0.set 0 (.slice Am csm.length cam)).cell 1 (v := .slice m1.O m1.os.length m1.co) rfl
            have ff : Fr (fun k => k = gm) (wr.alloc (.cells #[.slice Dx dx.length cx, .bool true, .slice Am csm.length cam, .slice Om osm.length com] 41)) (((wr.alloc (.cells #[.slice Dx dx.length cx, .bool true, .slice Am csm.length cam, .slice Om osm.length com] 41)).setCell ⟨gm, 0, none⟩ (.slice Am csm.length cam)).setCell ⟨gm, 1, none⟩ (.slice Om osm.length com)) := Fr.comp (F := fun k => k = gm) (Fr.of_set _ _ _ rfl) (Fr.of_set _ _ _ rfl)
            have tg := hR1.x0.ty
            have off : ∀ {t : TypeId}, t ≠ 31 → Off (fun k => k = gm) (wr.alloc (.cells #[.slice Dx dx.length cx, .bool true, .slice Am csm.length cam, .slice Om osm.length com] 41)) t := fun hn k hk _ => ⟨31, by have hk' : k = gm := hk; rw [hk']; exact tg, hn⟩
            have hmo := heo.map.below al
            have he : stepR ⟨valOf l1, m1.cs, m1.os, bs⟩ (entOf ⟨Dx, cx, dx, true, ⟨Am, cam, csm, Om, com, osm⟩⟩) = ⟨valOf l1, csm, osm, bs ++ [true]⟩ := by simp [stepR, entOf]
            have hmo2 : MO (((wr.alloc (.cells #[.slice Dx dx.length cx, .bool true, .slice Am csm.length cam, .slice Om osm.length com] 41)).setCell ⟨gm, 0, none⟩ (.slice Am csm.length cam)).setCell ⟨gm, 1, none⟩ (.slice Om osm.length com)) 0 ⟨Am, cam, csm, Om, com, osm⟩ := MO.mono ⟨ff.own_ty hmo.cuts (off (by decide)), ff.own_ty hmo.own (off (by decide))⟩ (Nat.zero_le _)
            obtain ⟨Ao', co', w12, hrun, hN⟩ := hR1.told (x := entOf ⟨Dx, cx, dx, true, ⟨Am, cam, csm, Om, com, osm⟩⟩) (m1 := ⟨Am, cam, csm, Om, com, osm⟩) (b := true) hbs ff (hR1.sv.fr ff fun hl a ha => (hR1.av hl a ha).1) hR1.okl hR1.av ((hR1.x0.set 0 (.slice Am csm.length cam)).set 1 (.slice Om osm.length com)) hmo2 hxe he 55
            have hsz : (((wr.alloc (.cells #[.slice Dx dx.length cx, .bool true, .slice Am csm.length cam, .slice Om osm.length com] 41)).setCell ⟨gm, 0, none⟩ (.slice Am csm.length cam)).setCell ⟨gm, 1, none⟩ (.slice Om osm.length com)).heap.size = wr.heap.size + 1 := by simp [World.setCell]
            rw [hsz] at hrun
            have HR := hideP hrun
            clear hrun hR1 hRp hes heo hgd hxe hbs al xb ff tg off hmo hmo2 he
            go_wp2_with (at_builtin; refine Lib.wpList_append_run _ rfl _ _ _ _ rfl _ _ rfl rfl _ _ HR.out ?_)
            go_roundw
            case rel => exact ⟨j + 1, A1, c1, l1, ⟨Am, cam, csm, Om, com, osm⟩, Ao', co', bs ++ [true], by omega, by go_num, rfl, by simp, hN, hfs0⟩
            case measure => simp [intOf]; omega
        · obtain rfl : j = xs.length := by omega
          rw [← hel] at hRp
          have hRf := hRp.done hfs0 HC.out.1 HC.out.2.1 HC.out.2.2.1 HC.out.2.2.2.1 HC.out.2.2.2.2.1 HC.out.2.2.2.2.2
          have hsl2 := hRp.okl.small
          clear hRp hfs0 HEW HCK HES HC hcap
          go_wp2_with fail
          refine (HWN.out _).mono ?_
          rintro e w' ⟨rfl, rfl⟩
          clear HWN
          go_wp2_with fail
          go_loopw [85] (TsI2 w g cn r0 es gm A1 c1 l1 m1 Ao co bs) (fun i _ => cn - (intOf i).toNat)
          case atStart => exact ⟨0, c, Nat.zero_le _, rfl, hRf⟩
          case round =>
            clear hRf
            obtain ⟨i, c, hi4, rfl, hR⟩ := hrel
            by_cases hi : i < cn
            · have g1 : (i : Int) < (cn : Int) := by omega
              go_wp2_with fail
              go_loopw [88] (TsI3 w g cn r0 es gm A1 c1 l1 m1 Ao co bs) (fun _ wr => es.length - repLen g i wr)
              case atStart => exact ⟨c, hR⟩
              case round =>
                clear hR
                obtain ⟨c, hR⟩ := hrel
                obtain ⟨r, hr, hst, hrp, hrl⟩ := hR.at_ hi
                have HS := hideP (cstep_any c _ (i : Int) wr hR.ok)
                rw [hR.ct, hR.gg] at HS
                by_cases hlt2 : r.bs.length < es.length
                · obtain ⟨q1, q2, q3⟩ := cp_go (log := es) (st := c.st) (i := i) (r := r.st) (x := es[r.bs.length]) hst (List.getElem?_eq_getElem hlt2)
                  have hrn := hR.ok.repLen_ hr
                  rw [hR.gg] at hrn
                  have HN := hideP (fun (c' : Cs) (w' : World) (TT : c.To wr w.heap.size c' w' c.s.ct (cpS es c.st (i : Int))) => show RfH w g cn r0 es gm A1 c1 l1 m1 Ao co bs c' w' ∧ repLen g i w' = r.bs.length + 1 from by
                    have h2 := hR.step (i : Int) TT
                    refine ⟨h2, ?_⟩
                    obtain ⟨r', hr', e'⟩ := Cs.at_st (c := c') (i := i) (a := stepR r.st es[r.bs.length]) (by rw [TT.st, q3, List.getElem?_set, if_pos rfl, if_pos (List.getElem?_eq_some_iff.1 hst).1])
                    have := h2.ok.repLen_ hr'
                    rw [h2.gg] at this
                    rw [this]
                    have e2 : r'.bs = (stepR r.st es[r.bs.length]).bs := congrArg Sr.bs e'
                    rw [e2, stepR_bs]
                    simp [Rp.st])
                  rw [q1, q2] at HS
                  have hme := hideP (And.intro hrn hlt2)
                  generalize cpS es c.st (i : Int) = z1 at HS HN
                  generalize doneE r.st.v es[r.bs.length] = dn at HS
                  clear hR hrp hrl hst hr q1 q2 q3 hrn hlt2
                  go_wp2_with fail
                  refine HS.out.mono ?_
                  clear HS
                  rintro e w11 ⟨c', rfl, TT⟩
                  obtain ⟨hN, hrn2⟩ := HN.out c' w11 TT
                  have hme2 := hideP hrn2
                  clear TT HN hrn2
                  go_wp2_with fail
                  go_roundw
                  case rel => exact ⟨c', hN⟩
                  case measure => have := hme.out.1; have := hme.out.2; have := hme2.out; omega
                · obtain ⟨q1, q2, q3⟩ := cp_wait (log := es) (st := c.st) (i := i) (r := r.st) hst (by show es.length ≤ r.bs.length; omega)
                  rw [q1, q2, q3] at HS
                  have HN := hideP (fun (c' : Cs) (w' : World) (TT : c.To wr w.heap.size c' w' c.s.ct c.st) => show RfH w g cn r0 es gm A1 c1 l1 m1 Ao co bs c' w' ∧ ∃ r', c'.rs[i]? = some r' ∧ r'.st = playR r0 es from by
                    have h2 := hR.step (i : Int) (show c.To wr w.heap.size c' w' c.s.ct (cpS es c.st (i : Int)) from by rw [q3]; exact TT)
                    obtain ⟨r', hr', e'⟩ := Cs.at_st (c := c') (i := i) (a := r.st) (by rw [TT.st]; exact hst)
                    exact ⟨h2, r', hr', by rw [e', hrp, List.take_of_length_le (by omega)]⟩)
                  clear hR hrp hrl hst hr q1 q2 q3 hlt2
                  go_wp2_with fail
                  refine HS.out.mono ?_
                  clear HS
                  rintro e w11 ⟨c', rfl, TT⟩
                  obtain ⟨hRp, ra, hra, ha⟩ := HN.out c' w11 TT
                  clear TT HN
                  have hok0 := hRp.ok
                  have he : ra.st = ⟨valOf l1, m1.cs, m1.os, bs⟩ := ha.trans hRp.eq.symm
                  have el : ra.l = l1 := (hok0.ro i ra hra).pb.ok.ext hRp.okl fun x => congrFun (congrArg Sr.v he) x
                  have ec : ra.m.cs = m1.cs := congrArg Sr.cs he
                  have eo : ra.m.os = m1.os := congrArg Sr.os he
                  have eb : ra.bs = bs := congrArg Sr.bs he
                  have hokm := (hok0.ro i ra hra).pb.okm
                  have hsb := hok0.small hra
                  have HA0 := hideP (fun (W : World) (h : c'.Ok W w.heap.size) => call_any c' w.heap.size i ra W h hra)
                  have HD0 := hideP (fun (W : World) (h : c'.Ok W w.heap.size) => cdone_any c' w.heap.size i ra W h hra)
                  have HP0 := hideP (fun (W : World) (h : c'.Ok W w.heap.size) (q : Nat) (hq : q < 4) => cpart_any c' w.heap.size i q ra W h hra hq)
                  rw [hRp.gg] at HA0 HD0 HP0
                  rw [el] at HA0
                  rw [eb] at HD0 hsb
                  rw [ec, eo, el] at HP0
                  rw [ec, eo] at hokm
                  clear hra ha he el ec eo eb hok0
                  go_wp2_with fail
                  refine (HA0.out _ hRp.ok).mono ?_
                  rintro e v1 ⟨A11, c11, rfl, o1, hb1⟩
                  have s1 := o1.sv
                  replace hRp := hRp.below hb1
                  clear o1 hb1 HA0
                  go_wp2_with fail
                  refine (HD0.out _ hRp.ok).mono ?_
                  rintro e v2 ⟨A12, c12, rfl, o2, hb2⟩
                  have s2 := o2.vs
                  replace s1 := s1.below hb2
                  replace hRp := hRp.below hb2
                  clear o2 hb2 HD0
                  have HE1 := hideP (equal_same A11 A1 c11 c1 l1 v2 s1.ps hRp.sv.ps (by omega))
                  have HE2 := hideP (fun (W : World) (hb : Below v2.heap.size v2 W) => bequal_same A12 Ao c12 co bs W (s2.below hb) (hRp.ob.vs.below hb) (by omega))
                  clear s1 s2
                  go_wp2_with fail
                  refine HE1.out.mono ?_
                  rintro e v3 ⟨rfl, hb3⟩
                  replace hRp := hRp.below hb3
                  clear HE1
                  go_wp2_with fail
                  refine (HE2.out v3 hb3).mono ?_
                  rintro e v4 ⟨rfl, hb4⟩
                  replace hRp := hRp.below hb4
                  clear HE2 hb3 hb4
                  go_wp2_with fail
                  go_loopw [30, 128] (TsI4 w g cn r0 es gm A1 c1 l1 m1 Ao co bs c') (fun _ i _ => 4 - (intOf i).toNat)
                  case atStart => exact ⟨0, none, 0, by omega, rfl, by rw [show ((0 : Nat) : Int) = 0 from rfl, upL_zero hokm]; rfl, by rw [show ((0 : Nat) : Int) = 0 from rfl, upL_zero hokm]; exact SV.nil _, hRp⟩
                  case round =>
                    clear hRp
                    obtain ⟨p, Aj, cj, hp4, rfl, rfl, hsj, hRp⟩ := hrel
                    by_cases hp : p < 4
                    · have g2 : (p : Int) < 4 := by omega
                      have hpl : (ptL m1.cs m1.os (p : Int) l1).length ≤ l1.length := List.length_filter_le _ _
                      have hul : (upL m1.cs m1.os (p : Int) l1).length ≤ l1.length := List.length_filter_le _ _
                      have HQ0 := hideP (HP0.out _ hRp.ok p hp)
                      have HQ1 := hideP (fun (W : World) (h : RfH w g cn r0 es gm A1 c1 l1 m1 Ao co bs c' W) => shpart_any m1 A1 c1 l1 (p : Int) W h.mo.ms h.sv.ps hokm.l2 (by omega))
                      rw [partV_ok (chkM_ok.2 hokm) (chk_ok.2 hRp.okl) (ownB_iff.2 (by omega))] at HQ1
                      have HJ := hideP (fun (W : World) (A2 : Option Addr) (c2 : Nat) (h1 : SV W Aj cj (upL m1.cs m1.os (p : Int) l1)) (h2 : SV W A2 c2 (ptL m1.cs m1.os (p : Int) l1)) => show Calls Tryz.prog 28 #[.slice Aj (upL m1.cs m1.os (p : Int) l1).length cj, .slice A2 (ptL m1.cs m1.os (p : Int) l1).length c2] W fun e w' => ∃ A' c3, e = .returned (.tuple #[.slice A' (upL m1.cs m1.os ((p + 1 : Nat) : Int) l1).length c3, .int .i64 0]) ∧ SV w' A' c3 (upL m1.cs m1.os ((p + 1 : Nat) : Int) l1) ∧ Below W.heap.size W w' from by
                        refine (join_own Aj A2 cj c2 _ _ W h1 h2 (upL_ok hRp.okl _) (ptL_ok hRp.okl _) (by omega)).mono ?_
                        rintro e w1 ⟨hor, hb1⟩
                        rcases hor with ⟨hna, _⟩ | ⟨A1, c1, y, rfl, hy, hj⟩
                        · exact absurd (show Apart _ _ from up_apart (p : Int)) hna
                        · have e := all_join hRp.okl hj
                          rw [show ((p + 1 : Nat) : Int) = (p : Int) + 1 by omega, ← e]
                          exact ⟨A1, c1, rfl, hy.sv, hb1⟩)
                      generalize ptL m1.cs m1.os (p : Int) l1 = pt at HQ0 HQ1 HJ hpl
                      have HT := hideP (fun (v i : Value) (W : World) (A' : Option Addr) (c3 : Nat) (hi : i = .int .i64 ((p + 1 : Nat) : Int)) (hv : v = .slice A' (upL m1.cs m1.os ((p + 1 : Nat) : Int) l1).length c3) (h1 : SV W A' c3 (upL m1.cs m1.os ((p + 1 : Nat) : Int) l1)) (h2 : RfH w g cn r0 es gm A1 c1 l1 m1 Ao co bs c' W) => show TsI4 w g cn r0 es gm A1 c1 l1 m1 Ao co bs c' v i W from ⟨p + 1, A', c3, by omega, hi, hv, h1, h2⟩)
                      generalize upL m1.cs m1.os (p : Int) l1 = up at HJ hsj hul
                      generalize upL m1.cs m1.os ((p + 1 : Nat) : Int) l1 = nx at HJ HT
                      go_wp2_with fail
                      refine HQ0.out.mono ?_
                      rintro e v1 ⟨A11, c11, rfl, o1, hb1⟩
                      have s1 := o1.sv
                      replace hRp := hRp.below hb1
                      replace hsj := hsj.below hb1
                      have z0 := hRp.x0.cell 0 (v := .slice m1.A m1.cs.length m1.ca) rfl
                      have z1 := hRp.x0.cell 1 (v := .slice m1.O m1.os.length m1.co) rfl
                      clear o1 hb1 HQ0
                      go_wp2_with fail
                      refine (HQ1.out v1 hRp).mono ?_
                      rintro e v2 ⟨A12, c12, rfl, o2, hb2⟩
                      simp only at o2 ⊢
                      have s2 := o2.sv
                      replace s1 := s1.below hb2
                      replace hsj := hsj.below hb2
                      replace hRp := hRp.below hb2
                      clear o2 hb2 HQ1 z0 z1
                      go_wp2_with fail
                      refine (HJ.out v2 A11 c11 hsj s1).mono ?_
                      rintro e v3 ⟨A13, c13, rfl, o3, hb3⟩
                      replace s1 := s1.below hb3
                      replace s2 := s2.below hb3
                      replace hRp := hRp.below hb3
                      clear hb3 HJ hsj
                      have HE1 := hideP (equal_same A11 A12 c11 c12 pt v3 s1.ps s2.ps (by omega))
                      clear s1 s2
                      go_wp2_with fail
                      refine HE1.out.mono ?_
                      rintro e v4 ⟨rfl, hb4⟩
                      replace hRp := hRp.below hb4
                      replace o3 := o3.below hb4
                      clear HE1 hb4
                      go_wp2_with fail
                      go_roundw
                      case rel => exact HT.out _ _ _ _ _ (by go_num) rfl o3 hRp
                      case measure => simp [intOf]; omega
                    · have g2 : ¬ (p : Int) < 4 := by omega
                      obtain rfl : p = 4 := by omega
                      have e4 : upL m1.cs m1.os ((4 : Nat) : Int) l1 = l1 := upL_all hokm
                      rw [e4] at hsj ⊢
                      have HE1 := hideP (equal_same Aj A1 cj c1 l1 wr hsj.ps hRp.sv.ps (by omega))
                      clear e4 hsj
                      go_wp2_with fail
                      refine HE1.out.mono ?_
                      rintro e v4 ⟨rfl, hb4⟩
                      have hN := hRp.below hb4
                      clear HE1 hb4 hRp
                      go_wp2_with fail
                      go_roundw
                      case rel => exact ⟨i + 1, c', by omega, by go_num, hN⟩
                      case measure => simp [intOf]; omega
            · have hbe := hR.be
              go_wp2_with fail
              go_ret
              exact ⟨rfl, hbe⟩
end Go.Proofs.YtcopmdgcjnkiaaaGreat
