/-
  rotop.TopLog: the walk.
-/
import Derived.Test.YtefdipjhjgmokaaGreatDoorBw34
import Derived.Test.YtefdipjhjgmokaaGreatDoorBw38
import Derived.Test.YtefdipjhjgmokaaGreatDoorBw41
import Derived.Test.YtefdipjhjgmokaaGreatDoorBw42
import Derived.Test.YtefdipjhjgmokaaGreatDoorBw31
import Derived.Deep.RegionLaw
set_option linter.unusedVariables false
set_option linter.unusedSimpArgs false
namespace Go.Proofs.YtefdipjhjgmokaaGreatDoor
open Go.RowKit
open Go.Lib hiding intOf

def ToI1 (w : World) (g : Nat) (A : Option Addr) (ce : Nat) (xs : List Em) (r0 : Sr) (s i : Value) (wr : World) : Prop :=
  ∃ (k : Nat) (c : Cs), k ≤ xs.length ∧ i = .int .i64 k ∧ s = .string (bs (logT ((xs.take k).map entOf))) ∧ AdH w g A ce xs [r0] k c wr
/-- entries that were read come to the second Copies -/
structure ToH2 (w : World) (ga gb : Nat) (ca : List (List (List Ent))) (A : Option Addr) (cz : Nat) (zs : List Em) (ra rb : Sr) (k : Nat) (a b : Cs) (wr : World) : Prop extends ToH w ga gb ca [[(zs.map entOf).take k]] [ra] [rb] a b wr where
  ew : EW wr w.heap.size A cz zs
  cap : CAp b A
theorem ToH2.below {w wr w' : World} {ga gb cz k : Nat} {ca : List (List (List Ent))} {A : Option Addr} {zs : List Em} {ra rb : Sr} {a b : Cs} (h : ToH2 w ga gb ca A cz zs ra rb k a b wr) (hb : Below wr.heap.size wr w') : ToH2 w ga gb ca A cz zs ra rb k a b w' := ⟨h.toToH.below hb, h.ew.below hb, h.cap⟩
theorem ToH2.next {w wr w' : World} {ga gb cz k : Nat} {ca : List (List (List Ent))} {A : Option Addr} {zs : List Em} {ra rb : Sr} {a b b' : Cs} (h : ToH2 w ga gb ca A cz zs ra rb k a b wr) (hk : k < zs.length) (T : b.To wr w.heap.size b' w' [[(zs.map entOf).take k ++ [entOf zs[k]]]] b.st) : ToH2 w ga gb ca A cz zs ra rb (k + 1) a b' w' := by
  obtain ⟨h1, h2⟩ := h.ew.cto h.bok T h.cap
  have h3 := h.toToH.b_ T
  rw [h.sb] at h3
  have e : (zs.map entOf).take k ++ [entOf zs[k]] = (zs.map entOf).take (k + 1) := by
    rw [List.take_succ_eq_append_getElem (by simpa using hk)]; simp
  rw [e] at h3
  exact ⟨h3, h1, h2⟩
def ToI2 (w : World) (ga gb : Nat) (ca : List (List (List Ent))) (A : Option Addr) (cz : Nat) (zs : List Em) (ra rb : Sr) (i : Value) (wr : World) : Prop :=
  ∃ (k : Nat) (a b : Cs), k ≤ zs.length ∧ i = .int .i64 k ∧ ToH2 w ga gb ca A cz zs ra rb k a b wr
def ToI3 (w : World) (ga gb n : Nat) (ca cb : List (List (List Ent))) (es fs : List Ent) (r0 : Sr) (i : Value) (wr : World) : Prop :=
  ∃ (k : Nat) (a b : Cs), k ≤ n ∧ i = .int .i64 k ∧ ToH w ga gb ca cb [playR r0 (es.take k)] [playR r0 (fs.take k)] a b wr
set_option maxHeartbeats 16000000 in
set_option maxRecDepth 100000 in
theorem tlo_walk (P T L D : Option Addr) (cp ct cl cd : Nat) (zs ts : List Int) (ps ds : List Cl) (i0 ci : Int) (w : World) (hP : IS w P zs) (hl : zs.length ≤ cp) (hc : cp ≤ 9223372036854775807) (hn : P = none → cp = 0)
    (hT : IS w T ts) (hlt : ts.length ≤ ct) (hct : ct ≤ 9223372036854775807) (hnt : T = none → ct = 0)
    (hL : LS w L ps) (hLl : ps.length ≤ cl) (hLc : cl ≤ 9223372036854775807) (hLn : L = none → cl = 0)
    (hD : LS w D ds) (hDl : ds.length ≤ cd) (hDc : cd ≤ 9223372036854775807) (hDn : D = none → cd = 0) (hg : Gl w) :
    Calls Tryz.prog 3 #[.int .i64 i0, .slice P zs.length cp, .slice T ts.length ct, .slice L ps.length cl, .slice D ds.length cd, .int .i64 ci] w fun e w' => e = .returned (.bool true) ∧ Below w.heap.size w w' := by
  go_enter Tryz.func3, Tryz.ntmps3
  go_wp2_with fail
  refine (tbegun_any _).mono ?_
  rintro e w1 ⟨rfl, hb1⟩
  have HF := hideP (tfed_any P T L D cp ct cl cd zs ts ps ds i0 0 w1 (hP.below hb1) hl hc hn (hT.below hb1) hlt hct hnt (hL.below hb1) hLl hLc hLn (hD.below hb1) hDl hDc hDn)
  have HIS := hideP (fun (W : World) (hb : Below w.heap.size w W) => show (IS W P zs ∧ IS W T ts) ∧ Gl W from ⟨⟨hP.below hb, hT.below hb⟩, hg.below hb⟩)
  have HLT := hideP (And.intro hlt (And.intro hct hnt))
  have hcpz : zs.length ≤ 9223372036854775807 := by omega
  clear hP hT hL hD hLl hLc hLn hDl hDc hDn hlt hct hnt hl hc hn hg
  go_wp2_with fail
  refine HF.out.mono ?_
  clear HF
  rintro e w2 ⟨c0, Ae, ce, xs, s0, rfl, hok, hxs, hew, -, -, -, -, -, hb2⟩
  have b2 := hb1.trans (hb2.mono hb1.size)
  have hxl : xs.length ≤ 60 := by
    have h2 := log_tot c0.s.ct
    have h3 := hok.ms.gm.cnt
    have h4 := hok.ms.gm.most
    rw [← hxs, List.length_map] at h2
    unfold Ms.ct at h2
    omega
  obtain ⟨es, hes⟩ : ∃ es, xs.map entOf = es := ⟨_, rfl⟩
  have HEL := hideP (show es.length = xs.length by rw [← hes, List.length_map])
  have HCK := hideP (show ∀ e ∈ es, chkE e = 0 ∧ dropE e = e from fun e he => by
    rw [← hes, hxs] at he
    exact ⟨hok.ms.log_chk he, hok.ms.log_drop he⟩)
  have HES := hideP hes
  generalize c0.s.g = g0
  obtain ⟨⟨i1, i2⟩, _⟩ := HIS.out w2 b2
  clear hok hxs hes
  go_wp2_with fail
  refine (kmap_is P cp zs _ i1 hcpz).mono ?_
  rintro e w3 ⟨A, ca, O, co, rfl, hmo, hb3⟩
  replace i2 := i2.below hb3
  have b3 := hb2.trans (hb3.mono hb2.size)
  replace hew := hew.below hb3
  clear i1 b2
  go_wp2_with fail
  refine (pairs_is T ct ts _ i2 HLT.out.1 HLT.out.2.1 HLT.out.2.2).mono ?_
  rintro e w4 ⟨As, cs', s, rfl, hsv, hsm, hvs, hb4⟩
  have b4 := b3.trans (hb4.mono b3.size)
  replace hew := hew.below hb4
  have HN := hideP (cnew_ok 1 1 ⟨A, ca, mpC zs, O, co, mpO zs⟩ As cs' s w4 (by decide) (by decide) (by decide) (by decide) (hmo.below hb4).ms hsv.ps (mp_ok zs) hsm.ok)
  simp only at HN
  have hloA : ∀ q, blk Ae = some q → q < w4.heap.size := fun q hq => (World.ownsRow.lt hew.row q (bo _ _ hq)).2
  have HSM := hideP hsm
  have HVS := hideP hvs
  clear hb4 hb3 hmo hsv b3 i2 hsm hvs
  go_wp2_with fail
  refine HN.out.mono ?_
  clear HN
  rintro e w5 ⟨c, rfl, hok, hct0, hst0, hb5⟩
  have b5 := b4.trans (hb5.mono b4.size)
  obtain ⟨r0, hr0⟩ : ∃ r0, (⟨valOf s, mpC zs, mpO zs, []⟩ : Sr) = r0 := ⟨_, rfl⟩
  have HR0 := hideP hr0
  have hA : AdH w1 c.s.g Ae ce xs [r0] 0 c w5 := ⟨hok.mono b4.size, rfl, by rw [hct0]; rfl, by rw [hst0, ← hr0]; rfl, hew.below hb5, fun q hq hF => by have := hloA q hq; have := (hok.lo hF).1; omega, b5⟩
  have hI : ToI1 w1 c.s.g Ae ce xs r0 (.string ⟨#[]⟩) (.int .i64 0) w5 := ⟨0, c, Nat.zero_le _, rfl, rfl, hA⟩
  generalize c.s.g = g at hI ⊢
  have HB1 := hideP hb1
  clear hok hct0 hst0 hew hloA hb5 b4 b5 hA hr0 hb1 hb2
  go_wp2_with fail
  go_loopw [18, 69] (ToI1 w1 g Ae ce xs r0) (fun _ i _ => xs.length - (intOf i).toNat)
  case atStart => exact hI
  case round =>
    clear hI
    obtain ⟨k, c, hk, rfl, rfl, h⟩ := hrel
    have hbw := HB1.out.trans (h.be.mono HB1.out.size)
    by_cases hkn : k < xs.length
    · obtain ⟨bb, oo, hA, hbl, p0, p1, p2, p3⟩ := h.ew.el.cells k xs[k] (List.getElem?_eq_getElem hkn)
      have hesx := h.ew.el.es _ (List.getElem_mem hkn)
      have hxe : es[k]? = some (entOf xs[k]) := by rw [← HES.out, List.getElem?_map, List.getElem?_eq_getElem hkn]; rfl
      obtain ⟨hck, hdr⟩ := HCK.out _ (List.mem_of_getElem? hxe)
      have HST := hideP (logT_step hkn)
      have hs1 : (bs (logT ((xs.take k).map entOf))).size ≤ 18000 := by
        rw [bs_size]
        have h1 := logT_len ((xs.take k).map entOf) (fun x hx => (HCK.out x (by rw [← HES.out]; rw [List.map_take] at hx; exact List.mem_of_mem_take hx)).1)
        rw [List.length_map, List.length_take] at h1
        omega
      have hs2 : (bs (entT (entOf xs[k]))).size ≤ 300 := by
        have h1 := logT_len [entOf xs[k]] (by simpa using hck)
        simp [logT] at h1
        rw [bs_size]; exact h1
      have hNX := hideP (fun (c' : Cs) (w' : World) => h.next (w' := w') (c' := c') hkn)
      have hADQ := add_one ((xs.map entOf).take k) (entOf xs[k]) hck hdr (by rw [List.length_take]; omega)
      have al := (Below.refl wr.heap.size wr).alloc (Nat.le_refl _) (.cells (emC xs[k]) 42)
      have xb := Box.new wr 42 (emC xs[k])
      have HE := hideP (entry_any xs[k] _ (hesx.below al) ((HIS.out _ (hbw.trans (al.mono hbw.size))).2))
      have hva : enA (entOf xs[k]) = bs (entT (entOf xs[k])) := by unfold enA; rw [if_pos hck]
      rw [hva, hck] at HE
      have HAD := hideP (fun (W : World) (hb : Below wr.heap.size wr W) => cadd_any c _ 0 xs[k] W (h.below hb).ok (hesx.below hb))
      rw [h.ct, hADQ.1, hADQ.2, h.gg] at HAD
      have hNXT := hideP (fun (c' : Cs) (W w' : World) (hb : Below wr.heap.size wr W) (TT : c.To W w1.heap.size c' w' [[(xs.map entOf).take k ++ [entOf xs[k]]]] c.st) => show ToI1 w1 g Ae ce xs r0 (.string (bs (logT ((xs.take (k + 1)).map entOf)))) (.int .i64 ((k + 1 : Nat) : Int)) w' from ⟨k + 1, c', hkn, rfl, rfl, (h.below hb).next hkn TT⟩)
      rw [HST.out] at hNXT
      subst hA
      generalize xs[k] = x at p0 p1 p2 p3 HE HAD hNXT hs2 xb al
      obtain ⟨Dx, cDx, dx, isM, mm⟩ := x
      generalize bs (entT (entOf ⟨Dx, cDx, dx, isM, mm⟩)) = tx at HE hs2 hNXT
      generalize bs (logT ((xs.take k).map entOf)) = sx at hs1 hNXT ⊢
      have nb : ¬ (9223372036854775807 < sx.size + tx.size) := by omega
      simp only at p0 p1 p2 p3
      have x0 := xb.cell 0 (v := .slice Dx dx.length cDx) rfl
      have x1 := xb.cell 1 (v := .bool isM) rfl
      have x2 := xb.cell 2 (v := .slice mm.A mm.cs.length mm.ca) rfl
      have x3 := xb.cell 3 (v := .slice mm.O mm.os.length mm.co) rfl
      have g1 : (0 : Int) ≤ (k : Int) := by omega
      have g2 : (k : Int) < (xs.length : Int) := by omega
      unfold emV at HE HAD
      unfold emC at HE HAD xb x0 x1 x2 x3 al
      simp only at HE HAD xb x0 x1 x2 x3 al
      clear h hesx hxe hck hdr HST hNX hADQ hva hbw
      go_wp2_with fail
      refine HE.out.mono ?_
      clear HE x0 x1 x2 x3
      rintro e w6 ⟨rfl, hb6⟩
      have b6 := al.trans (hb6.mono al.size)
      have xb6 := (xb.below hb6).drew
      have b6d := b6.drew
      have x0 := xb6.cell 0 (v := .slice Dx dx.length cDx) rfl
      have x1 := xb6.cell 1 (v := .bool isM) rfl
      have x2 := xb6.cell 2 (v := .slice mm.A mm.cs.length mm.ca) rfl
      have x3 := xb6.cell 3 (v := .slice mm.O mm.os.length mm.co) rfl
      clear al hb6 xb b6 xb6
      have HADD := hideP (HAD.out w6.drew b6d)
      have HNN := hideP (fun (c' : Cs) (w' : World) (TT : c.To w6.drew w1.heap.size c' w' [[(xs.map entOf).take k ++ [entOf ⟨Dx, cDx, dx, isM, mm⟩]]] c.st) => hNXT.out c' w6.drew w' b6d TT)
      clear HAD hNXT b6d p0 p1 p2 p3 hs1 hs2
      go_wp2_with fail
      go_region_law (
        (go_simp
         go_at_call 14
         refine HADD.out.mono ?_
         rintro e w7 ⟨c', rfl, TT⟩
         have hN := HNN.out c' w7 TT
         clear TT))
      all_goals
        go_wp2_with fail
        go_roundw
        case rel => exact hN
        case measure => simp [intOf]; omega
    · obtain rfl : k = xs.length := by omega
      rw [List.take_length]
      have HXM := hideP (show (xs.map entOf).take xs.length = es by rw [List.take_of_length_le (by simp), HES.out])
      have hct := h.ct
      rw [HXM.out] at hct
      have HCL := hideP (cclose_any c _ 0 wr h.ok)
      obtain ⟨f1, f2, f3⟩ := close_one es
      rw [hct, f1, f2, f3, h.gg] at HCL
      have HNX := hideP (fun (c' : Cs) (w' : World) (TT : c.To wr w1.heap.size c' w' [[es, []]] c.st) => show c'.Ok w' w1.heap.size ∧ c'.s.g = g ∧ c'.s.ct = [[es, []]] ∧ c'.st = [r0] ∧ Below w1.heap.size w1 w' from
        ⟨TT.ok, TT.g.trans h.gg, TT.ct, TT.st.trans h.st, TT.below_ h.ok (Nat.le_refl _) h.be⟩)
      rw [HES.out]
      have hs1 : (bs (logT es)).size ≤ 18000 := by
        rw [bs_size]
        have h1 := logT_len es (fun x hx => (HCK.out x hx).1)
        rw [HEL.out] at h1
        omega
      have HDA := hideP (bs_data (logT es))
      have HSZ := hideP (bs_size (logT es))
      have HCUT := hideP (log_cut es fun x hx => (HCK.out x hx).1)
      have g20 : ¬ ((20000 : Int) < ((bs (logT es)).size : Int)) := by omega
      generalize bs (logT es) = t at HDA HSZ hs1 g20 ⊢
      clear h f1 f2 f3 hct hbw
      go_wp2_with fail
      refine HCL.out.mono ?_
      rintro e w8 ⟨a, rfl, TT⟩
      obtain ⟨haok, hag, hact, hast, hb8⟩ := HNX.out a w8 TT
      have bw8 := HB1.out.trans (hb8.mono HB1.out.size)
      obtain ⟨_, hg8⟩ := HIS.out w8 bw8
      clear TT HCL HNX
      have HWI := hideP (within_any ci (t.size + 1) (by omega) (by omega) w8)
      have hjl := wi_lt ci (t.size + 1) (by omega)
      generalize wi ci (t.size + 1) = j at HWI hjl
      have pw : IntKind.i64.wrap ((t.size : Int) + 1) = (t.size : Int) + 1 := by simp only [IntKind.wrap_i64]; omega
      have HWI' := hideP (show Calls Tryz.prog 17 #[.int .i64 ci, .int .i64 ((t.size : Int) + 1)] w8 fun e w' => e = .returned (.int .i64 j) ∧ w8 = w' from HWI.out)
      clear HWI
      obtain ⟨jj, rest, hjj, htk, hnr, hcnt⟩ := HCUT.out j
      have HL2 := hideP (log_any (t.extract 0 j) w8 hg8)
      have hex : (t.extract 0 j).data.toList = (logT es).take j := by rw [ext_take1, HDA.out]
      unfold RetLg at HL2
      rw [hex] at HL2
      have htl : ((logT es).take j).length = j := by rw [List.length_take]; have := HSZ.out; omega
      have HIS2 := hideP (show LogIs ((logT es).take j) 0 ((es.take jj).map bareE) (logT (es.take jj)).length by
        rw [htk]
        exact log_is (es.take jj) rest (fun x hx => (HCK.out x (List.mem_of_mem_take hx)).1) hnr (by rw [← htk, htl]; omega))
      have HJJ := hideP hjj
      have gj0 : (0 : Int) ≤ (j : Int) := by omega
      have gj1 : (j : Int) ≤ (t.size : Int) := by omega
      clear htk hex htl hcnt hnr hjj HCUT
      go_wp2_with fail
      refine HWI'.out.mono ?_
      rintro e w' ⟨rfl, rfl⟩
      clear HWI'
      go_wp2_with fail
      refine HL2.out.mono ?_
      clear HL2
      rintro e w9 ⟨q2, A9, c9, zz, k9, hLI, rfl, hW9, hb9⟩
      obtain ⟨rfl, hzs, rfl⟩ := hLI.same HIS2.out
      generalize (logT (es.take jj)).length = k9 at HIS2 hLI ⊢
      have HZL := hideP (show zz.length = jj by
        have := congrArg List.length hzs
        simp at this
        rw [this]; have := HJJ.out; omega)
      have HZS := hideP hzs
      have bw9 := bw8.trans (hb9.mono bw8.size)
      have b89 := hb8.trans (hb9.mono hb8.size)
      have haok9 := haok.below hb9
      have hW9' := hW9.mono hb8.size
      obtain ⟨⟨i1, i2⟩, _⟩ := HIS.out w9 bw9
      clear hLI hzs HIS2 hW9 hb9 hg8 hb8 bw8 haok gj0 gj1 hs1 hjl pw
      go_wp2_with fail
      refine (kmap_is P cp zs _ i1 hcpz).mono ?_
      rintro e v1 ⟨A1, ca1, O1, co1, rfl, hmo, hv1⟩
      replace i2 := i2.below hv1
      have c1 := b89.trans (hv1.mono b89.size)
      replace haok9 := haok9.below hv1
      replace hW9' := hW9'.below hv1
      clear i1 b89
      go_wp2_with fail
      refine (pairs_is T ct ts _ i2 HLT.out.1 HLT.out.2.1 HLT.out.2.2).mono ?_
      rintro e v2 ⟨As2, cs2, s2, rfl, hsv, hsm, hvs, hv2⟩
      have es2 : s2 = s := hsm.ok.ext HSM.out.ok fun k => by rw [hvs, HVS.out]
      subst es2
      have c2 := c1.trans (hv2.mono c1.size)
      replace haok9 := haok9.below hv2
      replace hW9' := hW9'.below hv2
      have HN := hideP (cnew_ok 1 1 ⟨A1, ca1, mpC zs, O1, co1, mpO zs⟩ As2 cs2 s2 v2 (by decide) (by decide) (by decide) (by decide) (hmo.below hv2).ms hsv.ps (mp_ok zs) hsm.ok)
      simp only at HN
      clear hv1 hv2 hmo hsv c1 i2 hsm hvs
      go_wp2_with fail
      refine HN.out.mono ?_
      clear HN
      rintro e v3 ⟨b, rfl, hbok, hbct, hbst, hv3⟩
      have c3 := c2.trans (hv3.mono c2.size)
      have hT : ToH2 w1 g b.s.g [[es, []]] A9 c9 zz r0 r0 0 a b v3 :=
        ⟨⟨haok9.below hv3, hbok.mono c2.size, hag, rfl, hact, by rw [hbct]; rfl, hast, by rw [hbst, ← HR0.out]; rfl, fun q hq hbq => by have := (haok9.lo hq).2; have := (hbok.lo hbq).1; omega, c3⟩, hW9'.below hv3,
          fun q hq hbq => by have := (World.ownsRow.lt hW9'.row q (bo _ _ hq)).2; have := (hbok.lo hbq).1; omega⟩
      have hI2 : ToI2 w1 g b.s.g [[es, []]] A9 c9 zz r0 r0 (.int .i64 0) v3 := ⟨0, a, b, Nat.zero_le _, rfl, hT⟩
      generalize b.s.g = gb at hI2 ⊢
      have gl : ¬ (xs.length : Int) < (zz.length : Int) := by have := HZL.out; have := HJJ.out; have := HEL.out; omega
      have hz60 : zz.length ≤ 60 := by have := HZL.out; have := HJJ.out; have := HEL.out; omega
      have dgl : decide (xs.length < zz.length) = false := decide_eq_false (by omega)
      clear hT haok9 hW9' hbok hbct hbst hv3 c2 c3 hag hact hast
      go_wp2_with fail
      go_loopw [139] (ToI2 w1 g gb [[es, []]] A9 c9 zz r0 r0) (fun i _ => zz.length - (intOf i).toNat)
      case atStart => exact hI2
      case round =>
        clear hI2 gl dgl
        obtain ⟨k, a, b, hk, rfl, h⟩ := hrel
        by_cases hkn : k < zz.length
        · obtain ⟨bb, oo, hA, hbl, p0, p1, p2, p3⟩ := h.ew.el.cells k zz[k] (List.getElem?_eq_getElem hkn)
          have hesx := h.ew.el.es _ (List.getElem_mem hkn)
          have hxe : entOf zz[k] ∈ (es.take jj).map bareE := by rw [← HZS.out]; exact List.mem_map_of_mem (List.getElem_mem hkn)
          obtain ⟨ee, hee, hebe⟩ := List.mem_map.1 hxe
          have hck : chkE (entOf zz[k]) = 0 := by rw [← hebe]; exact bareE_chk (HCK.out ee (List.mem_of_mem_take hee)).1
          have hdr : dropE (entOf zz[k]) = entOf zz[k] := by rw [← hebe]; exact bareE_drop ee
          have hADQ := add_one ((zz.map entOf).take k) (entOf zz[k]) hck hdr (by rw [List.length_take]; have := HZL.out; have := HJJ.out; have := HEL.out; omega)
          have al := (Below.refl wr.heap.size wr).alloc (Nat.le_refl _) (.cells (emC zz[k]) 42)
          have xb := (Box.new wr 42 (emC zz[k])).drew
          have ald := al.drew
          have hD := h.below ald
          have HAD := hideP (cadd_any b _ 0 zz[k] _ hD.bok (hesx.below ald))
          rw [hD.cb, hADQ.1, hADQ.2, hD.gb] at HAD
          have HNN := hideP (fun (b' : Cs) (w' : World) (TT : b.To (wr.alloc (.cells (emC zz[k]) 42)).drew w1.heap.size b' w' [[(zz.map entOf).take k ++ [entOf zz[k]]]] b.st) => show ToI2 w1 g gb [[es, []]] A9 c9 zz r0 r0 (.int .i64 ((k + 1 : Nat) : Int)) w' from ⟨k + 1, a, b', hkn, rfl, hD.next hkn TT⟩)
          subst hA
          generalize zz[k] = x at p0 p1 p2 p3 HAD HNN xb
          obtain ⟨Dx, cDx, dx, isM, mm⟩ := x
          simp only at p0 p1 p2 p3
          have x0 := xb.cell 0 (v := .slice Dx dx.length cDx) rfl
          have x1 := xb.cell 1 (v := .bool isM) rfl
          have x2 := xb.cell 2 (v := .slice mm.A mm.cs.length mm.ca) rfl
          have x3 := xb.cell 3 (v := .slice mm.O mm.os.length mm.co) rfl
          have g1 : (0 : Int) ≤ (k : Int) := by omega
          have g2 : (k : Int) < (zz.length : Int) := by omega
          unfold emV at HAD
          unfold emC at HAD HNN x0 x1 x2 x3
          simp only at HAD HNN x0 x1 x2 x3
          clear h hesx hxe hee hebe hck hdr hADQ al ald hD xb
          go_wp2_with fail
          go_region_law (
            (go_simp
             go_at_call 14
             refine HAD.out.mono ?_
             rintro e w7 ⟨c', rfl, TT⟩
             have hN := HNN.out c' w7 TT
             clear TT))
          all_goals
            go_wp2_with fail
            go_roundw
            case rel => exact hN
            case measure => simp [intOf]; omega
        · obtain rfl : k = zz.length := by omega
          obtain ⟨fs, hfs⟩ : ∃ fs, zz.map entOf = fs := ⟨_, rfl⟩
          have hfe : fs = (es.take jj).map bareE := by rw [← hfs, HZS.out]
          have hfl : fs.length = zz.length := by rw [← hfs, List.length_map]
          have hbc := h.cb
          rw [List.take_of_length_le (by rw [hfs]; omega), hfs] at hbc
          have HCL := hideP (cclose_any b _ 0 wr h.bok)
          obtain ⟨f1, f2, f3⟩ := close_one fs
          rw [hbc, f1, f2, f3, h.gb] at HCL
          have hT3 := fun (b' : Cs) (w' : World) (TT : b.To wr w1.heap.size b' w' [[fs, []]] b.st) => h.toToH.b_ TT
          have HNX := hideP (fun (b' : Cs) (w' : World) (TT : b.To wr w1.heap.size b' w' [[fs, []]] b.st) => show ToI3 w1 g gb zz.length [[es, []]] [[fs, []]] es fs r0 (.int .i64 0) w' from by
            have h2 := h.toToH.b_ TT
            rw [h.sb] at h2
            refine ⟨0, a, b', Nat.zero_le _, rfl, ?_⟩
            rw [List.take_zero, List.take_zero, playR_nil]
            exact h2)
          have HFE := hideP (And.intro hfe hfl)
          have HJE := hideP (show zz.length ≤ es.length by rw [HZL.out]; exact HJJ.out)
          clear h f1 f2 f3 hbc hT3 hfs hfe hfl
          go_wp2_with fail
          refine HCL.out.mono ?_
          clear HCL
          rintro e w10 ⟨b', rfl, TT⟩
          have hI3 := HNX.out b' w10 TT
          clear TT HNX
          go_wp2_with fail
          go_loopw [161] (ToI3 w1 g gb zz.length [[es, []]] [[fs, []]] es fs r0) (fun i _ => zz.length - (intOf i).toNat)
          case atStart => exact hI3
          case round =>
            clear hI3
            obtain ⟨k, a, b, hk, rfl, h⟩ := hrel
            have hr00 : r0.bs = [] := by rw [← HR0.out]
            by_cases hkn : k < zz.length
            · have hke : k < es.length := by have := HJE.out; omega
              have hkf : k < fs.length := by rw [HFE.out.2]; exact hkn
              obtain ⟨a1, a2, a3⟩ := to_step (es := es) hr00 hke
              obtain ⟨b1, b2, b3⟩ := to_step (es := fs) hr00 hkf
              have hpl : playR r0 (fs.take k) = playR r0 (es.take k) := by
                have e1 : fs.take k = (es.take k).map bareE := by rw [HFE.out.1, ← List.map_take, List.take_take, Nat.min_eq_left (by have := HZL.out; omega)]
                rw [e1]
                exact playR_bare _ (fun x hx => (HCK.out x (List.mem_of_mem_take hx)).1) r0
              have hfk : fs[k] = bareE es[k] := by
                have e1 : fs[k]? = some (bareE es[k]) := by rw [HFE.out.1, List.getElem?_map, List.getElem?_take, if_pos (by have := HZL.out; omega), List.getElem?_eq_getElem hke]; rfl
                rw [List.getElem?_eq_getElem hkf] at e1
                injection e1
              have b2' : cpB fs [playR r0 (fs.take k)] 0 = doneE (playR r0 (es.take k)).v es[k] := by rw [b2, hpl, hfk, (bareE_step (HCK.out _ (List.getElem_mem hke)).1 _).2]
              obtain ⟨dn, hdn⟩ : ∃ dn, doneE (playR r0 (es.take k)).v es[k] = dn := ⟨_, rfl⟩
              rw [hdn] at a2 b2'
              have HSA := cstep_any a _ 0 wr h.aok
              rw [h.ca, log_one, h.sa, a1, a2, a3, h.ga] at HSA
              have HSB := hideP (fun (a' : Cs) (W : World) (h2 : ToH w1 g gb [[es, []]] [[fs, []]] [playR r0 (es.take (k + 1))] [playR r0 (fs.take k)] a' b W) => show Calls Tryz.prog 18 #[.pointer (some ⟨gb, 0, none⟩), .int .i64 0] W fun e w' => ∃ b', e = .returned (.tuple #[.bool dn, .int .i64 0]) ∧ ToI3 w1 g gb zz.length [[es, []]] [[fs, []]] es fs r0 (.int .i64 ((k + 1 : Nat) : Int)) w' from by
                have HS := cstep_any b _ 0 W h2.bok
                rw [h2.cb, log_one, h2.sb, b1, b2', b3, h2.gb] at HS
                refine HS.mono ?_
                rintro e w' ⟨b', he, TT⟩
                exact ⟨b', he, k + 1, a', b', hkn, rfl, h2.b_ TT⟩)
              have HSA2 := hideP HSA
              have HAN := hideP (fun (a' : Cs) (W : World) (TT : a.To wr w1.heap.size a' W [[es, []]] [playR r0 (es.take (k + 1))]) => h.a_ TT)
              have db : (dn != dn) = false := by simp
              have g1 : (k : Int) < (zz.length : Int) := by omega
              clear h hdn a1 a2 a3 b1 b2 b2' b3 hpl hfk HSA hr00
              go_wp2_with fail
              refine HSA2.out.mono ?_
              clear HSA2
              rintro e w11 ⟨a', rfl, TT⟩
              have h2 := HAN.out a' w11 TT
              have HB := hideP (HSB.out a' w11 h2)
              clear TT HAN h2 HSB
              go_wp2_with fail
              refine HB.out.mono ?_
              clear HB
              rintro e w12 ⟨b', rfl, hN⟩
              go_wp2_with fail
              go_roundw
              case rel => exact hN
              case measure => simp [intOf]; omega
            · obtain rfl : k = zz.length := by omega
              have hpl : playR r0 (fs.take zz.length) = playR r0 (es.take zz.length) := by
                have e1 : fs.take zz.length = (es.take zz.length).map bareE := by rw [HFE.out.1, ← List.map_take, List.take_take, Nat.min_eq_left (by rw [HZL.out]; exact Nat.le_refl _)]
                rw [e1]
                exact playR_bare _ (fun x hx => (HCK.out x (List.mem_of_mem_take hx)).1) r0
              obtain ⟨ra, hra, hsa⟩ := Cs.at_st (c := a) (i := 0) (a := playR r0 (es.take zz.length)) (by rw [h.sa]; rfl)
              obtain ⟨rb, hrb, hsb⟩ := Cs.at_st (c := b) (i := 0) (a := playR r0 (fs.take zz.length)) (by rw [h.sb]; rfl)
              have hll : rb.l = ra.l := ((h.bok.ro 0 rb hrb).pb.ok).ext (h.aok.ro 0 ra hra).pb.ok fun x => by
                have e1 : valOf rb.l = (playR r0 (fs.take zz.length)).v := congrArg Sr.v hsb
                have e2 : valOf ra.l = (playR r0 (es.take zz.length)).v := congrArg Sr.v hsa
                rw [e1, e2, hpl]
              have HA := hideP (call_any a _ 0 ra wr h.aok hra)
              rw [h.ga] at HA
              have HBL := hideP (fun (W : World) (hb : Below wr.heap.size wr W) => call_any b _ 0 rb W (h.bok.below hb) hrb)
              rw [h.gb, hll] at HBL
              have hsm := (h.aok.ro 0 ra hra).pb.ok.small
              have hbe := HB1.out.trans (h.be.mono HB1.out.size)
              clear h hpl hra hrb hsa hsb hll
              generalize ra.l = la at HA HBL hsm
              go_wp2_with fail
              refine HA.out.mono ?_
              clear HA
              rintro e w11 ⟨A3, c3, rfl, o3, hb3⟩
              have HBB := hideP (HBL.out w11 hb3)
              have b3 := hbe.trans (hb3.mono hbe.size)
              have q3 := o3.sv
              clear HBL o3 hb3 hbe
              go_wp2_with fail
              refine HBB.out.mono ?_
              clear HBB
              rintro e w12 ⟨A4, c4, rfl, o4, hb4⟩
              have b4 := b3.trans (hb4.mono b3.size)
              have HE := hideP (equal_same A3 A4 c3 c4 la w12 (q3.below hb4).ps o4.sv.ps (by omega))
              clear q3 o4 hb4 b3
              go_wp2_with fail
              refine HE.out.mono ?_
              clear HE
              rintro e w13 ⟨rfl, hb5⟩
              have b5 := b4.trans (hb5.mono b4.size)
              go_wp2_with fail
              go_ret
              exact ⟨rfl, b5⟩
end Go.Proofs.YtefdipjhjgmokaaGreatDoor
