/-
  rotop.TopInputs: the walk.
-/
import Derived.Test.YtcopmdgcjnkiaaaGreatBv49
import Derived.Test.YtcopmdgcjnkiaaaGreatBv50
import Derived.Test.YtcopmdgcjnkiaaaGreatBv36
import Derived.Deep.QuietTactic
import Derived.BigQuiet
set_option linter.unusedVariables false
set_option linter.unusedSimpArgs false
namespace Go.Proofs.YtcopmdgcjnkiaaaGreat
open Go.RowKit

/-- two Copies side by side, and what comes to them -/
structure TiH (w : World) (ga gb : Nat) (Ad : Option Addr) (cdd : Nat) (dd : List Dl) (ca cb : List (List (List Ent))) (sa sb : List Sr) (a b : Cs) (wr : World) : Prop where
  aok : a.Ok wr w.heap.size
  bok : b.Ok wr w.heap.size
  ga : a.s.g = ga
  gb : b.s.g = gb
  ca : a.s.ct = ca
  cb : b.s.ct = cb
  sa : a.st = sa
  sb : b.st = sb
  ap : ∀ q, a.F q → ¬ b.F q
  dd : Dds wr w.heap.size Ad cdd dd
  be : Below w.heap.size w wr
section
variable {w wr w' : World} {ga gb cdd : Nat} {Ad : Option Addr} {dd : List Dl} {ca cb ct' : List (List (List Ent))} {sa sb st' : List Sr} {a b c' : Cs}
theorem TiH.below (h : TiH w ga gb Ad cdd dd ca cb sa sb a b wr) (hb : Below wr.heap.size wr w') : TiH w ga gb Ad cdd dd ca cb sa sb a b w' := ⟨h.aok.below hb, h.bok.below hb, h.ga, h.gb, h.ca, h.cb, h.sa, h.sb, h.ap, h.dd.below hb, h.be.trans (hb.mono h.be.size)⟩
theorem TiH.a_ (h : TiH w ga gb Ad cdd dd ca cb sa sb a b wr) (T : a.To wr w.heap.size c' w' ct' st') : TiH w ga gb Ad cdd dd ct' cb st' sb c' b w' :=
  ⟨T.ok, h.bok.fr T.fr (fun q hb ha => h.ap q ha hb) h.aok.offO h.aok.offS h.aok.offI h.aok.offP, T.g.trans h.ga, h.gb, T.ct, h.cb, T.st, h.sb, fun q hq hb => (T.F q hq).elim (fun e => h.ap q e hb) fun e => by have := (h.bok.lo hb).2; omega,
    h.dd.fr T.fr (h.aok.off (by decide) (by decide) (by decide) (by decide) (by decide) (by decide) (by decide)) h.aok.offO, T.below_ h.aok (Nat.le_refl _) h.be⟩
theorem TiH.b_ (h : TiH w ga gb Ad cdd dd ca cb sa sb a b wr) (T : b.To wr w.heap.size c' w' ct' st') : TiH w ga gb Ad cdd dd ca ct' sa st' a c' w' :=
  ⟨h.aok.fr T.fr (fun q ha hb => h.ap q ha hb) h.bok.offO h.bok.offS h.bok.offI h.bok.offP, T.ok, h.ga, T.g.trans h.gb, h.ca, T.ct, h.sa, T.st, fun q ha hq => (T.F q hq).elim (fun e => h.ap q ha e) fun e => by have := (h.aok.lo ha).2; omega,
    h.dd.fr T.fr (h.bok.off (by decide) (by decide) (by decide) (by decide) (by decide) (by decide) (by decide)) h.bok.offO, T.below_ h.bok (Nat.le_refl _) h.be⟩
end
/-- the entries of transactions -/
def dEs (dd : List Dl) : List Ent := dd.map fun x => ⟨false, x.d, [], []⟩
theorem one_step {es : List Ent} {r0 : Sr} (h0 : r0.bs = []) {k : Nat} (hk : k < es.length) :
    cpQ es [playR r0 (es.take k)] 0 = 0 ∧ cpB es [playR r0 (es.take k)] 0 = doneE (playR r0 (es.take k)).v es[k] ∧ cpS es [playR r0 (es.take k)] 0 = [playR r0 (es.take (k + 1))] := by
  have hl : (playR r0 (es.take k)).bs.length = k := by rw [playR_len, h0, List.length_take]; simp; omega
  obtain ⟨h1, h2, h3⟩ := cp_go (log := es) (st := [playR r0 (es.take k)]) (i := 0) (x := es[k]) rfl (by rw [hl]; exact List.getElem?_eq_getElem hk)
  exact ⟨h1, h2, by rw [show (0 : Int) = ((0 : Nat) : Int) from rfl, h3, playR_take _ _ _ hk]; rfl⟩
theorem one_wait {es : List Ent} {r0 : Sr} (h0 : r0.bs = []) {k : Nat} (hk : es.length ≤ k) :
    cpQ es [playR r0 (es.take k)] 0 = 6 ∧ cpB es [playR r0 (es.take k)] 0 = false ∧ cpS es [playR r0 (es.take k)] 0 = [playR r0 (es.take k)] := by
  have hl : (playR r0 (es.take k)).bs.length = es.length := by rw [playR_len, h0, List.length_take]; simp; omega
  exact cp_wait (log := es) (st := [playR r0 (es.take k)]) (i := 0) rfl (by rw [hl]; exact Nat.le_refl _)
def TiI1 (w : World) (ga gb : Nat) (Ad : Option Addr) (cdd : Nat) (dd : List Dl) (es : List Ent) (ra rb : Sr) (i : Value) (wr : World) : Prop :=
  ∃ (k : Nat) (a b : Cs), k ≤ dd.length ∧ i = .int .i64 k ∧ TiH w ga gb Ad cdd dd (tri (fA es k)) (tri (fB es dd.length 0 0)) [ra] [rb] a b wr
def TiI2 (w : World) (ga gb : Nat) (Ad : Option Addr) (cdd : Nat) (dd : List Dl) (es : List Ent) (ra rb : Sr) (i : Value) (wr : World) : Prop :=
  ∃ (k : Nat) (a b : Cs), k ≤ 3 ∧ i = .int .i64 k ∧ TiH w ga gb Ad cdd dd (tri (fC es dd.length k)) (tri (fB es dd.length 0 0)) [ra] [rb] a b wr
def TiI3 (w : World) (ga gb : Nat) (Ad : Option Addr) (cdd : Nat) (dd : List Dl) (es es' : List Ent) (ra rb : Sr) (t : Nat) (i : Value) (wr : World) : Prop :=
  ∃ (k : Nat) (a b : Cs), k ≤ 3 ∧ i = .int .i64 k ∧ TiH w ga gb Ad cdd dd (tri (fC es dd.length 3)) (tri (fB es dd.length k t)) [ra] [playR rb (es'.take (if k = 3 then 1 else 0))] a b wr
def TiI4 (w : World) (ga gb : Nat) (Ad : Option Addr) (cdd : Nat) (dd : List Dl) (es : List Ent) (ra rb : Sr) (k t i : Nat) (v : Value) (wr : World) : Prop :=
  ∃ (m : Nat) (a b : Cs), m ≤ dd.length ∧ v = .int .i64 m ∧ TiH w ga gb Ad cdd dd (tri (fC es dd.length 3)) (tri (fB2 es dd.length k t i m)) [ra] [rb] a b wr
def TiI5 (w : World) (ga gb : Nat) (Ad : Option Addr) (cdd : Nat) (dd : List Dl) (ca cb : List (List (List Ent))) (es' : List Ent) (ra rb : Sr) (i : Value) (wr : World) : Prop :=
  ∃ (k : Nat) (a b : Cs), k ≤ dd.length ∧ i = .int .i64 k ∧ TiH w ga gb Ad cdd dd ca cb [playR ra (es'.take k)] [playR rb (es'.take (k + 1))] a b wr
/-- one Add of a transaction -/
theorem ti_add (c : Cs) (B i : Nat) (f : Nat → List (List Ent)) (xD : Option Addr) (xc : Nat) (xd : List Opr) (W : World) (h : c.Ok W B) (hf : c.s.ct = tri f) (hi : i < 3) (ht : totM (tri f) ≤ 36) (hx : OS W W.heap.size xD xd) (hg : (∀ o ∈ xd, GoodO o) ∧ 1 ≤ xd.length ∧ xd.length ≤ 4) :
    Calls Tryz.prog 13 #[.pointer (some ⟨c.s.g, 0, none⟩), .int .i64 (i : Int), .agg #[.slice xD xd.length xc, .bool false, .slice none 0 0, .slice none 0 0]] W fun e w' => ∃ c', e = .returned (.int .i64 0) ∧ c.To W B c' w' (addM (tri f) i ⟨false, xd, [], []⟩) c.st := by
  have HAD := cadd_any c B (i : Int) ⟨xD, xc, xd, false, noM⟩ W h ⟨hx, (noM_mo W 0).ms, fun o ho => by have := (hg.1 o ho).n; omega⟩
  obtain ⟨e1, e2⟩ := addQ_ok (ct := tri f) (i := i) (x := entOf ⟨xD, xc, xd, false, noM⟩) (by simpa [tri] using hi) (good_deed (x := ⟨xD, xc, xd⟩) hg) (by omega)
  rw [hf, e1, e2] at HAD
  exact HAD
set_option maxHeartbeats 8000000 in
set_option maxRecDepth 100000 in
theorem tin_walk (P T D : Option Addr) (cp ct cd : Nat) (zs ts : List Int) (ds : List Cl) (t0 : Int) (w : World) (hP : IS w P zs) (hl : zs.length ≤ cp) (hc : cp ≤ 9223372036854775807) (hn : P = none → cp = 0)
    (hT : IS w T ts) (hlt : ts.length ≤ ct) (hct : ct ≤ 9223372036854775807) (hnt : T = none → ct = 0)
    (hD : LS w D ds) (hDl : ds.length ≤ cd) (hDc : cd ≤ 9223372036854775807) (hDn : D = none → cd = 0) :
    Calls Tryz.prog 7 #[.slice P zs.length cp, .slice T ts.length ct, .slice D ds.length cd, .int .i64 t0] w fun e w' => e = .returned (.bool true) ∧ Below w.heap.size w w' := by
  go_enter Tryz.func7, Tryz.ntmps7
  go_wp2_with fail
  refine (tbegun_any _).mono ?_
  rintro e w1 ⟨rfl, hb1⟩
  replace hP := hP.below hb1
  replace hT := hT.below hb1
  replace hD := hD.below hb1
  go_wp2_with fail
  refine (deeds_any D cd 12 ds _ hD hDl hDc hDn (by decide)).mono ?_
  rintro e w2 ⟨Ad, cdd, dd, rfl, hdd, hdl, hb2⟩
  have b2 := hb1.trans (hb2.mono hb1.size)
  have hdd2 : Dds w2 w.heap.size Ad cdd dd := ⟨hdd.or.mono hb1.size, fun x hx => (hdd.oo x hx).mono hb1.size, hdd.ap, hdd.pw, hdd.good⟩
  replace hP := hP.below hb2
  replace hT := hT.below hb2
  clear hD hDl hDc hDn hdd hb1 hb2
  go_wp2_with fail
  refine (kmap_is P cp zs _ hP (by omega)).mono ?_
  rintro e w3 ⟨A, ca, O, co, rfl, hmo, hb3⟩
  replace hT := hT.below hb3
  have b3 := b2.trans (hb3.mono b2.size)
  replace hdd2 := hdd2.below hb3
  clear hP b2
  go_wp2_with fail
  refine (pairs_is T ct ts _ hT hlt hct hnt).mono ?_
  rintro e w4 ⟨As, cs', s, rfl, hsv, hsm, hvs, hb4⟩
  replace hT := hT.below hb4
  have b4 := b3.trans (hb4.mono b3.size)
  replace hdd2 := hdd2.below hb4
  have HN := hideP (cnew_ok 3 1 ⟨A, ca, mpC zs, O, co, mpO zs⟩ As cs' s w4 (by decide) (by decide) (by decide) (by decide) (hmo.below hb4).ms hsv.ps (mp_ok zs) hsm.ok)
  simp only at HN
  clear hb4 hb3 hmo hsv b3
  go_wp2_with fail
  refine HN.out.mono ?_
  clear HN
  rintro e w5 ⟨a, rfl, hok, hcta, hsta, hb5⟩
  have b5 := b4.trans (hb5.mono b4.size)
  have hoka := hok.mono b4.size
  replace hT := hT.below hb5
  replace hdd2 := hdd2.below hb5
  clear hok hb5 b4
  go_wp2_with fail
  refine (show Calls Tryz.prog 10 #[.slice none 0 0] w5 (RetMi w5 []) from kmap_is none 0 [] w5 (fun i z hz => by simp at hz) (by simp)).mono ?_
  rintro e w6 ⟨A6, ca6, O6, co6, rfl, hmo, hb6⟩
  replace hT := hT.below hb6
  have b6 := b5.trans (hb6.mono b5.size)
  replace hdd2 := hdd2.below hb6
  replace hoka := hoka.below hb6
  clear b5
  go_wp2_with fail
  refine (pairs_is T ct ts _ hT hlt hct hnt).mono ?_
  rintro e w7 ⟨As7, cs7, s7, rfl, hsv, hsm7, hvs7, hb7⟩
  have b7 := b6.trans (hb7.mono b6.size)
  replace hdd2 := hdd2.below hb7
  replace hoka := hoka.below hb7
  have HN := hideP (cnew_ok 3 1 ⟨A6, ca6, mpC [], O6, co6, mpO []⟩ As7 cs7 s7 w7 (by decide) (by decide) (by decide) (by decide) (hmo.below hb7).ms hsv.ps (mp_ok []) hsm7.ok)
  simp only at HN
  clear hb7 hb6 hmo hsv b6 hT
  go_wp2_with fail
  refine HN.out.mono ?_
  clear HN
  rintro e w8 ⟨b, rfl, hok, hctb, hstb, hb8⟩
  have b8 := b7.trans (hb8.mono b7.size)
  have hap : ∀ q, a.F q → ¬ b.F q := fun q ha hb => by
    have h1 := (hoka.lo ha).2
    have h2 := (hok.lo hb).1
    omega
  have hokb := hok.mono b7.size
  replace hdd2 := hdd2.below hb8
  replace hoka := hoka.below hb8
  generalize hra : (⟨valOf s, mpC zs, mpO zs, []⟩ : Sr) = ra at hsta
  generalize hrb : (⟨valOf s7, mpC [], mpO [], []⟩ : Sr) = rb at hstb
  have HRR := hideP (show ra.v = rb.v ∧ ra.bs = [] ∧ rb.bs = [] from by
    rw [← hra, ← hrb]
    exact ⟨by funext k; simp only; rw [hvs, hvs7], rfl, rfl⟩)
  obtain ⟨es, hes⟩ : ∃ es, dEs dd = es := ⟨_, rfl⟩
  have hel : es.length = dd.length := by rw [← hes]; simp [dEs]
  have HES := hideP (show ∀ k (hk : k < dd.length) (hk2 : k < es.length), es[k] = ⟨false, dd[k].d, [], []⟩ from fun k hk hk2 => by subst hes; simp [dEs])
  have HDM := hideP (show ∀ x ∈ es, x.isM = false from fun x hx => by
    rw [← hes] at hx
    obtain ⟨y, _, rfl⟩ := List.mem_map.1 hx
    rfl)
  have hI : TiI1 w a.s.g b.s.g Ad cdd dd es ra rb (.int .i64 0) w8 := ⟨0, a, b, Nat.zero_le _, rfl, hoka, hokb, rfl, rfl, by rw [hcta]; rfl, by rw [hctb]; rfl, by rw [hsta]; rfl, by rw [hstb]; rfl, hap, hdd2, b8⟩
  generalize a.s.g = ga at hI ⊢
  generalize b.s.g = gb at hI ⊢
  clear hoka hokb hcta hctb hsta hstb hap hdd2 b8 hok hra hrb hvs hvs7 hsm hsm7 hes hb8 b7 hl hc hn hlt hct hnt
  go_wp2_with fail
  go_loopw [60] (TiI1 w ga gb Ad cdd dd es ra rb) (fun i _ => dd.length - (intOf i).toNat)
  case atStart => exact hI
  case round =>
    clear hI
    obtain ⟨k, a, b, hk, rfl, h⟩ := hrel
    by_cases hkl : k < dd.length
    · obtain ⟨b0, o0, hA0, hbl0, p0⟩ := h.dd.or.vs k (dlV dd[k]) (by simp [hkl])
      have hoo := h.dd.oo _ (List.getElem_mem hkl)
      have hgo := h.dd.good _ (List.getElem_mem hkl)
      have he := HES.out k hkl (by omega)
      have hFA := fA_add (es := es) (k := k) (by omega)
      rw [he] at hFA
      generalize dd[k] = x at p0 hoo hgo hFA
      obtain ⟨xD, xc, xd⟩ := x
      unfold dlV at p0
      simp only at p0 hoo hgo hFA
      have al := (Below.refl wr.heap.size wr).alloc (Nat.le_refl _) (.cells #[.slice xD xd.length xc] 39)
      have ald := al.drew
      have hB := h.below ald
      have xb := Box.new wr 39 #[.slice xD xd.length xc]
      have x0 := xb.cell 0 (v := .slice xD xd.length xc) rfl
      have HAD := hideP (ti_add a _ (k % 3) (fA es k) xD xc xd _ hB.aok hB.ca (by omega) (fA_tot es (by omega)) (hoo.os.go ald) hgo)
      rw [hFA, hB.ga] at HAD
      have HNX := hideP (fun (c' : Cs) (w' : World) (TT : a.To (wr.alloc (.cells #[.slice xD xd.length xc] 39)).drew w.heap.size c' w' (tri (fA es (k + 1))) a.st) => show TiH w ga gb Ad cdd dd (tri (fA es (k + 1))) (tri (fB es dd.length 0 0)) [ra] [rb] c' b w' from by
        have := hB.a_ TT
        rw [hB.sa] at this
        exact this)
      have g1 : (0 : Int) ≤ (k : Int) := by omega
      have g2 : (k : Int) < (dd.length : Int) := by omega
      have gr : wrap64 ((k : Int).tmod 3) = ((k % 3 : Nat) : Int) := by
        have : (k : Int).tmod 3 = ((k % 3 : Nat) : Int) := by rw [Int.tmod_eq_emod_of_nonneg (by omega)]; omega
        rw [this]; unfold wrap64; omega
      subst hA0
      clear h hB hoo hgo he hFA al ald xb
      go_wp2_with fail
      go_region_law (
        (go_simp
         go_at_call 13
         refine HAD.out.mono ?_
         rintro e w6 ⟨c', rfl, TT⟩
         have hN := HNX.out c' w6 TT
         clear TT))
      all_goals
        go_wp2_with fail
        go_roundw
        case rel => exact ⟨k + 1, c', b, by omega, by go_num, hN⟩
        case measure => simp [intOf]; omega
    · obtain rfl : k = dd.length := by omega
      rw [fC_zero] at h
      go_wp2_with fail
      go_loopw [75] (TiI2 w ga gb Ad cdd dd es ra rb) (fun i _ => 3 - (intOf i).toNat)
      case atStart => exact ⟨0, a, b, by omega, rfl, h⟩
      case round =>
        clear h
        obtain ⟨i, a, b, hi3, rfl, h⟩ := hrel
        by_cases hi : i < 3
        · have HCL := hideP (cclose_any a _ (i : Int) wr h.aok)
          have hq : closeQ (tri (fC es dd.length i)) (i : Int) = 0 ∧ closeC (tri (fC es dd.length i)) (i : Int) = tri (fC es dd.length (i + 1)) := by
            obtain ⟨e1, _, e3⟩ := closeQ_ok (tri_get (f := fC es dd.length i) hi) (by unfold fC; rw [if_neg (by omega)]; simp)
            exact ⟨e1, by rw [e3, fC_close hi]⟩
          rw [h.ca, hq.1, hq.2, h.ga] at HCL
          have HNX := hideP (fun (c' : Cs) (w' : World) (TT : a.To wr w.heap.size c' w' (tri (fC es dd.length (i + 1))) a.st) => show TiH w ga gb Ad cdd dd (tri (fC es dd.length (i + 1))) (tri (fB es dd.length 0 0)) [ra] [rb] c' b w' from by
            have := h.a_ TT
            rw [h.sa] at this
            exact this)
          generalize closeN (tri (fC es dd.length i)) (i : Int) = cN at HCL
          have g2 : (i : Int) < 3 := by omega
          clear h hq
          go_wp2_with fail
          refine HCL.out.mono ?_
          rintro e w6 ⟨c', rfl, TT⟩
          have hN := HNX.out c' w6 TT
          clear TT HCL HNX
          go_wp2_with fail
          go_roundw
          case rel => exact ⟨i + 1, c', b, by omega, by go_num, hN⟩
          case measure => simp [intOf]; omega
        · have hi9 : i = 3 := by omega
          have gi9 : ¬ (i : Int) < 3 := by omega
          rw [hi9] at h
          clear hi9 hi3 hi
          have HWT := hideP (show ∀ W, Calls Tryz.prog 15 #[.int .i64 t0, .int .i64 3] W fun e w' => e = .returned (.int .i64 (wi t0 3)) ∧ W = w' from fun W => within_any t0 3 (by decide) (by decide) W)
          have ht := wi_lt t0 3 (by decide)
          generalize wi t0 3 = t at HWT ht
          have hes' : ∃ es', sel es 0 dd.length ++ sel es 1 dd.length ++ sel es 2 dd.length = es' := ⟨_, rfl⟩
          obtain ⟨es', hes'⟩ := hes'
          have hel' : es'.length = dd.length := by rw [← hes', List.length_append, List.length_append]; exact sel_tot es dd.length (by omega)
          have HDM' := hideP (show ∀ x ∈ es', x.isM = false from fun x hx => by
            rw [← hes'] at hx
            rcases List.mem_append.1 hx with hx | hx
            · rcases List.mem_append.1 hx with hx | hx
              · exact HDM.out x (sel_mem hx)
              · exact HDM.out x (sel_mem hx)
            · exact HDM.out x (sel_mem hx))
          have HLG := hideP hes'
          have hI : TiI3 w ga gb Ad cdd dd es es' ra rb t (.int .i64 0) wr := ⟨0, a, b, by omega, rfl, by
            rw [tri_congr (f := fB es dd.length 0 t) (g := fB es dd.length 0 0) fun j _ => rfl]
            exact h⟩
          clear h hes' HDM
          go_wp2_with fail
          go_loopw [89] (TiI3 w ga gb Ad cdd dd es es' ra rb t) (fun i _ => 3 - (intOf i).toNat)
          case atStart => exact hI
          case round =>
            clear hI
            obtain ⟨k, a, b, hk3, rfl, h⟩ := hrel
            by_cases hk : k < 3
            · obtain ⟨i, hie⟩ : ∃ i, (k + t) % 3 = i := ⟨_, rfl⟩
              have hi : i < 3 := by omega
              have g2 : (k : Int) < 3 := by omega
              have gs : IntKind.i64.wrap ((k : Int) + (t : Int)) = ((k + t : Nat) : Int) := by simp only [IntKind.wrap_i64]; omega
              have gi : ((k : Int) + (t : Int)) % 3 = (i : Int) := by omega
              rw [if_neg (by omega), List.take_zero, playR_nil, fB2_zero hk ht, hie] at h
              have HI := hideP (show TiI4 w ga gb Ad cdd dd es ra rb k t i (.int .i64 0) wr from ⟨0, a, b, Nat.zero_le _, rfl, h⟩)
              have HIE := hideP hie
              clear h hie
              go_wp2_with fail
              refine (HWT.out _).mono ?_
              rintro e w' ⟨rfl, rfl⟩
              go_wp2_with fail
              have hi3c := lt3 hi
              rcases hi3c with hi0 | hi0 | hi0
              all_goals
                first
                  | rw [show ((k : Int) + (t : Int)) % 3 = 0 by omega]
                  | rw [show ((k : Int) + (t : Int)) % 3 = 1 by omega]
                  | rw [show ((k : Int) + (t : Int)) % 3 = 2 by omega]
                replace hi0 := hideP hi0
                clear gs gi
                go_loopw [99] (TiI4 w ga gb Ad cdd dd es ra rb k t i) (fun v _ => dd.length - (intOf v).toNat)
                case atStart => exact HI.out
                case round =>
                  clear HI
                  obtain ⟨m, a, b, hm, rfl, h⟩ := hrel
                  by_cases hml : m < dd.length
                  · obtain ⟨b0, o0, hA0, hbl0, p0⟩ := h.dd.or.vs m (dlV dd[m]) (by simp [hml])
                    have hoo := h.dd.oo _ (List.getElem_mem hml)
                    have hgo := h.dd.good _ (List.getElem_mem hml)
                    have he := HES.out m hml (by omega)
                    have g1 : (0 : Int) ≤ (m : Int) := by omega
                    have g3 : (m : Int) < (dd.length : Int) := by omega
                    by_cases hmi : m % 3 = i
                    · have hFA := fB2_add (es := es) (n := dd.length) (k := k) (t := t) hi (m := m) (by omega) hmi
                      rw [he] at hFA
                      generalize dd[m] = x at p0 hoo hgo hFA
                      obtain ⟨xD, xc, xd⟩ := x
                      unfold dlV at p0
                      simp only at p0 hoo hgo hFA
                      have al := (Below.refl wr.heap.size wr).alloc (Nat.le_refl _) (.cells #[.slice xD xd.length xc] 39)
                      have ald := al.drew
                      have hB := h.below ald
                      have xb := Box.new wr 39 #[.slice xD xd.length xc]
                      have x0 := xb.cell 0 (v := .slice xD xd.length xc) rfl
                      have HAD := hideP (ti_add b _ i (fB2 es dd.length k t i m) xD xc xd _ hB.bok hB.cb hi (fB2_tot es (by omega) (by omega)) (hoo.os.go ald) hgo)
                      rw [hFA, hB.gb] at HAD
                      have HNX := hideP (fun (c' : Cs) (w' : World) (TT : b.To (wr.alloc (.cells #[.slice xD xd.length xc] 39)).drew w.heap.size c' w' (tri (fB2 es dd.length k t i (m + 1))) b.st) => show TiH w ga gb Ad cdd dd (tri (fC es dd.length 3)) (tri (fB2 es dd.length k t i (m + 1))) [ra] [rb] a c' w' from by
                        have := hB.b_ TT
                        rw [hB.sb] at this
                        exact this)
                      subst hA0
                      have HX0 := hideP (fun (c' : Cs) (w' : World) (TT : b.To (wr.alloc (.cells #[.slice xD xd.length xc] 39)).drew w.heap.size c' w' (tri (fB2 es dd.length k t i (m + 1))) b.st) => (TT.fr.box_ty (xb.drew) (hB.bok.off (by decide) (by decide) (by decide) (by decide) (by decide) (by decide) (by decide))).cell 0 (v := .slice xD xd.length xc) rfl)
                      have HADZ := hideP (fun (z : Int) (hz : z = (i : Int)) => show Calls Tryz.prog 13 #[.pointer (some ⟨gb, 0, none⟩), .int .i64 z, .agg #[.slice xD xd.length xc, .bool false, .slice none 0 0, .slice none 0 0]] (wr.alloc (.cells #[.slice xD xd.length xc] 39)).drew fun e w' => ∃ c', e = .returned (.int .i64 0) ∧ b.To (wr.alloc (.cells #[.slice xD xd.length xc] 39)).drew w.heap.size c' w' (tri (fB2 es dd.length k t i (m + 1))) b.st from by rw [hz]; exact HAD.out)
                      have hm12 : m = 0 ∨ m = 1 ∨ m = 2 ∨ m = 3 ∨ m = 4 ∨ m = 5 ∨ m = 6 ∨ m = 7 ∨ m = 8 ∨ m = 9 ∨ m = 10 ∨ m = 11 := by omega
                      have h3i := hi0.out
                      clear h hB hoo hgo he hFA al ald xb
                      rcases hm12 with rfl | rfl | rfl | rfl | rfl | rfl | rfl | rfl | rfl | rfl | rfl | rfl
                      all_goals first
                        | (exfalso; omega)
                        | (clear hmi h3i HAD
                           try simp only [Nat.add_zero] at p0
                           go_wp2_with fail
                           generalize wr.alloc _ = w9 at HADZ HNX HX0 x0 ⊢
                           generalize wr.heap.size = gdd at HX0 x0 ⊢
                           have x0d : w9.drew.cell? ⟨gdd, 0, none⟩ = some (.slice xD xd.length xc) := x0
                           go_region_held3 (fun W => W.cell? ⟨gdd, 0, none⟩ = some (.slice xD xd.length xc)) (first | with_reducible exact x0c | with_reducible exact x0d) (
                             (go_at_call 13; refine (HADZ.out _ (by rw [hi0.out]; rfl)).mono ?_; rintro e w6 ⟨c', rfl, TT⟩; have hN := HNX.out c' w6 TT; have x0c := HX0.out c' w6 TT))
                           all_goals
                             clear TT HADZ HNX HX0 x0 x0d x0c
                             go_wp2_with fail
                             go_roundw
                             case rel => exact ⟨_, a, c', by omega, by go_num, hN⟩
                             case measure => simp [intOf]; omega)
                    · have hFA := fB2_skip (es := es) (n := dd.length) (k := k) (t := t) (i := i) (m := m) (by omega) hmi
                      generalize dd[m] = x at p0 hoo hgo
                      obtain ⟨xD, xc, xd⟩ := x
                      unfold dlV at p0
                      simp only at p0
                      have al := (Below.refl wr.heap.size wr).alloc (Nat.le_refl _) (.cells #[.slice xD xd.length xc] 39)
                      have hN0 := h.below al
                      rw [hFA] at hN0
                      have xb := Box.new wr 39 #[.slice xD xd.length xc]
                      have x0 := xb.cell 0 (v := .slice xD xd.length xc) rfl
                      have hne := hi0.out
                      first
                        | (have cb1 : ((m : Int) % 3 == 0) = false := beq_eq_false_iff_ne.2 (by omega); have cb2 : decide ((m : Int) % 3 = 0) = false := decide_eq_false (by omega))
                        | (have cb1 : ((m : Int) % 3 == 1) = false := beq_eq_false_iff_ne.2 (by omega); have cb2 : decide ((m : Int) % 3 = 1) = false := decide_eq_false (by omega))
                        | (have cb1 : ((m : Int) % 3 == 2) = false := beq_eq_false_iff_ne.2 (by omega); have cb2 : decide ((m : Int) % 3 = 2) = false := decide_eq_false (by omega))
                      subst hA0
                      have HNN := hideP (fun (n : Nat) => hN0.below (below_dn (Below.refl _ _) n))
                      clear h hoo hgo he hFA al xb hmi hN0 hne
                      go_wp2_with fail
                      go_quiet (fail)
                      have hN := HNN.out nq
                      clear HNN
                      go_wp2_with fail
                      go_roundw
                      case rel => exact ⟨m + 1, a, b, by omega, by go_num, hN⟩
                      case measure => simp [intOf]; omega
                  · obtain rfl : m = dd.length := by omega
                    have HCL := hideP (cclose_any b _ (i : Int) wr h.bok)
                    have hcl := fB2_close (es := es) (n := dd.length) hk ht
                    rw [HIE.out] at hcl
                    have hq : closeQ (tri (fB2 es dd.length k t i dd.length)) (i : Int) = 0 ∧ closeC (tri (fB2 es dd.length k t i dd.length)) (i : Int) = tri (fB es dd.length (k + 1) t) := by
                      obtain ⟨e1, _, e3⟩ := closeQ_ok (tri_get (f := fB2 es dd.length k t i dd.length) hi) (by unfold fB2 upF; rw [if_pos rfl]; simp)
                      exact ⟨e1, by rw [e3, hcl]⟩
                    rw [h.cb, hq.1, hq.2, h.gb] at HCL
                    rw [hi0.out] at HCL
                    have HNX := hideP (fun (c' : Cs) (w' : World) (TT : b.To wr w.heap.size c' w' (tri (fB es dd.length (k + 1) t)) b.st) => show TiH w ga gb Ad cdd dd (tri (fC es dd.length 3)) (tri (fB es dd.length (k + 1) t)) [ra] [rb] a c' w' from by
                      have := h.b_ TT
                      rw [h.sb] at this
                      exact this)
                    generalize closeN (tri (fB2 es dd.length k t i dd.length)) (i : Int) = cN at HCL
                    -- the step behind it
                    have HST := hideP (fun (b : Cs) (W : World) (h : TiH w ga gb Ad cdd dd (tri (fC es dd.length 3)) (tri (fB es dd.length (k + 1) t)) [ra] [rb] a b W) => show ∃ (bb : Bool) (z : Int), (if k = 2 ∧ 0 < dd.length then z = 0 else z = 6) ∧ Calls Tryz.prog 16 #[.pointer (some ⟨gb, 0, none⟩), .int .i64 0] W fun e w' => ∃ c', e = .returned (.tuple #[.bool bb, .int .i64 z]) ∧ TiH w ga gb Ad cdd dd (tri (fC es dd.length 3)) (tri (fB es dd.length (k + 1) t)) [ra] [playR rb (es'.take (if k + 1 = 3 then 1 else 0))] a c' w' from by
                      have hS := cstep_any b _ 0 W h.bok
                      rw [h.cb, h.sb, h.gb] at hS
                      by_cases hk2 : k = 2
                      · subst hk2
                        rw [fB_all es dd.length ht, HLG.out] at hS
                        by_cases hn0 : 0 < dd.length
                        · obtain ⟨q1, q2, q3⟩ := one_step (es := es') HRR.out.2.2 (k := 0) (by omega)
                          rw [List.take_zero, playR_nil] at q1 q2 q3
                          refine ⟨cpB es' [rb] 0, 0, by rw [if_pos ⟨rfl, hn0⟩], ?_⟩
                          rw [q1, q3] at hS
                          refine hS.mono ?_
                          rintro e w' ⟨c', rfl, TT⟩
                          exact ⟨c', rfl, by
                            have := h.b_ TT
                            exact this⟩
                        · obtain ⟨q1, q2, q3⟩ := one_wait (es := es') HRR.out.2.2 (k := 0) (by omega)
                          rw [List.take_zero, playR_nil] at q1 q2 q3
                          refine ⟨cpB es' [rb] 0, 6, by rw [if_neg (fun e => hn0 e.2)], ?_⟩
                          rw [q1, q3] at hS
                          refine hS.mono ?_
                          rintro e w' ⟨c', rfl, TT⟩
                          have e0 : es' = [] := List.length_eq_zero_iff.1 (by omega)
                          exact ⟨c', rfl, by
                            have := h.b_ TT
                            rw [e0, List.take_nil, playR_nil]
                            exact this⟩
                      · rw [fB_none es dd.length (show k + 1 < 3 by omega) ht] at hS
                        obtain ⟨q1, q2, q3⟩ := one_wait (es := []) HRR.out.2.2 (k := 0) (by simp)
                        rw [List.take_zero, playR_nil] at q1 q2 q3
                        refine ⟨cpB [] [rb] 0, 6, by rw [if_neg (fun e => hk2 e.1)], ?_⟩
                        rw [q1, q3] at hS
                        refine hS.mono ?_
                        rintro e w' ⟨c', rfl, TT⟩
                        rw [if_neg (by omega), List.take_zero, playR_nil]
                        exact ⟨c', rfl, by
                          have := h.b_ TT
                          exact this⟩)
                    clear h hq hcl
                    go_wp2_with fail
                    refine HCL.out.mono ?_
                    rintro e w6 ⟨c6, rfl, TT⟩
                    have h6 := HNX.out c6 w6 TT
                    clear TT HCL HNX
                    obtain ⟨bb, z, hz, HS⟩ := HST.out c6 w6 h6
                    have HSS := hideP HS
                    clear HST HS h6
                    by_cases hc2 : k = 2 ∧ 0 < dd.length
                    · rw [if_pos hc2] at hz
                      subst hz
                      have d2 : (0 : Int) < (dd.length : Int) := by omega
                      have d3 : decide ((0 : Int) < (dd.length : Int)) = true := decide_eq_true d2
                      have d4 : decide (0 < dd.length) = true := decide_eq_true hc2.2
                      have d5 : 0 < dd.length := hc2.2
                      have cb1 : ((k : Int) == 2) = true := beq_iff_eq.2 (by omega)
                      have cb2 : decide ((k : Int) = 2) = true := decide_eq_true (by omega)
                      clear hc2
                      go_wp2_with fail
                      refine HSS.out.mono ?_
                      clear HSS
                      rintro e w7 ⟨c7, rfl, hN⟩
                      go_wp2_with fail
                      go_roundw
                      case rel => exact ⟨k + 1, a, c7, by omega, by go_num, hN⟩
                      case measure => simp [intOf]; omega
                    · rw [if_neg hc2] at hz
                      subst hz
                      by_cases hk2 : k = 2
                      · have d2 : ¬ (0 : Int) < (dd.length : Int) := by omega
                        have d3 : decide ((0 : Int) < (dd.length : Int)) = false := decide_eq_false d2
                        have d5 : ¬ 0 < dd.length := by omega
                        have d4 : decide (0 < dd.length) = false := decide_eq_false d5
                        have cb1 : ((k : Int) == 2) = true := beq_iff_eq.2 (by omega)
                        have cb2 : decide ((k : Int) = 2) = true := decide_eq_true (by omega)
                        clear hk2 hc2
                        go_wp2_with fail
                        refine HSS.out.mono ?_
                        clear HSS
                        rintro e w7 ⟨c7, rfl, hN⟩
                        go_wp2_with fail
                        go_roundw
                        case rel => exact ⟨k + 1, a, c7, by omega, by go_num, hN⟩
                        case measure => simp [intOf]; omega
                      · have d1 : ¬ (k : Int) = 2 := by omega
                        have cb1 : ((k : Int) == 2) = false := beq_eq_false_iff_ne.2 d1
                        have cb2 : decide ((k : Int) = 2) = false := decide_eq_false d1
                        clear hk2 hc2
                        go_wp2_with fail
                        refine HSS.out.mono ?_
                        clear HSS
                        rintro e w7 ⟨c7, rfl, hN⟩
                        go_wp2_with fail
                        go_roundw
                        case rel => exact ⟨k + 1, a, c7, by omega, by go_num, hN⟩
                        case measure => simp [intOf]; omega
            · have hk9 : k = 3 := by omega
              have gk9 : ¬ (k : Int) < 3 := by omega
              rw [hk9, if_pos rfl] at h
              clear hk9 hk3 hk
              have hl2 := h
              have HLA := hideP (show logM (tri (fC es dd.length 3)) = es' from by rw [fC_all]; exact HLG.out)
              have HLB := hideP (show logM (tri (fB es dd.length 3 t)) = es' from by rw [fB_all es dd.length ht]; exact HLG.out)
              have hI5 : TiI5 w ga gb Ad cdd dd (tri (fC es dd.length 3)) (tri (fB es dd.length 3 t)) es' ra rb (.int .i64 0) wr := ⟨0, a, b, Nat.zero_le _, rfl, h⟩
              generalize tri (fC es dd.length 3) = cA at HLA hI5
              generalize tri (fB es dd.length 3 t) = cB at HLB hI5
              clear h hl2 HLG HWT HES
              go_wp2_with fail
              go_loopw [147] (TiI5 w ga gb Ad cdd dd cA cB es' ra rb) (fun v _ => dd.length - (intOf v).toNat)
              case atStart => exact hI5
              case round =>
                clear hI5
                obtain ⟨j, a, b, hj, rfl, h⟩ := hrel
                by_cases hjl : j < dd.length
                · have g1 : (j : Int) < (dd.length : Int) := by omega
                  have HSA := hideP (show ∃ bb : Bool, Calls Tryz.prog 16 #[.pointer (some ⟨ga, 0, none⟩), .int .i64 0] wr fun e w' => ∃ c', e = .returned (.tuple #[.bool bb, .int .i64 0]) ∧ TiH w ga gb Ad cdd dd cA cB [playR ra (es'.take (j + 1))] [playR rb (es'.take (j + 1))] c' b w' from by
                    have hS := cstep_any a _ 0 wr h.aok
                    obtain ⟨q1, q2, q3⟩ := one_step (es := es') HRR.out.2.1 (k := j) (by omega)
                    rw [h.ca, h.sa, h.ga, HLA.out, q1, q3] at hS
                    refine ⟨cpB es' [playR ra (es'.take j)] 0, hS.mono ?_⟩
                    rintro e w' ⟨c', rfl, TT⟩
                    exact ⟨c', rfl, by
                      have := h.a_ TT
                      exact this⟩)
                  have HSB := hideP (fun (a : Cs) (W : World) (h : TiH w ga gb Ad cdd dd cA cB [playR ra (es'.take (j + 1))] [playR rb (es'.take (j + 1))] a b W) => show ∃ (bb : Bool) (z : Int), Calls Tryz.prog 16 #[.pointer (some ⟨gb, 0, none⟩), .int .i64 0] W fun e w' => ∃ c', e = .returned (.tuple #[.bool bb, .int .i64 z]) ∧ TiH w ga gb Ad cdd dd cA cB [playR ra (es'.take (j + 1))] [playR rb (es'.take (j + 1 + 1))] a c' w' from by
                    have hS := cstep_any b _ 0 W h.bok
                    rw [h.cb, h.sb, h.gb, HLB.out] at hS
                    by_cases hjn : j + 1 < es'.length
                    · obtain ⟨q1, q2, q3⟩ := one_step (es := es') HRR.out.2.2 (k := j + 1) hjn
                      rw [q3] at hS
                      refine ⟨cpB es' [playR rb (es'.take (j + 1))] 0, cpQ es' [playR rb (es'.take (j + 1))] 0, hS.mono ?_⟩
                      rintro e w' ⟨c', rfl, TT⟩
                      exact ⟨c', rfl, by
                        have := h.b_ TT
                        exact this⟩
                    · obtain ⟨q1, q2, q3⟩ := one_wait (es := es') HRR.out.2.2 (k := j + 1) (by omega)
                      rw [q3] at hS
                      refine ⟨cpB es' [playR rb (es'.take (j + 1))] 0, cpQ es' [playR rb (es'.take (j + 1))] 0, hS.mono ?_⟩
                      rintro e w' ⟨c', rfl, TT⟩
                      exact ⟨c', rfl, by
                        have := h.b_ TT
                        rw [show es'.take (j + 1 + 1) = es'.take (j + 1) by rw [List.take_of_length_le (show es'.length ≤ j + 1 + 1 by omega), List.take_of_length_le (show es'.length ≤ j + 1 by omega)]]
                        exact this⟩)
                  obtain ⟨bb, HA⟩ := HSA.out
                  have HAA := hideP HA
                  clear h HSA HA
                  go_wp2_with fail
                  refine HAA.out.mono ?_
                  clear HAA
                  rintro e w6 ⟨c6, rfl, h6⟩
                  obtain ⟨bb2, z2, HB⟩ := HSB.out c6 w6 h6
                  have HBB := hideP HB
                  clear HSB HB h6
                  go_wp2_with fail
                  refine HBB.out.mono ?_
                  clear HBB
                  rintro e w7 ⟨c7, rfl, h7⟩
                  go_wp2_with fail
                  go_roundw
                  case rel => exact ⟨j + 1, c6, c7, by omega, by go_num, h7⟩
                  case measure => simp [intOf]; omega
                · obtain rfl : j = dd.length := by omega
                  have hsa := h.sa
                  have hsb := h.sb
                  rw [List.take_of_length_le (by omega)] at hsa hsb
                  obtain ⟨pv, pb⟩ := play_deeds es' ra rb HRR.out.1 (HRR.out.2.1.trans HRR.out.2.2.symm) HDM'.out
                  obtain ⟨qa, hqa, ea⟩ := Cs.at_st (c := a) (i := 0) (a := playR ra es') (by rw [hsa]; rfl)
                  obtain ⟨qb, hqb, eb⟩ := Cs.at_st (c := b) (i := 0) (a := playR rb es') (by rw [hsb]; rfl)
                  have el : qb.l = qa.l := (h.bok.ro 0 qb hqb).pb.ok.ext (h.aok.ro 0 qa hqa).pb.ok fun x => by
                    have e1 : valOf qb.l = (playR rb es').v := congrArg Sr.v eb
                    have e2 : valOf qa.l = (playR ra es').v := congrArg Sr.v ea
                    rw [e1, e2, pv]
                  have ebs : qb.bs = qa.bs := by
                    have e1 : qb.bs = (playR rb es').bs := congrArg Sr.bs eb
                    have e2 : qa.bs = (playR ra es').bs := congrArg Sr.bs ea
                    rw [e1, e2, pb]
                  have hlen : qa.bs.length = dd.length := by
                    have e2 : qa.bs = (playR ra es').bs := congrArg Sr.bs ea
                    rw [e2, playR_len, HRR.out.2.1, hel']; simp
                  have HA0 := hideP (fun (W : World) (h : a.Ok W w.heap.size) => call_any a w.heap.size 0 qa W h hqa)
                  have HA1 := hideP (fun (W : World) (h : b.Ok W w.heap.size) => call_any b w.heap.size 0 qb W h hqb)
                  have HD0 := hideP (fun (W : World) (h : a.Ok W w.heap.size) => cdone_any a w.heap.size 0 qa W h hqa)
                  have HD1 := hideP (fun (W : World) (h : b.Ok W w.heap.size) => cdone_any b w.heap.size 0 qb W h hqb)
                  rw [h.ga] at HA0 HD0
                  rw [h.gb] at HA1 HD1
                  rw [el] at HA1
                  rw [ebs, hlen] at HD1
                  rw [hlen] at HD0
                  have hsl := (h.aok.ro 0 qa hqa).pb.ok.small
                  have HLN := hideP hlen
                  have HDL := hideP hdl
                  clear hqa hqb ea eb el ebs pv pb hsa hsb hlen HRR HDM' hel hel' HLA HLB
                  go_wp2_with fail
                  refine (HA0.out _ h.aok).mono ?_
                  rintro e v1 ⟨A1, c1, rfl, o1, hb1⟩
                  have s1 := o1.sv
                  replace h := h.below hb1
                  clear o1 hb1 HA0
                  go_wp2_with fail
                  refine (HA1.out _ h.bok).mono ?_
                  rintro e v2 ⟨A2, c2, rfl, o2, hb2⟩
                  have s2 := o2.sv
                  replace s1 := s1.below hb2
                  replace h := h.below hb2
                  clear o2 hb2 HA1
                  go_wp2_with fail
                  refine (HD0.out _ h.aok).mono ?_
                  rintro e v3 ⟨A3, c3, rfl, o3, hb3⟩
                  have s3 := o3.vs
                  replace s1 := s1.below hb3
                  replace s2 := s2.below hb3
                  replace h := h.below hb3
                  clear o3 hb3 HD0
                  go_wp2_with fail
                  refine (HD1.out _ h.bok).mono ?_
                  rintro e v4 ⟨A4, c4, rfl, o4, hb4⟩
                  have s4 := o4.vs
                  replace s1 := s1.below hb4
                  replace s2 := s2.below hb4
                  replace s3 := s3.below hb4
                  replace h := h.below hb4
                  clear o4 hb4 HD1
                  have HE1 := hideP (equal_same A1 A2 c1 c2 qa.l v4 s1.ps s2.ps (by omega))
                  have HE2 := hideP (fun (W : World) (hb : Below v4.heap.size v4 W) => bequal_same A3 A4 c3 c4 qa.bs W (s3.below hb) (s4.below hb) (by have := HLN.out; have := HDL.out; omega))
                  rw [HLN.out] at HE2
                  clear s1 s2 s3 s4
                  go_wp2_with fail
                  refine HE1.out.mono ?_
                  rintro e v5 ⟨rfl, hb5⟩
                  replace h := h.below hb5
                  clear HE1
                  go_wp2_with fail
                  refine (HE2.out v5 hb5).mono ?_
                  rintro e v6 ⟨rfl, hb6⟩
                  replace h := h.below hb6
                  have hbe := h.be
                  clear HE2 hb5 hb6 h
                  go_wp2_with fail
                  go_ret
                  exact ⟨by first | rfl | simp, hbe⟩
end Go.Proofs.YtcopmdgcjnkiaaaGreat
