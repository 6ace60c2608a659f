/-
  rokeep.CopiesSame: the walk.
-/
import Derived.Test.YtcopmdgcjnkiaaaGreatBs49
import Derived.Test.YtcopmdgcjnkiaaaGreatBs50
import Derived.Test.YtcopmdgcjnkiaaaGreatBs29
import Derived.Lib.MinMax
set_option linter.unusedVariables false
set_option linter.unusedSimpArgs false
namespace Go.Proofs.YtcopmdgcjnkiaaaGreat
open Go.RowKit

/-- what three replicas are, by how much each has done -/
def stD (r0 : Sr) (es : List Ent) (d : List Nat) : List Sr := d.map fun n => playR r0 (es.take n)
def dC (d : List Nat) : Array Value := (d.map fun n => Value.int .i64 (n : Nat)).toArray
theorem dC_get (d : List Nat) {i q : Nat} (h : d[i]? = some q) : (dC d)[i]? = some (.int .i64 (q : Int)) := by simp [dC, h]
theorem dC_set (d : List Nat) (i q : Nat) : (dC d).setIfInBounds i (.int .i64 (q : Int)) = dC (d.set i q) := by simp [dC, List.map_set]
/-- between the picks -/
structure PkH (w : World) (g : Nat) (es : List Ent) (A : Option Addr) (ce : Nat) (xs : List Em) (r0 : Sr) (gd : Nat) (d : List Nat) (c : Cs) (wr : World) : Prop where
  st : StH w g es A ce xs (stD r0 es d) c wr
  bx : Box wr gd 51 (dC d)
  lo : w.heap.size ≤ gd
  len : d.length = 3
  le : ∀ n ∈ d, n ≤ es.length
section
variable {w wr w' : World} {g ce gd : Nat} {es : List Ent} {A : Option Addr} {xs : List Em} {r0 : Sr} {d : List Nat} {c c' : Cs} {i q : Nat}
theorem PkH.below (h : PkH w g es A ce xs r0 gd d c wr) (hb : Below wr.heap.size wr w') : PkH w g es A ce xs r0 gd d c w' := ⟨h.st.below hb, h.bx.below hb, h.lo, h.len, h.le⟩
theorem PkH.step (h : PkH w g es A ce xs r0 gd d c wr) {st' : List Sr} (T : c.To wr w.heap.size c' w' c.s.ct st') : StH w g es A ce xs st' c' w' ∧ Box w' gd 51 (dC d) :=
  ⟨h.st.next T, T.fr.box_ty h.bx (h.st.ok.off (by decide) (by decide) (by decide) (by decide) (by decide) (by decide) (by decide))⟩
theorem PkH.more (hs : StH w g es A ce xs (stD r0 es (d.set i (q + 1))) c wr) (hb : Box wr gd 51 (dC d)) (hlo : w.heap.size ≤ gd) (hl : d.length = 3) (hle : ∀ n ∈ d, n ≤ es.length) (hq : q < es.length) :
    PkH w g es A ce xs r0 gd (d.set i (q + 1)) c (wr.setCell ⟨gd, i, none⟩ (.int .i64 ((q + 1 : Nat) : Int))) := by
  have tr := hb.ty
  have f3 : Fr (fun k => k = gd) wr (wr.setCell ⟨gd, i, none⟩ (.int .i64 ((q + 1 : Nat) : Int))) := Fr.of_set _ _ _ rfl
  have of3 : ∀ {t : TypeId}, t ≠ 51 → Off (fun k => k = gd) wr t := fun hn k hk _ => ⟨51, by have hk' : k = gd := hk; rw [hk']; exact tr, hn⟩
  have hF : ∀ k, c.F k → ¬ k = gd := fun k hk e => by
    obtain ⟨u, hu, hh⟩ := hs.ok.ty hk
    have := (show Ty wr k 51 by rw [e]; exact tr).inj hu
    subst this
    revert hh; decide
  refine ⟨⟨hs.ok.fr f3 hF (of3 (by decide)) (of3 (by decide)) (of3 (by decide)) (of3 (by decide)), hs.gg, hs.ct, hs.st, hs.ew.fr_ f3 (fun k hk e => absurd ((own_ty hs.ew.row (bo _ _ hk)).inj (show Ty wr k 51 by have e' : k = gd := e; rw [e']; exact tr)) (by decide)) (of3 (by decide)) (of3 (by decide)) (of3 (by decide)), hs.ap, f3.below (fun k hk => by have hk' : k = gd := hk; rw [hk']; exact hlo) hs.be.size hs.be⟩, ?_, hlo, by simpa using hl, fun n hn => ?_⟩
  · have := hb.set i (.int .i64 ((q + 1 : Nat) : Int))
    rw [dC_set] at this
    exact this
  · rcases mem_set hn with rfl | hn
    · exact hq
    · exact hle n hn
end
def SmI1 (w : World) (g : Nat) (es : List Ent) (A : Option Addr) (ce : Nat) (xs : List Em) (r0 : Sr) (gd n : Nat) (i : Value) (wr : World) : Prop :=
  ∃ (k : Nat) (d : List Nat) (c : Cs), k ≤ n ∧ i = .int .i64 k ∧ PkH w g es A ce xs r0 gd d c wr
def SmI2 (w : World) (g : Nat) (es : List Ent) (A : Option Addr) (ce : Nat) (xs : List Em) (r0 : Sr) (gd : Nat) (d : List Nat) (c : Cs) (i : Value) (wr : World) : Prop :=
  ∃ k : Nat, k ≤ 3 ∧ i = .int .i64 k ∧ PkH w g es A ce xs r0 gd d c wr
def SmI3 (wi : World) (r0 : Sr) (es : List Ent) (gm q : Nat) (s o i : Value) (wr : World) : Prop :=
  ∃ (k : Nat) (A : Option Addr) (c : Nat) (l : List Pr) (m : Mp) (Ao : Option Addr) (co : Nat) (bs : List Bool), k ≤ q ∧ i = .int .i64 k ∧ s = .slice A l.length c ∧ o = .slice Ao bs.length co ∧ RepH wi r0 es gm k A c l m Ao co bs wr
def SmI4 (wi : World) (r0 : Sr) (es : List Ent) (gm j : Nat) (A : Option Addr) (c : Nat) (l : List Pr) (m : Mp) (Ao : Option Addr) (co : Nat) (bs : List Bool) (i : Value) (wr : World) : Prop :=
  ∃ p : Nat, p ≤ 4 ∧ i = .int .i64 p ∧ RepH wi r0 es gm j A c l m Ao co bs wr
set_option maxHeartbeats 8000000 in
set_option maxRecDepth 100000 in
theorem csm_walk (P T D M K : Option Addr) (cp ct cd cm ck : Nat) (zs ts : List Int) (ds ms : List Cl) (ks : List Int) (w : World) (hP : IS w P zs) (hl : zs.length ≤ cp) (hc : cp ≤ 9223372036854775807) (hn : P = none → cp = 0)
    (hT : IS w T ts) (hlt : ts.length ≤ ct) (hct : ct ≤ 9223372036854775807) (hnt : T = none → ct = 0)
    (hD : LS w D ds) (hDl : ds.length ≤ cd) (hDc : cd ≤ 9223372036854775807) (hDn : D = none → cd = 0)
    (hM : LS w M ms) (hMl : ms.length ≤ cm) (hMc : cm ≤ 9223372036854775807) (hMn : M = none → cm = 0)
    (hK : IS w K ks) (hkl : ks.length ≤ ck) (hkc : ck ≤ 9223372036854775807) (hkn : K = none → ck = 0) :
    Calls Tryz.prog 3 #[.slice P zs.length cp, .slice T ts.length ct, .slice D ds.length cd, .slice M ms.length cm, .slice K ks.length ck] w fun e w' => e = .returned (.bool true) ∧ Below w.heap.size w w' := by
  have HIS := hideP (fun (W : World) (hb : Below w.heap.size w W) => show IS W P zs ∧ IS W T ts from ⟨hP.below hb, hT.below hb⟩)
  have HKS := hideP (fun (W : World) (hb : Below w.heap.size w W) => show IS W K ks from hK.below hb)
  obtain ⟨mk, hmk⟩ : ∃ m : Nat, m = min ks.length 80 := ⟨_, rfl⟩
  have hmk1 : mk ≤ ks.length := by omega
  have gmk : min (ks.length : Int) 80 = (mk : Int) := by omega
  have hslk := slice_upto K ks.length ck mk (by omega) hkn
  have HLT := hideP (And.intro hlt (And.intro hct hnt))
  clear hmk hK
  go_enter Tryz.func3, Tryz.ntmps3
  go_wp2_with fail
  refine (cbegun_any _).mono ?_
  rintro e w1 ⟨rfl, hb1⟩
  replace hP := hP.below hb1
  replace hT := hT.below hb1
  replace hD := hD.below hb1
  replace hM := hM.below hb1
  go_wp2_with fail
  refine (kmap_is P cp zs _ hP (by omega)).mono ?_
  rintro e w2 ⟨A, ca, O, co, rfl, hmo, hb2⟩
  replace hT := hT.below hb2
  replace hD := hD.below hb2
  replace hM := hM.below hb2
  have b2 := hb1.trans (hb2.mono hb1.size)
  clear hP hb1
  go_wp2_with fail
  refine (pairs_is T ct ts _ hT hlt hct hnt).mono ?_
  rintro e w3 ⟨As, cs', s, rfl, hsv, hsm, hvs, hb3⟩
  replace hD := hD.below hb3
  replace hM := hM.below hb3
  have b3 := b2.trans (hb3.mono b2.size)
  have HN := hideP (cnew_ok 1 3 ⟨A, ca, mpC zs, O, co, mpO zs⟩ As cs' s w3 (by decide) (by decide) (by decide) (by decide) (hmo.below hb3).ms hsv.ps (mp_ok zs) hsm.ok)
  simp only at HN
  clear hb3 hb2 b2 hmo hsv hT
  go_wp2_with fail
  refine HN.out.mono ?_
  clear HN
  rintro e w4 ⟨c, rfl, hok, hct0, hst0, hb4⟩
  have b4 := b3.trans (hb4.mono b3.size)
  have hok4 := hok.mono b3.size
  replace hD := hD.below hb4
  replace hM := hM.below hb4
  clear hok hb4 b3
  generalize hr0 : (⟨valOf s, mpC zs, mpO zs, []⟩ : Sr) = r0 at hst0
  have hr00 := hideP (show r0.bs = [] by rw [← hr0])
  have HR0 := hideP (show ∀ l, (∀ k, valOf l k = prV ts (min ts.length 30) k) → (⟨valOf l, mpC zs, mpO zs, []⟩ : Sr) = r0 from fun l hl => by rw [← hr0]; congr 1; funext k; rw [hl, hvs])
  have hcpz : zs.length ≤ cp ∧ cp ≤ 9223372036854775807 := ⟨hl, hc⟩
  clear hr0 hsm hvs
  go_wp2_with fail
  refine (entries_any D M cd cm ds ms _ hD hDl hDc hDn hM).mono ?_
  rintro e w5 ⟨Ae, ce, xs, rfl, hew, hgd, hxl, hb5⟩
  generalize hg : c.s.g = g at ⊢
  have hI : TkI1 w g Ae ce xs [r0, r0, r0] (.int .i64 0) w5 := ⟨0, c, Nat.zero_le _, rfl, hok4.below hb5, hg, by rw [hct0]; rfl, by rw [hst0]; rfl, hew.mono b4.size, CAp.fresh hew hok4 (Nat.le_refl _), b4.trans (hb5.mono b4.size)⟩
  have HGD := hideP hgd
  have hcap := hew.caps
  have hx24 : xs.length ≤ 24 := by omega
  clear hD hM hDl hDc hDn hMl hMc hMn hok4 hct0 hst0 hew hgd b4 hb5 hg hxl
  go_wp2_with fail
  go_loopw [58] (TkI1 w g Ae ce xs [r0, r0, r0]) (fun i _ => xs.length - (intOf i).toNat)
  case atStart => exact hI
  case round =>
    clear hI
    obtain ⟨k, c, hk, rfl, h⟩ := hrel
    by_cases hlt : k < xs.length
    · obtain ⟨bb, oo, hA, hbl, p0, p1, p2, p3⟩ := h.ew.el.cells k xs[k] (List.getElem?_eq_getElem hlt)
      have hes := h.ew.el.es _ (List.getElem_mem hlt)
      have hgd := HGD.out _ (List.getElem_mem hlt)
      have al := (Below.refl wr.heap.size wr).alloc (Nat.le_refl _) (.cells (emC xs[k]) 41)
      have ald := al.drew
      have hB := h.below ald
      have xe := Box.new wr 41 (emC xs[k])
      obtain ⟨q1, q2⟩ := add_one ((xs.map entOf).take k) (entOf xs[k]) hgd.chk hgd.bare (by rw [List.length_take, List.length_map]; omega)
      have HAD := hideP (cadd_any c _ 0 xs[k] _ hB.ok (hes.below ald))
      rw [hB.ct, q1, q2, hB.gg] at HAD
      have HNX := hideP (fun (c' : Cs) (w' : World) (T : c.To (wr.alloc (.cells (emC xs[k]) 41)).drew w.heap.size c' w' [[(xs.map entOf).take k ++ [entOf xs[k]]]] c.st) => hB.next hlt T)
      have g1 : (0 : Int) ≤ (k : Int) := by omega
      have g2 : (k : Int) < (xs.length : Int) := by omega
      subst hA
      have x0 := xe.cell 0 (v := .slice xs[k].D xs[k].d.length xs[k].c) rfl
      have x1 := xe.cell 1 (v := .bool xs[k].isM) rfl
      have x2 := xe.cell 2 (v := .slice xs[k].m.A xs[k].m.cs.length xs[k].m.ca) rfl
      have x3 := xe.cell 3 (v := .slice xs[k].m.O xs[k].m.os.length xs[k].m.co) rfl
      clear h hB hes hgd al ald xe q1 q2
      generalize xs[k] = x at p0 p1 p2 p3 HAD HNX x0 x1 x2 x3
      unfold emV emC at HAD
      unfold emC at HNX x0 x1 x2 x3
      go_wp2_with fail
      go_region_law (
        (go_simp
         go_at_call 13
         refine HAD.out.mono ?_
         rintro e w6 ⟨c', rfl, TT⟩
         have hN := HNX.out c' w6 TT
         clear TT))
      all_goals
        go_wp2_with fail
        go_roundw
        case rel => exact ⟨k + 1, c', by omega, by go_num, hN⟩
        case measure => simp [intOf]; omega
    · obtain rfl : k = xs.length := by omega
      have hes : ∃ es, xs.map entOf = es := ⟨_, rfl⟩
      obtain ⟨es, hes⟩ := hes
      have hel : es.length = xs.length := by rw [← hes, List.length_map]
      have HCL := hideP (cclose_any c _ 0 wr h.ok)
      obtain ⟨f1, f2, f3⟩ := close_one es
      rw [h.ct, hes, List.take_of_length_le (by omega), f1, f2, f3, h.gg] at HCL
      have HCN := hideP (fun (c' : Cs) (w' : World) (T : c.To wr w.heap.size c' w' [[es, []]] c.st) => h.close hes T)
      have HES := hideP hes
      clear h f1 f2 f3 hes
      go_wp2_with fail
      refine HCL.out.mono ?_
      clear HCL
      rintro e w6 ⟨c6, rfl, T6⟩
      have h6 := HCN.out c6 w6 T6
      clear T6 HCN
      have al := (Below.refl w6.heap.size w6).alloc (Nat.le_refl _) (.cells #[.int .i64 0, .int .i64 0, .int .i64 0] 51)
      have hPk : PkH w g es Ae ce xs r0 w6.heap.size [0, 0, 0] c6 (w6.alloc (.cells #[.int .i64 0, .int .i64 0, .int .i64 0] 51)) := ⟨h6.below al, Box.new _ _ _, h6.be.size, rfl, by simp⟩
      clear h6 al
      go_wp2_with fail
      generalize w6.heap.size = gd at hPk ⊢
      generalize w6.alloc _ = w7 at hPk ⊢
      go_wp2_with fail
      go_loopw [84] (SmI1 w g es Ae ce xs r0 gd mk) (fun i _ => mk - (intOf i).toNat)
      case atStart => exact ⟨0, _, c6, Nat.zero_le _, rfl, hPk⟩
      case round =>
        clear hPk
        obtain ⟨k, d, c, hk, rfl, h⟩ := hrel
        by_cases hka : k < mk
        · obtain ⟨b, o, hKA, hbl, z0⟩ := HKS.out wr h.st.be k _ (List.getElem?_eq_getElem (by omega))
          generalize ks[k]'(by omega) = zk at z0
          have HW := hideP (show ∀ W, Calls Tryz.prog 15 #[.int .i64 zk, .int .i64 3] W fun e w' => e = .returned (.int .i64 (wi zk 3)) ∧ W = w' from fun W => within_any zk 3 (by decide) (by decide) W)
          have hi3 := wi_lt zk 3 (by decide)
          generalize wi zk 3 = i at HW hi3
          have hid : i < d.length := by rw [h.len]; exact hi3
          obtain ⟨q, hq⟩ : ∃ q, d[i]? = some q := ⟨_, List.getElem?_eq_getElem hid⟩
          have hqle := h.le q (List.mem_of_getElem? hq)
          have hsi : (stD r0 es d)[i]? = some (playR r0 (es.take q)) := by simp [stD, hq]
          have hbl2 : (playR r0 (es.take q)).bs.length = q := by rw [playR_len, hr00.out, List.length_take]; simp; omega
          have HS := hideP (cstep_any c _ (i : Int) wr h.st.ok)
          rw [h.st.ct, h.st.st, h.st.gg] at HS
          have g0 : (0 : Int) ≤ (k : Int) := by omega
          have g1 : (k : Int) < (mk : Int) := by omega
          have g2 : (0 : Int) ≤ (i : Int) := by omega
          have g3 : (i : Int) < 3 := by omega
          subst hKA
          by_cases hqe : q < es.length
          · obtain ⟨q1, q2, q3⟩ := cp_go hsi (show es[(playR r0 (es.take q)).bs.length]? = some es[q] by rw [hbl2]; exact List.getElem?_eq_getElem hqe)
            rw [q1, q2, q3, ← playR_take _ _ _ hqe] at HS
            have HN := hideP (fun (c' : Cs) (w' : World) (TT : c.To wr w.heap.size c' w' c.s.ct ((stD r0 es d).set i (playR r0 (es.take (q + 1))))) => show w'.cell? ⟨gd, i, none⟩ = some (.int .i64 (q : Int)) ∧ w'.frozen? ⟨gd, i, none⟩ = false ∧ PkH w g es Ae ce xs r0 gd (d.set i (q + 1)) c' (w'.setCell ⟨gd, i, none⟩ (.int .i64 ((q + 1 : Nat) : Int))) from by
              obtain ⟨s1, s2⟩ := h.step TT
              refine ⟨s2.cell i (dC_get d hq), s2.frozen i, PkH.more (by rw [show stD r0 es (d.set i (q + 1)) = (stD r0 es d).set i (playR r0 (es.take (q + 1))) by simp [stD, List.map_set]]; exact s1) s2 h.lo h.len h.le hqe⟩)
            have g4 : (q : Int) < (xs.length : Int) := by omega
            have g5 : IntKind.i64.wrap ((q : Int) + 1) = ((q + 1 : Nat) : Int) := by simp only [IntKind.wrap_i64]; omega
            generalize doneE (playR r0 (es.take q)).v es[q] = dn at HS
            clear h q1 q2 q3 hsi hbl2 hqe hid
            go_wp2_with fail
            refine (HW.out _).mono ?_
            rintro e w' ⟨rfl, rfl⟩
            clear HW
            go_wp2_with fail
            refine HS.out.mono ?_
            clear HS
            rintro e w8 ⟨c8, rfl, TT⟩
            obtain ⟨k0, k1, hN⟩ := HN.out c8 w8 TT
            clear HN TT
            go_wp2_with fail
            go_roundw
            case rel => exact ⟨k + 1, _, c8, by omega, by go_num, hN⟩
            case measure => simp [intOf]; omega
          · obtain ⟨q1, q2, q3⟩ := cp_wait (log := es) hsi (by rw [hbl2]; omega)
            rw [q1, q2, q3] at HS
            have HN := hideP (fun (c' : Cs) (w' : World) (TT : c.To wr w.heap.size c' w' c.s.ct (stD r0 es d)) => show w'.cell? ⟨gd, i, none⟩ = some (.int .i64 (q : Int)) ∧ PkH w g es Ae ce xs r0 gd d c' w' from by
              obtain ⟨s1, s2⟩ := h.step TT
              exact ⟨s2.cell i (dC_get d hq), s1, s2, h.lo, h.len, h.le⟩)
            have g4 : ¬ (q : Int) < (xs.length : Int) := by omega
            clear h q1 q2 q3 hsi hbl2 hqe hid
            go_wp2_with fail
            refine (HW.out _).mono ?_
            rintro e w' ⟨rfl, rfl⟩
            clear HW
            go_wp2_with fail
            refine HS.out.mono ?_
            clear HS
            rintro e w8 ⟨c8, rfl, TT⟩
            obtain ⟨k0, hN⟩ := HN.out c8 w8 TT
            clear HN TT
            go_wp2_with fail
            go_roundw
            case rel => exact ⟨k + 1, d, c8, by omega, by go_num, hN⟩
            case measure => simp [intOf]; omega
        · obtain rfl : k = mk := by omega
          clear HKS hslk gmk hmk1
          go_wp2_with fail
          go_loopw [113] (SmI2 w g es Ae ce xs r0 gd d c) (fun i _ => 3 - (intOf i).toNat)
          case atStart => exact ⟨0, by omega, rfl, h⟩
          case round =>
            clear h
            obtain ⟨i, hi3, rfl, h⟩ := hrel
            obtain ⟨wi, hwi⟩ : ∃ wi : World, wi = wr := ⟨_, rfl⟩
            subst hwi
            by_cases hi : i < 3
            · have g0 : (0 : Int) ≤ (i : Int) := by omega
              have g1 : (i : Int) < 3 := by omega
              obtain ⟨q, hq⟩ : ∃ q, d[i]? = some q := ⟨_, List.getElem?_eq_getElem (by rw [h.len]; exact hi)⟩
              have hqle := h.le q (List.mem_of_getElem? hq)
              have hsi : c.st[i]? = some (playR r0 (es.take q)) := by rw [h.st.st]; simp [stD, hq]
              obtain ⟨ra, hra, ha⟩ := Cs.at_st hsi
              obtain ⟨i1, i2⟩ := HIS.out wi h.st.be
              have HPR := hideP (pairs_is T ct ts wi i2 HLT.out.1 HLT.out.2.1 HLT.out.2.2)
              have HH := hideP h
              have HBX := hideP (fun (W : World) (hb : Below wi.heap.size wi W) => (h.bx.below hb).cell i (dC_get d hq))
              have HEW := hideP (fun (W : World) (hb : Below wi.heap.size wi W) => (h.st.ew.below hb))
              have hsl := fun W => slice_uptoE Ae xs.length ce q (by omega) hcap.2.2.1 W
              have HOK := hideP (fun (W : World) (hb : Below wi.heap.size wi W) => h.st.ok.below hb)
              have hgg := h.st.gg
              clear h hq hsi i2
              go_wp2_with fail
              refine HPR.out.mono ?_
              clear HPR
              rintro e w8 ⟨As, cs', s, rfl, hsv, hsm, hvs, hb8⟩
              have HKM := hideP (kmap_is P cp zs w8 (i1.below hb8) (by omega))
              have HR := hideP (HR0.out s hvs)
              have hoks := hsm.ok
              clear i1 hsm hvs
              go_wp2_with fail
              refine HKM.out.mono ?_
              clear HKM
              rintro e w9 ⟨A9, ca9, O9, co9, rfl, hmo9, hb9⟩
              have al9 := (Below.refl w9.heap.size w9).alloc (Nat.le_refl _) (.cells #[.slice A9 (mpC zs).length ca9, .slice O9 (mpO zs).length co9] 31)
              have x9 := Box.new w9 31 #[.slice A9 (mpC zs).length ca9, .slice O9 (mpO zs).length co9]
              have hRep : RepH wi r0 es w9.heap.size 0 As cs' s ⟨A9, ca9, mpC zs, O9, co9, mpO zs⟩ none 0 [] (w9.alloc (.cells #[.slice A9 (mpC zs).length ca9, .slice O9 (mpO zs).length co9] 31)) :=
                RepH.first (hsv.below hb9) hoks x9 al9 (Nat.le_refl _) (hb8.trans (hb9.mono hb8.size)) ((hmo9.below al9).mono (Nat.zero_le _)) HR.out
              have hcell := HBX.out _ hRep.be
              clear hsv hoks x9 al9 hmo9 hb9 hb8 HR
              go_wp2_with fail
              generalize w9.heap.size = gm at hRep hcell ⊢
              generalize w9.alloc _ = w10 at hRep hcell ⊢
              go_wp2_with fail
              clear hcell
              go_loopw [25, 27, 126] (SmI3 wi r0 es gm q) (fun _ _ i _ => q - (intOf i).toNat)
              case atStart => exact ⟨0, _, _, _, _, _, _, _, Nat.zero_le _, rfl, rfl, rfl, hRep⟩
              case round =>
                clear hRep
                obtain ⟨j, A1, c1, l1, m1, Ao, co, bs, hj, rfl, rfl, rfl, hRp⟩ := hrel
                by_cases hjq : j < q
                · have hEw := HEW.out wr hRp.be
                  have hlx : j < xs.length := by omega
                  obtain ⟨bb, oo, hA, hbl, p0, p1, p2, p3⟩ := hEw.el.cells j xs[j] (List.getElem?_eq_getElem hlx)
                  have hes := hEw.el.es _ (List.getElem_mem hlx)
                  have heo := hEw.eo _ (List.getElem_mem hlx)
                  have hgd := (HGD.out _ (List.getElem_mem hlx)).chk
                  have hxe : es[j]? = some (entOf xs[j]) := by rw [← HES.out, List.getElem?_map, List.getElem?_eq_getElem hlx]; rfl
                  have hbs : bs.length ≤ 100000 := by
                    have := congrArg (fun r : Sr => r.bs.length) hRp.eq
                    simp only [playR_len, hr00.out, List.length_take] at this
                    simp at this
                    omega
                  have g2 : (0 : Int) ≤ (j : Int) := by omega
                  have g3 : (j : Int) < (q : Int) := by omega
                  clear hEw
                  generalize xs[j] = x at p0 p1 p2 p3 hes heo hgd hxe
                  obtain ⟨Dx, cx, dx, isM, ⟨Am, cam, csm, Om, com, osm⟩⟩ := x
                  simp only at p0 p1 p2 p3
                  have al := (Below.refl wr.heap.size wr).alloc (Nat.le_refl _) (.cells #[.slice Dx dx.length cx, .bool isM, .slice Am csm.length cam, .slice Om osm.length com] 41)
                  have xb := Box.new wr 41 #[.slice Dx dx.length cx, .bool isM, .slice Am csm.length cam, .slice Om osm.length com]
                  have hR1 := hRp.below al
                  have x0 := xb.cell 0 (v := .slice Dx dx.length cx) rfl
                  have x1 := xb.cell 1 (v := .bool isM) rfl
                  have x2 := xb.cell 2 (v := .slice Am csm.length cam) rfl
                  have x3 := xb.cell 3 (v := .slice Om osm.length com) rfl
                  subst hA
                  cases isM
                  · have HRN := hideP (rrun_ok A1 Dx c1 cx l1 dx _ hR1.sv hR1.okl (hes.ops.go al) hgd)
                    have HTL := hideP (fun (W : World) (hb : Below (wr.alloc (.cells #[.slice Dx dx.length cx, .bool false, .slice Am csm.length cam, .slice Om osm.length com] 41)).heap.size (wr.alloc (.cells #[.slice Dx dx.length cx, .bool false, .slice Am csm.length cam, .slice Om osm.length com] 41)) W) (A8 : Option Addr) (c8 : Nat) (l8 : List Pr)
                        (ho : OV W (wr.alloc (.cells #[.slice Dx dx.length cx, .bool false, .slice Am csm.length cam, .slice Om osm.length com] 41)).heap.size A8 c8 l8) (hok8 : Ok l8) (hv : valOf l8 = (doneV (valOf l1) dx).1) =>
                      hR1.told (x := entOf ⟨Dx, cx, dx, false, ⟨Am, cam, csm, Om, com, osm⟩⟩) (b := (doneV (valOf l1) dx).2) hbs (Fr.of_below hb) ho.sv hok8
                        (fun hl a ha => ⟨fun e => absurd ((own_ty ho (show (Value.slice A8 l8.length c8).ownBlock = some gm by rw [ownBlock_slice, ha, ← e]; rfl)).inj (hR1.x0.below hb).ty) (by decide),
                          fun e => absurd ((own_ty ho (show (Value.slice A8 l8.length c8).ownBlock = some a.block by rw [ownBlock_slice, ha]; rfl)).inj (own_ty (hR1.ob.below hb) (bo _ _ e))) (by decide)⟩)
                        (hR1.x0.below hb) (hR1.mo.below hb) hxe (by show (⟨(doneV (valOf l1) dx).1, m1.cs, m1.os, bs ++ [(doneV (valOf l1) dx).2]⟩ : Sr) = _; rw [hv]) 55)
                    generalize (doneV (valOf l1) dx) = dv at HRN HTL
                    clear hR1 hRp hes heo hgd hxe hbs al xb
                    go_wp2_with fail
                    refine HRN.out.mono ?_
                    clear HRN
                    rintro e w11 ⟨A8, c8, l8, rfl, ho8, hok8, hv8, hb8⟩
                    obtain ⟨Ao', co', w12, hrun, hN⟩ := HTL.out w11 hb8 A8 c8 l8 ho8 hok8 hv8
                    have HR := hideP hrun
                    clear hrun HTL ho8 hok8 hv8 hb8
                    go_wp2_with (at_builtin; refine Lib.wpList_append_run _ rfl _ _ _ _ rfl _ _ rfl rfl _ _ HR.out ?_)
                    go_roundw
                    case rel => exact ⟨j + 1, A8, c8, l8, m1, Ao', co', bs ++ [dv.2], by omega, by go_num, rfl, by simp, hN⟩
                    case measure => simp [intOf]; omega
                  · have f0 := hR1.x0.frozen 0
                    have f1 := (hR1.x0.set 0 (.slice Am csm.length cam)).frozen 1
                    have d0 := hR1.x0.cell 0 (v := .slice m1.A m1.cs.length m1.ca) rfl
                    have d1 := (hR1.x0.set 0 (.slice Am csm.length cam)).cell 1 (v := .slice m1.O m1.os.length m1.co) rfl
                    have ff : Fr (fun k => k = gm) (wr.alloc (.cells #[.slice Dx dx.length cx, .bool true, .slice Am csm.length cam, .slice Om osm.length com] 41)) (((wr.alloc (.cells #[.slice Dx dx.length cx, .bool true, .slice Am csm.length cam, .slice Om osm.length com] 41)).setCell ⟨gm, 0, none⟩ (.slice Am csm.length cam)).setCell ⟨gm, 1, none⟩ (.slice Om osm.length com)) := Fr.comp (F := fun k => k = gm) (Fr.of_set _ _ _ rfl) (Fr.of_set _ _ _ rfl)
                    have tg := hR1.x0.ty
                    have off : ∀ {t : TypeId}, t ≠ 31 → Off (fun k => k = gm) (wr.alloc (.cells #[.slice Dx dx.length cx, .bool true, .slice Am csm.length cam, .slice Om osm.length com] 41)) t := fun hn k hk _ => ⟨31, by have hk' : k = gm := hk; rw [hk']; exact tg, hn⟩
                    have hmo := heo.map.below al
                    have he : stepR ⟨valOf l1, m1.cs, m1.os, bs⟩ (entOf ⟨Dx, cx, dx, true, ⟨Am, cam, csm, Om, com, osm⟩⟩) = ⟨valOf l1, csm, osm, bs ++ [true]⟩ := by simp [stepR, entOf]
                    have hmo2 : MO (((wr.alloc (.cells #[.slice Dx dx.length cx, .bool true, .slice Am csm.length cam, .slice Om osm.length com] 41)).setCell ⟨gm, 0, none⟩ (.slice Am csm.length cam)).setCell ⟨gm, 1, none⟩ (.slice Om osm.length com)) 0 ⟨Am, cam, csm, Om, com, osm⟩ := MO.mono ⟨ff.own_ty hmo.cuts (off (by decide)), ff.own_ty hmo.own (off (by decide))⟩ (Nat.zero_le _)
                    obtain ⟨Ao', co', w12, hrun, hN⟩ := hR1.told (x := entOf ⟨Dx, cx, dx, true, ⟨Am, cam, csm, Om, com, osm⟩⟩) (m1 := ⟨Am, cam, csm, Om, com, osm⟩) (b := true) hbs ff (hR1.sv.fr ff fun hl a ha => (hR1.av hl a ha).1) hR1.okl hR1.av ((hR1.x0.set 0 (.slice Am csm.length cam)).set 1 (.slice Om osm.length com)) hmo2 hxe he 55
                    have hsz : (((wr.alloc (.cells #[.slice Dx dx.length cx, .bool true, .slice Am csm.length cam, .slice Om osm.length com] 41)).setCell ⟨gm, 0, none⟩ (.slice Am csm.length cam)).setCell ⟨gm, 1, none⟩ (.slice Om osm.length com)).heap.size = wr.heap.size + 1 := by simp [World.setCell]
                    rw [hsz] at hrun
                    have HR := hideP hrun
                    clear hrun hR1 hRp hes heo hgd hxe hbs al xb ff tg off hmo hmo2 he
                    go_wp2_with (at_builtin; refine Lib.wpList_append_run _ rfl _ _ _ _ rfl _ _ rfl rfl _ _ HR.out ?_)
                    go_roundw
                    case rel => exact ⟨j + 1, A1, c1, l1, ⟨Am, cam, csm, Om, com, osm⟩, Ao', co', bs ++ [true], by omega, by go_num, rfl, by simp, hN⟩
                    case measure => simp [intOf]; omega
                · obtain rfl : j = q := by omega
                  have hok0 := HOK.out wr hRp.be
                  have he : ra.st = ⟨valOf l1, m1.cs, m1.os, bs⟩ := ha.trans hRp.eq.symm
                  have el : ra.l = l1 := (hok0.ro i ra hra).pb.ok.ext hRp.okl fun x => congrFun (congrArg Sr.v he) x
                  have ec : ra.m.cs = m1.cs := congrArg Sr.cs he
                  have eo : ra.m.os = m1.os := congrArg Sr.os he
                  have eb : ra.bs = bs := congrArg Sr.bs he
                  have hokm := (hok0.ro i ra hra).pb.okm
                  have hsl2 := (hok0.ro i ra hra).pb.ok.small
                  have hsb := hok0.small hra
                  have HA0 := hideP (fun (W : World) (h : c.Ok W w.heap.size) => call_any c w.heap.size i ra W h hra)
                  have HD0 := hideP (fun (W : World) (h : c.Ok W w.heap.size) => cdone_any c w.heap.size i ra W h hra)
                  have HP0 := hideP (fun (W : World) (h : c.Ok W w.heap.size) (q : Nat) (hq : q < 4) => cpart_any c w.heap.size i q ra W h hra hq)
                  rw [hgg] at HA0 HD0 HP0
                  rw [el] at HA0 hsl2
                  rw [eb] at HD0 hsb
                  rw [ec, eo, el] at HP0
                  rw [ec, eo] at hokm
                  clear hra ha he el ec eo eb HES HGD hok0
                  go_wp2_with fail
                  refine (HA0.out _ (HOK.out wr hRp.be)).mono ?_
                  rintro e v1 ⟨A11, c11, rfl, o1, hb1⟩
                  have s1 := o1.sv
                  replace hRp := hRp.below hb1
                  clear o1 hb1 HA0
                  go_wp2_with fail
                  refine (HD0.out _ (HOK.out v1 hRp.be)).mono ?_
                  rintro e v2 ⟨A12, c12, rfl, o2, hb2⟩
                  have s2 := o2.vs
                  replace s1 := s1.below hb2
                  replace hRp := hRp.below hb2
                  clear o2 hb2 HD0
                  have HE1 := hideP (equal_same A11 A1 c11 c1 l1 v2 s1.ps hRp.sv.ps (by omega))
                  have HE2 := hideP (fun (W : World) (hb : Below v2.heap.size v2 W) => bequal_same A12 Ao c12 co bs W (s2.below hb) (hRp.ob.vs.below hb) (by omega))
                  clear s1 s2
                  go_wp2_with fail
                  refine HE1.out.mono ?_
                  rintro e v3 ⟨rfl, hb3⟩
                  replace hRp := hRp.below hb3
                  clear HE1
                  go_wp2_with fail
                  refine (HE2.out v3 hb3).mono ?_
                  rintro e v4 ⟨rfl, hb4⟩
                  replace hRp := hRp.below hb4
                  clear HE2 hb3 hb4
                  go_wp2_with fail
                  go_loopw [179] (SmI4 wi r0 es gm j A1 c1 l1 m1 Ao co bs) (fun i _ => 4 - (intOf i).toNat)
                  case atStart => exact ⟨0, by omega, rfl, hRp⟩
                  case round =>
                    clear hRp
                    obtain ⟨p, hp4, rfl, hRp⟩ := hrel
                    by_cases hp : p < 4
                    · have g2 : (p : Int) < 4 := by omega
                      have hpl : (ptL m1.cs m1.os (p : Int) l1).length ≤ l1.length := List.length_filter_le _ _
                      have HQ0 := hideP (HP0.out _ (HOK.out wr hRp.be) p hp)
                      have HQ1 := hideP (fun (W : World) (h : RepH wi r0 es gm j A1 c1 l1 m1 Ao co bs W) => shpart_any m1 A1 c1 l1 (p : Int) W h.mo.ms h.sv.ps hokm.l2 (by omega))
                      rw [partV_ok (chkM_ok.2 hokm) (chk_ok.2 hRp.okl) (ownB_iff.2 (by omega))] at HQ1
                      generalize ptL m1.cs m1.os (p : Int) l1 = pt at HQ0 HQ1 hpl
                      go_wp2_with fail
                      refine HQ0.out.mono ?_
                      rintro e v1 ⟨A11, c11, rfl, o1, hb1⟩
                      have s1 := o1.sv
                      replace hRp := hRp.below hb1
                      have z0 := hRp.x0.cell 0 (v := .slice m1.A m1.cs.length m1.ca) rfl
                      have z1 := hRp.x0.cell 1 (v := .slice m1.O m1.os.length m1.co) rfl
                      clear o1 hb1 HQ0
                      go_wp2_with fail
                      refine (HQ1.out v1 hRp).mono ?_
                      rintro e v2 ⟨A12, c12, rfl, o2, hb2⟩
                      simp only at o2 ⊢
                      have s2 := o2.sv
                      replace s1 := s1.below hb2
                      replace hRp := hRp.below hb2
                      clear o2 hb2 HQ1 z0 z1
                      have HE1 := hideP (equal_same A11 A12 c11 c12 pt v2 s1.ps s2.ps (by omega))
                      clear s1 s2
                      go_wp2_with fail
                      refine HE1.out.mono ?_
                      rintro e v3 ⟨rfl, hb3⟩
                      replace hRp := hRp.below hb3
                      clear HE1 hb3
                      go_wp2_with fail
                      go_roundw
                      case rel => exact ⟨p + 1, by omega, by go_num, hRp⟩
                      case measure => simp [intOf]; omega
                    · have g2 : ¬ (p : Int) < 4 := by omega
                      have hN := HH.out.below hRp.be
                      go_wp2_with fail
                      go_roundw
                      case rel => exact ⟨i + 1, by omega, by go_num, hN⟩
                      case measure => simp [intOf]; omega
            · have hbe := h.st.be
              go_wp2_with fail
              go_ret
              exact ⟨rfl, hbe⟩
end Go.Proofs.YtcopmdgcjnkiaaaGreat
