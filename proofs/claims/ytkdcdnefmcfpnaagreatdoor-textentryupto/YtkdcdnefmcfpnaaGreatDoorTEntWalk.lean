/-
  rokeep.TextEntry: the walk.
-/
import Derived.Test.YtkdcdnefmcfpnaaGreatDoorTxFld
import Derived.Test.YtkdcdnefmcfpnaaGreatDoorWithin
import Derived.Deep.RegionHeld3
import Derived.Deep.RegionWith
import Derived.Laws.BytesArg
import Derived.Laws.BitsAllLaws
set_option linter.unusedVariables false
set_option linter.unusedSimpArgs false
namespace Go.Proofs.YtkdcdnefmcfpnaaGreatDoor
open Go.RowKit
open Go.Lib hiding intOf

theorem rdE_bad {l : List UInt8} (h : (rdE l).1 ≠ 0) : (rdE l).2 = (ent0, 0) := by
  unfold rdE at h ⊢
  split
  · rfl
  · next h1 =>
    rw [if_neg h1] at h
    split
    · next h2 => rw [if_pos h2] at h; exact absurd rfl h
    · rfl
theorem set_bytes {l : List UInt8} {j : Nat} {v : UInt8} (h : j < l.length) : l.take j ++ [v] ++ l.drop (j + 1) = l.set j v := by
  rw [List.set_eq_take_append_cons_drop, if_pos h]; simp
theorem xor_ne {a b : Nat} (hb : b ≠ 0) : a ^^^ b ≠ a := fun h => hb (by
  have h2 : a ^^^ (a ^^^ b) = a ^^^ a := by rw [h]
  rw [← Nat.xor_assoc, Nat.xor_self, Nat.zero_xor] at h2
  exact h2)
theorem sum_ab : sm [97, 98] = 293 := rfl
/-- the entry at hand -/
structure TeH (w0 : World) (g : Nat) (x : Em) (w : World) : Prop where
  b1 : Box w g 45 (emC x)
  es : ES w x
  gl : Gl w
  be : Below w0.heap.size w0 w
theorem TeH.below {w0 w w' : World} {g : Nat} {x : Em} (k : TeH w0 g x w) (hb : Below w.heap.size w w') : TeH w0 g x w' := ⟨k.b1.below hb, k.es.below hb, k.gl.below hb, k.be.trans (hb.mono k.be.size)⟩
structure TeX (g : Nat) (x : Em) (w : World) : Prop where
  b1 : Box w g 45 (emC x)
  es : ES w x
theorem TeX.below {w w' : World} {g : Nat} {x : Em} (k : TeX g x w) (hb : Below w.heap.size w w') : TeX g x w' := ⟨k.b1.below hb, k.es.below hb⟩
theorem box_cells {w : World} {g : Nat} {x : Em} (h : Box w g 45 (emC x)) : w.cell? ⟨g, 0, none⟩ = some (.slice x.D x.d.length x.c) ∧ w.cell? ⟨g, 1, none⟩ = some (.bool x.isM) ∧ w.cell? ⟨g, 2, none⟩ = some (.slice x.m.A x.m.cs.length x.m.ca) ∧ w.cell? ⟨g, 3, none⟩ = some (.slice x.m.O x.m.os.length x.m.co) := ⟨h.cell 0 rfl, h.cell 1 rfl, h.cell 2 rfl, h.cell 3 rfl⟩
theorem es_four {wr : World} {g B : Nat} {x y : Em} (hr : Box wr g 45 #[.slice x.D x.d.length x.c, .bool x.isM, .slice x.m.A x.m.cs.length x.m.ca, .slice x.m.O x.m.os.length x.m.co]) (hn : EO wr B y) (hb : ∀ o ∈ y.d, -9223372036854775808 ≤ o.n ∧ o.n ≤ 9223372036854775807) :
    ES ((((wr.setCell ⟨g, 0, none⟩ (.slice y.D y.d.length y.c)).setCell ⟨g, 1, none⟩ (.bool y.isM)).setCell ⟨g, 2, none⟩ (.slice y.m.A y.m.cs.length y.m.ca)).setCell ⟨g, 3, none⟩ (.slice y.m.O y.m.os.length y.m.co)) y := by
  have h1 := hr.set 0 (.slice y.D y.d.length y.c)
  have h2 := h1.set 1 (.bool y.isM)
  have h3 := h2.set 2 (.slice y.m.A y.m.cs.length y.m.ca)
  have he := (((hn.set hr.ty).set h1.ty).set h2.ty).set (i := 3) (v := .slice y.m.O y.m.os.length y.m.co) h3.ty
  exact ⟨he.ops.os, he.map.ms, hb⟩
theorem noM_ms1 (w : World) : MS w noM := (noM_mo w 0).ms
theorem em0_es (w : World) : ES w em0 := ⟨OS.nil, noM_ms1 w, by simp [em0]⟩
theorem sameent_nil (W : World) (y : Em) (h1 : ES W y) (h2 : ent0 = entOf y) :
    Calls Tryz.prog 28 #[emV y, emV em0] W fun e w' => e = .returned (.bool true) ∧ Below W.heap.size W w' := by
  unfold ent0 entOf at h2
  injection h2 with a1 a2 a3 a4
  have h := sameent_any y em0 W h1 (em0_es W) (by rw [← a2]; decide)
  have e : sameE y em0 = true := by
    unfold sameE
    rw [sameB_true (show y.d = em0.d from a2.symm), decide_eq_true (show y.m.cs = em0.m.cs from a3.symm), decide_eq_true (show y.m.os = em0.m.os from a4.symm), ← a1]
    rfl
  rw [e] at h
  exact h
set_option maxHeartbeats 8000000 in
set_option maxRecDepth 100000 in
theorem tent_walk (x : Em) (more : ByteArray) (i : Int) (c : Int) (w : World) (hx : ES w x) (hs : more.size ≤ 1048576) (hi : (Lit.int .i64 i).wf = true) (hcw : (Lit.int .u8 c).wf = true) (hg : Gl w) :
    Calls Tryz.prog 5 #[emV x, .string more, .int .i64 i, .int .u8 c] w fun e w' => e = .returned (.bool true) ∧ Below w.heap.size w w' := by
  have b0 := (Below.refl w.heap.size w).alloc (Nat.le_refl _) (.cells (emC x) 45)
  have hH : TeH w w.heap.size x (w.alloc (.cells (emC x) 45)) := ⟨Box.new _ _ _, hx.below b0, hg.below b0, b0⟩
  have HS := hideP (fun W => sum_any ⟨#[97, 98]⟩ W (by decide))
  rw [show ((ByteArray.mk #[97, 98]).data.toList) = [97, 98] from rfl, sum_ab] at HS
  have HSE := hideP (fun W (h : TeH w w.heap.size x W) => entry_any x W h.es h.gl)
  have hld : chkE (entOf x) = 0 → x.isM = false → x.d.length ≤ 8 := fun h1 h2 => by
    have : chkD x.d = 0 := by rw [← h1]; unfold chkE entOf; rw [h2]; rfl
    exact (chkD_zero.1 this).2.1
  clear b0 hx hg
  unfold emV at HSE ⊢
  obtain ⟨z0, z1, z2, z3⟩ := box_cells hH.b1
  unfold emC at hH HSE z0 z1 z2 z3 ⊢
  go_enter Tryz.func5, Tryz.ntmps5
  go_wp2_with fail
  refine (HS.out _).mono ?_
  rintro e w1 ⟨rfl, rfl⟩
  clear HS
  generalize w.alloc _ = w1 at hH z0 z1 z2 z3 ⊢
  generalize hgg : w.heap.size = g at hH HSE z0 z1 z2 z3 ⊢
  have HGG := hideP hgg
  clear hgg
  have HSE2 := hideP (HSE.out w1 hH)
  clear HSE
  go_wp2_with fail
  refine HSE2.out.mono ?_
  clear HSE2
  rintro e w2 ⟨rfl, hb2⟩
  replace hH := hH.below hb2
  clear hb2 z0 z1 z2 z3
  generalize hen : entOf x = en at hld ⊢
  by_cases hc0 : chkE en = 0
  · have hva : enA en = bs (entT en) := by unfold enA; rw [if_pos hc0]
    have hbl := body_len hc0
    have hsl := itoa_length_le (sm (bodyT en) : Int) (by have := sm_lt (bodyT en); omega) (by have := sm_lt (bodyT en); omega)
    have htl : (entT en).length ≤ 300 := by simp only [entT, lnT, List.length_append, List.length_cons, List.length_nil]; omega
    have htl2 : 2 ≤ (entT en).length := by simp only [entT, lnT, List.length_append, List.length_cons, List.length_nil]; omega
    have HTD := hideP (bs_data (entT en))
    have HTS := hideP (bs_size (entT en))
    have hts : (bs (entT en)).size ≤ 300 := htl
    have hts2 : 2 ≤ (bs (entT en)).size := htl2
    rw [hva, hc0]
    generalize bs (entT en) = t at HTD HTS hts hts2 ⊢
    have nb : ¬ (9223372036854775807 < t.size + more.size) := by omega
    have hms : (t ++ more).size < 4294967281 := by rw [ByteArray.size_append]; omega
    have HR := hideP (rdentry_any (t ++ more) w2 hH.gl hms)
    have HRD := hideP (show rdE (t ++ more).data.toList = (0, bareE en, (entT en).length) by
      rw [show (t ++ more).data.toList = entT en ++ more.data.toList by rw [← HTD.out]; simp]
      exact rdE_ent hc0 _)
    unfold RetRe at HR
    rw [HRD.out] at HR
    have HRC := hideP (fun (j : Nat) (v : UInt8) (hj : j < (entT en).length) (hv : (entT en)[j]? ≠ some v) => changed hc0 hj hv)
    clear hbl hsl htl htl2 hva HRD hms
    go_wp2_with fail
    refine HR.out.mono ?_
    clear HR
    rintro e w3 ⟨y, rfl, hy, hybd, hyo, hb3⟩
    replace hH := hH.below hb3
    have HG3 := hideP hH.be.size
    have al := (Below.refl w3.heap.size w3).alloc (Nat.le_refl _) (.cells (emC y) 45)
    have hX : TeX w3.heap.size y (w3.alloc (.cells (emC y) 45)) := ⟨Box.new _ _ _, ⟨(hyo.below al).ops.os, (hyo.below al).map.ms, hybd⟩⟩
    replace hH := hH.below al
    clear hb3 al hyo hybd
    -- the two are the same
    have hyI : y.isM = x.isM ∧ y.m.cs = (beM x).m.cs ∧ y.m.os = (beM x).m.os ∧ y.d = (beM x).d.map bare := by
      have h1 : entOf y = bareE en := hy.symm
      rw [← hen] at h1
      unfold entOf bareE at h1
      unfold beM
      cases hxI : x.isM
      · simp only [hxI, Bool.false_eq_true, if_false] at h1 ⊢
        injection h1 with a1 a2 a3 a4
        exact ⟨a1, a3, a4, a2⟩
      · simp only [hxI, if_true] at h1 ⊢
        injection h1 with a1 a2 a3 a4
        exact ⟨a1, a3, a4, by rw [a2]; rfl⟩
    obtain ⟨hI, hcs, hos, hdd⟩ := hyI
    have hebl : (beM x).d.length ≤ 8 := by
      unfold beM
      cases hxI : x.isM
      · simp only [hxI, Bool.false_eq_true, if_false]; exact hld hc0 hxI
      · simp
    obtain ⟨bq, hbq⟩ : ∃ bq, x.isM = bq := ⟨_, rfl⟩
    have HXB := hideP hbq
    have HYB := hideP (hI.trans hbq)
    have HBE := hideP (fun W => bareent_any x W)
    have HSM := hideP (fun W (h1 : ES W y) (h2 : ES W (beM x)) => samemap_any y.m (beM x).m W h1.map h2.map)
    rw [decide_eq_true hcs, decide_eq_true hos, Bool.and_self] at HSM
    have HBa := hideP (fun W (h : ES W (beM x)) => bare_any (beM x).D (beM x).c (beM x).d W h.ops (by omega))
    unfold RetBa at HBa
    have HSD := hideP (fun Db cb W (h1 : ES W y) (h2 : OS W W.heap.size Db ((beM x).d.map bare)) => samedeed_any y.D Db y.c cb y.d _ W h1.ops h2 (by rw [hdd]; simp; omega))
    rw [show sameB y.d ((beM x).d.map bare) = true from sameB_true hdd] at HSD
    have HEB := hideP (fun W (h : ES W x) => h.bare)
    unfold emV at HBE
    clear hI hcs hos hdd hebl hld hen hy
    generalize beM x = eb at HBE HSM HBa HSD HEB
    have HSM2 := hideP (fun p q W (hp : p = Value.agg #[.slice y.m.A y.m.cs.length y.m.ca, .slice y.m.O y.m.os.length y.m.co]) (hq : q = Value.agg #[.slice eb.m.A eb.m.cs.length eb.m.ca, .slice eb.m.O eb.m.os.length eb.m.co]) (h1 : ES W y) (h2 : ES W eb) => show Calls Tryz.prog 12 #[p, q] W (fun e w' => e = .returned (.bool true) ∧ Below W.heap.size W w') from hp ▸ hq ▸ HSM.out W h1 h2)
    have HBa2 := hideP (fun p W (hp : p = Value.agg #[.slice eb.D eb.d.length eb.c]) (h1 : ES W eb) => show Calls Tryz.prog 31 #[p] W (fun e w' => ∃ (D : Option Addr) (c : Nat), e = .returned (.agg #[.slice D (eb.d.map bare).length c]) ∧ OO w' W.heap.size D c (eb.d.map bare) ∧ Below W.heap.size W w') from hp ▸ HBa.out W h1)
    have HSD2 := hideP (fun p q Db cb W (hp : p = Value.agg #[.slice y.D y.d.length y.c]) (hq : q = Value.agg #[.slice Db (eb.d.map bare).length cb]) (h1 : ES W y) (h2 : OS W W.heap.size Db (eb.d.map bare)) => show Calls Tryz.prog 19 #[p, q] W (fun e w' => e = .returned (.bool true) ∧ Below W.heap.size W w') from hp ▸ hq ▸ HSD.out Db cb W h1 h2)
    clear HSM HBa HSD
    generalize eb.d.map bare = edb at HBa2 HSD2
    unfold emV
    unfold emC at HBE hH hX ⊢
    rw [HTS.out.symm, HXB.out, HYB.out]
    rw [HYB.out] at hH hX
    rw [HXB.out] at HBE
    clear hbq
    have dn : ((t.size : Int) != (t.size : Int)) = false := by simp
    have fz2 := fld2
    have fz0 := fld0
    go_wp2_with fail
    generalize hg3 : w3.heap.size = g3 at hX HG3 ⊢
    clear hg3
    generalize w3.alloc _ = w4 at hH hX ⊢
    replace hH := hH.below (Below.refl _ _).drew
    replace hX := hX.below (Below.refl _ _).drew
    go_region_held3 (fun w' => w'.cell? ⟨g3, 0, none⟩ = some (.slice y.D y.d.length y.c) ∧ w'.cell? ⟨g3, 1, none⟩ = some (.bool bq) ∧ w'.cell? ⟨g3, 2, none⟩ = some (.slice y.m.A y.m.cs.length y.m.ca) ∧ w'.cell? ⟨g3, 3, none⟩ = some (.slice y.m.O y.m.os.length y.m.co) ∧ w'.cell? ⟨g, 0, none⟩ = some (.slice x.D x.d.length x.c) ∧ w'.cell? ⟨g, 1, none⟩ = some (.bool bq) ∧ w'.cell? ⟨g, 2, none⟩ = some (.slice x.m.A x.m.cs.length x.m.ca) ∧ w'.cell? ⟨g, 3, none⟩ = some (.slice x.m.O x.m.os.length x.m.co)) (exact ⟨(box_cells hX.b1).1, HYB.out ▸ (box_cells hX.b1).2.1, (box_cells hX.b1).2.2.1, (box_cells hX.b1).2.2.2, (box_cells hH.b1).1, HXB.out ▸ (box_cells hH.b1).2.1, (box_cells hH.b1).2.2.1, (box_cells hH.b1).2.2.2⟩) (first
      | (go_at_call 30; refine (HBE.out _).mono ?_; rintro e wn ⟨rfl, hbn⟩; replace hH := hH.below hbn; replace hX := hX.below hbn; clear hbn)
      | (go_at_call 12; refine (HSM2.out _ _ _ (by with_reducible rfl) (by with_reducible rfl) hX.es (HEB.out _ hH.es)).mono ?_; rintro e wn ⟨rfl, hbn⟩; replace hH := hH.below hbn; replace hX := hX.below hbn; clear hbn)
      | (go_at_call 31; refine (HBa2.out _ _ (by with_reducible rfl) (HEB.out _ hH.es)).mono ?_; rintro e wn ⟨Db, cb, rfl, hob, hbn⟩; replace hH := hH.below hbn; replace hX := hX.below hbn; replace hob := hob.os; clear hbn)
      | (go_at_call 19; refine (HSD2.out _ _ _ _ _ (by with_reducible rfl) (by with_reducible rfl) hX.es hob).mono ?_; rintro e wn ⟨rfl, hbn⟩; replace hH := hH.below hbn; replace hX := hX.below hbn; clear hbn))
    clear hob HBE HSM2 HBa2 HSD2 HEB fz2 fz0
    have bF := hH.be
    by_cases hcz : c = 0
    · subst hcz
      go_wp2_with fail
      go_ret
      exact ⟨rfl, bF⟩
    · have dc : (c == 0) = false := by simpa using hcz
      have ps : IntKind.i64.wrap ((t.size : Int) - 1) = ((t.size - 1 : Nat) : Int) := by simp only [IntKind.wrap_i64]; omega
      have HWI := hideP (within_any i (t.size - 1) (by omega) (by omega) wn)
      have hwj := wi_lt i (t.size - 1) (by omega)
      generalize wi i (t.size - 1) = j at HWI hwj
      go_wp2_with fail
      refine HWI.out.mono ?_
      rintro e w8 ⟨rfl, rfl⟩
      clear HWI
      have j0 : (0 : Int) ≤ (j : Int) := by omega
      have j1 : (j : Int) ≤ (t.size : Int) := by omega
      have j2 : (j : Int) < (t.size : Int) := by omega
      have j3 : (0 : Int) ≤ (j : Int) + 1 := by omega
      have j4 : (j : Int) + 1 ≤ (t.size : Int) := by omega
      have j5 : IntKind.i64.wrap ((j : Int) + 1) = (j : Int) + 1 := by simp only [IntKind.wrap_i64]; omega
      have j6 : ((j : Int) + 1).toNat = j + 1 := by omega
      have hjt : j < t.size := by omega
      have hc01 : 0 ≤ c ∧ c ≤ 255 := by
        have e1 : IntKind.u8.min = 0 := by decide
        have e2 : IntKind.u8.max = 255 := by decide
        simp [Lit.wf, e1, e2] at hcw
        omega
      have ha256 := (t[j]'hjt).toNat_lt
      obtain ⟨xn, hxn⟩ : ∃ xn : Nat, (t[j]'hjt).toNat ^^^ c.toNat = xn := ⟨_, rfl⟩
      have hxr : bits .xor .u8 ((t[j]'hjt).toNat : Int) c = (xn : Int) := by rw [u8_xor _ _ (by omega) (by omega) (by omega) (by omega), ← hxn]; simp
      have hx256 : xn < 256 := by rw [← hxn]; exact Nat.xor_lt_two_pow (n := 8) (by omega) (by omega)
      have hxne : UInt8.ofNat xn ≠ t[j]'hjt := fun h => by
        have h1 := congrArg UInt8.toNat h
        rw [UInt8.toNat_ofNat', Nat.mod_eq_of_lt (by omega)] at h1
        exact xor_ne (b := c.toNat) (by omega) (hxn.trans h1)
      have hsb : (strOfNums [(xn : Int)]).data.toList = [UInt8.ofNat xn] := rfl
      have hsz : (strOfNums [(xn : Int)]).size = 1 := rfl
      have hl1 : (t.extract 0 j).data.toList = (entT en).take j := by rw [ext_take1, HTD.out]
      have hl2 : (t.extract (j + 1) t.size).data.toList = (entT en).drop (j + 1) := by rw [ext_drop1, HTD.out]
      have hjl : j < (entT en).length := by rw [← HTS.out]; exact hjt
      have hs1 : (t.extract 0 j).size ≤ 300 := by
        have h1 : (t.extract 0 j).data.toList.length = (t.extract 0 j).size := by simp
        rw [hl1, List.length_take] at h1
        have := HTS.out
        omega
      have hs2 : (t.extract (j + 1) t.size).size ≤ 300 := by
        have h1 : (t.extract (j + 1) t.size).data.toList.length = (t.extract (j + 1) t.size).size := by simp
        rw [hl2, List.length_drop] at h1
        have := HTS.out
        omega
      have hlt : (t.extract 0 j ++ strOfNums [(xn : Int)] ++ t.extract (j + 1) t.size).data.toList = (entT en).set j (UInt8.ofNat xn) := by
        rw [← set_bytes hjl, ← hl1, ← hl2, ← hsb]; simp
      have hss : (t.extract 0 j ++ strOfNums [(xn : Int)] ++ t.extract (j + 1) t.size).size < 4294967281 := by rw [ByteArray.size_append, ByteArray.size_append]; omega
      have hbad : (rdE ((entT en).set j (UInt8.ofNat xn))).1 ≠ 0 := HRC.out j _ hjl (by
        rw [← HTD.out]
        have h2 : t.data.toList[j]? = some (t[j]'hjt) := Go.Lib.data_getElem? t j hjt
        rw [h2]
        intro h
        injection h with h
        exact hxne h.symm)
      have HRE := hideP (fun W (h : Gl W) => rdentry_any (t.extract 0 j ++ strOfNums [(xn : Int)] ++ t.extract (j + 1) t.size) W h hss)
      unfold RetRe at HRE
      rw [hlt, rdE_bad hbad] at HRE
      have dq : ((rdE ((entT en).set j (UInt8.ofNat xn))).1 != 0) = true := by simpa using hbad
      generalize (rdE ((entT en).set j (UInt8.ofNat xn))).1 = qc at HRE dq
      have nb1 : ¬ (9223372036854775807 < (t.extract 0 j).size + (strOfNums [(xn : Int)]).size) := by omega
      have nb2 : ¬ (9223372036854775807 < (t.extract 0 j ++ strOfNums [(xn : Int)]).size + (t.extract (j + 1) t.size).size) := by rw [ByteArray.size_append]; omega
      have al := (Below.refl wn.heap.size wn).alloc (Nat.le_refl _) (.cells #[.int .u8 (xn : Int)] 5)
      have hcv := run_convert_bytes_arg (P := Tryz.prog) (wn.alloc (.cells #[.int .u8 (xn : Int)] 5)).drew 61 5 Tryz.underlying61 Tryz.underlying5 wn.heap.size 0 1 1 [(xn : Int)] rfl (fun k hk => by
        obtain rfl : k = 0 := by omega
        have := (Box.new wn 5 #[.int .u8 (xn : Int)]).cell 0 rfl
        exact this) 9 Tryz.underlying9
      have hcv2 := run_convert_bytes_arg (P := Tryz.prog) (wn.alloc (.cells #[.int .u8 (xn : Int)] 5)) 61 5 Tryz.underlying61 Tryz.underlying5 wn.heap.size 0 1 1 [(xn : Int)] rfl (fun k hk => by
        obtain rfl : k = 0 := by omega
        have := (Box.new wn 5 #[.int .u8 (xn : Int)]).cell 0 rfl
        exact this) 9 Tryz.underlying9
      have hH2 := hH.below (al.drew)
      have hX2 := hX.below (al.drew)
      clear hbad hlt hss hl1 hl2 hsb hxne hjl hxn hx256 hH hX al HRC
      generalize strOfNums [(xn : Int)] = sb at HRE nb1 nb2 hcv hcv2 hsz
      have nb3 : ¬ (9223372036854775807 < min j t.size + sb.size) := by omega
      have nb4 : ¬ (9223372036854775807 < min j t.size + sb.size + (t.size - (j + 1))) := by omega
      have nb5 : ¬ (9223372036854775807 < j + sb.size) := by omega
      have nb6 : ¬ (9223372036854775807 < j + sb.size + (t.size - (j + 1))) := by omega
      have nb7 : ¬ (9223372036854775807 < (t.extract 0 j).size + sb.size + (t.extract (j + 1) t.size).size) := by omega
      clear hsz hs1 hs2
      go_wp2_with fail
      have HSN := hideP (fun W (y2 : Em) (h1 : ES W y2) (h2 : ent0 = entOf y2) => sameent_nil W y2 h1 h2)
      unfold emV emC at HRE HSN
      unfold em0 noM at HSN
      simp only [List.length_nil] at HSN
      go_region_with (first
        | (go_at_call 21; refine (HRE.out _ hH2.gl).mono ?_; rintro e w9 ⟨y2, rfl, hy2, hyb2, hyo2, hbn⟩; replace hH2 := hH2.below hbn; replace hX2 := hX2.below hbn; clear hbn; obtain ⟨⟨c0, c1, c2, c3⟩, ⟨f0, f1, f2, f3⟩, R⟩ := box_four hX2.b1 (.slice y2.D y2.d.length y2.c) (.bool y2.isM) (.slice y2.m.A y2.m.cs.length y2.m.ca) (.slice y2.m.O y2.m.os.length y2.m.co); have hES := es_four hX2.b1 hyo2 hyb2; have hBE := below_four hH2.be HG3.out (.slice y2.D y2.d.length y2.c) (.bool y2.isM) (.slice y2.m.A y2.m.cs.length y2.m.ca) (.slice y2.m.O y2.m.os.length y2.m.co)))
      all_goals
        have r0 := R.cell 0 rfl
        have r1 := R.cell 1 rfl
        have r2 := R.cell 2 rfl
        have r3 := R.cell 3 rfl
        have HFI := hideP (HSN.out _ y2 hES hy2)
        clear R HSN c0 c1 c2 c3 f0 f1 f2 f3 hX2 hH2 hES
        go_wp2_with fail
        refine HFI.out.mono ?_
        rintro e w10 ⟨rfl, hb10⟩
        have bE := hBE.trans (hb10.mono hBE.size)
        go_wp2_with fail
        go_ret
        exact ⟨rfl, bE⟩
  · have hva : enA en = ByteArray.empty := by unfold enA; rw [if_neg hc0]
    have d1 : (chkE en != 0) = true := by simpa using hc0
    have d2 : (ByteArray.mk #[]).toList = [] := by rw [ByteArray.toList_eq]
    have d3 : ByteArray.empty.toList = [] := by rw [ByteArray.toList_eq]; rfl
    have bF := hH.be
    rw [hva]
    clear hva hc0
    generalize chkE en = q at d1 ⊢
    go_wp2_with fail
    go_ret
    refine ⟨?_, bF⟩
    first
    | rfl
    | (simp; done)
    | (simp [ByteArray.empty, ByteArray.emptyWithCapacity]; done)
end Go.Proofs.YtkdcdnefmcfpnaaGreatDoor
