/-
  The walk of ShardCuts.
-/
import Derived.Test.YtoelnhnbefkfoaaShLaw
import Derived.Test.YtoelnhnbefkfoaaShSame
import Derived.Test.YtoelnhnbefkfoaaShCutW
import Derived.Test.YtoelnhnbefkfoaaMade
import Derived.Deep.DeepCutAuto
set_option linter.unusedVariables false
set_option linter.unusedSimpArgs false
namespace Go.Proofs.Ytoelnhnbefkfoaa
open Go.RowKit

/-- what the law asks of a map with a cut more -/
theorem cuts_facts {cs : List ByteArray} {os : List Int} {key : ByteArray} (h : OkM cs os) (hk : keyB key = true) (hn : inB key cs = false) (h6 : cs.length ≤ 6) :
    OkM (cutC cs key) (cutO cs os key) ∧ sameV cs os (cutC cs key) (cutO cs os key) = (true, 0) ∧ (∀ k, whV (cutC cs key) (cutO cs os key) k = whV cs os k) ∧ plN (cutC cs key) (cutO cs os key) (cutC cs key).length = plN cs os cs.length := by
  have hn' : key ∉ cs := fun e => by rw [inB_iff.2 e] at hn; cases hn
  have ho := cut_ok h hk hn' (by omega)
  have hp := plN_cut_all (key := key) h.len
  refine ⟨ho, ?_, whV_cut h hk hn' (by omega), hp⟩
  rw [sameV_ok (chkM_ok.2 h) (chkM_ok.2 ho), hp]
  simp

/-- behind the cut: the map and the new one, each in its box -/
def CutRel (w : World) (gm : Nat) (m : Mp) (r : (List ByteArray × List Int) × Int) (v8 v9 : Value) (wc : World) : Prop :=
  ∃ gx n, v8 = .pointer (some ⟨gx, 0, none⟩) ∧ v9 = .int .i64 r.2 ∧ n.cs = r.1.1 ∧ n.os = r.1.2 ∧ MX w gm m wc ∧ MX w gx n wc

set_option maxHeartbeats 4000000 in
set_option maxRecDepth 100000 in
theorem cuts_walk (P : Option Addr) (cp : Nat) (zs : List Int) (a b : Int) (w : World) (hP : IS w P zs) (hl : zs.length ≤ cp) (hc : cp ≤ 9223372036854775807) (hn : P = none → cp = 0) :
    Calls Try.prog 3 #[.slice P zs.length cp, .int .i64 a, .int .i64 b] w fun e w' => e = .returned (.bool true) ∧ Below w.heap.size w w' := by
  go_enter Try.func3, Try.ntmps3
  go_wp2_with fail
  refine (shbegun_any _).mono ?_
  rintro e w1 ⟨rfl, hb1⟩
  have hP1 := hP.below hb1
  clear hP
  go_wp2_with fail
  refine (kmap_mk P cp zs _ hP1 (by omega)).mono ?_
  rintro e w2 ⟨m, rfl, hok, h6, hmo, hb2⟩
  have hM := MX.mk_ (hmo.mono hb1.size) (hb1.trans (hb2.mono hb1.size))
  have hsz2 : w.heap.size ≤ w2.heap.size := Nat.le_trans hb1.size hb2.size
  clear hP1 hb1 hb2 hmo
  go_wp2_with fail
  have hgm : w2.heap.size < (w2.alloc (.cells #[.slice m.A m.cs.length m.ca, .slice m.O m.os.length m.co] 26)).heap.size := by simp
  generalize w2.alloc _ = w3 at hM hgm ⊢
  generalize w2.heap.size = gm at hM hsz2 hgm ⊢
  have hkN := keyN_ok (wi_lt a 8 (by omega))
  have HCUT := hideP (fun (W : World) (h : MS W m) => shcut_any m (keyN (wi a 8)) W h hok.l2)
  have hka := fun W => rkey_be a W
  have hkb := fun W => rkey_be b W
  have hkN2 := keyN_ok (wi_lt b 8 (by omega))
  generalize keyN (wi a 8) = key at hkN HCUT hka
  generalize keyN (wi b 8) = k2 at hkN2 hkb
  have HKA := hideP hka
  have HKB := hideP hkb
  clear hka hkb
  have hw3 : w.heap.size ≤ w3.heap.size := hM.be.size
  have HS := hideP (fun (W : World) (h : MX w gm m W) => h.c)
  go_cut [8, 9] (CutRel w gm m (cutV m.cs m.os key))
  case first =>
    go_region_held3 (fun w' => w'.cell? ⟨gm, 0, none⟩ = some (.slice m.A m.cs.length m.ca) ∧ w'.cell? ⟨gm, 1, none⟩ = some (.slice m.O m.os.length m.co)) (first | with_reducible exact hS3 | (refine HS.out _ ?_; (repeat first | with_reducible exact hM2 | with_reducible exact hM1 | with_reducible exact hM | with_reducible apply MX.alloc | with_reducible apply MX.drew))) (first
      | (go_at_call 11; refine (HKA.out _).mono ?_; rintro e wk ⟨rfl, hbk⟩
         first
           | have hM1 := hM.drew.below hbk
           | (have hM1 := hM.alloc.drew.below hbk; have hX := (Box.new w3 26 #[.slice none 0 0, .slice none 0 0]).drew.below hbk; have hlx : gm < w3.heap.size := hgm)
         have hsk : w3.heap.size ≤ wk.heap.size := Nat.le_trans (by first | exact Nat.le_refl _ | simp) hbk.size)
      | (go_at_call 10
         first
           | refine (HCUT.out _ hM1.ms).mono ?_
           | refine (HCUT.out _ hM1.alloc.ms).mono ?_
         rintro e wc ⟨n, rfl, hn1, hn2, hmo, hbc⟩
         have HN1 := hideP hn1
         have HN2 := hideP hn2
         clear hn1 hn2
         first
           | (have hM2 := hM1.below hbc; replace hX := hX.below hbc)
           | (have hM2 := hM1.below hbc)
           | (have hM2 := hM1.alloc.below hbc; have hX := (Box.new wk 26 #[.slice none 0 0, .slice none 0 0]).below hbc; have hlx : gm < wk.heap.size := by omega)
         have hmo' : MO wc w.heap.size n := hmo.mono (by first | exact hM1.be.size | exact hM1.alloc.be.size)
         first
           | (have f0 := hX.frozen 0; have f2 := hX.frozen 1; have d2 := hX.cell 1 (v := .slice none 0 0) rfl; have f1 := (hX.set 0 (.slice n.A n.cs.length n.ca)).frozen 1; have d0 := hX.cell 0 (v := .slice none 0 0) rfl; have d1 := (hX.set 0 (.slice n.A n.cs.length n.ca)).cell 1 (v := .slice none 0 0) rfl
              have hN := MX.fill hmo' hM2.be hX (by omega); have hM3 := hM2.other hX (by omega) (by omega) (.slice n.A n.cs.length n.ca) (.slice n.O n.os.length n.co); have hS3 := HS.out _ hM3)
           | skip))
    all_goals
      go_wp2_with fail
      go_meet
      case rel => first | exact ⟨_, n, rfl, rfl, HN1.out, HN2.out, hM3, hN⟩ | exact ⟨_, n, rfl, rfl, HN1.out, HN2.out, hM2.alloc, MX.mk_ hmo' hM2.be⟩
  case rest =>
    obtain ⟨gx, n, rfl, rfl, hn1, hn2, hM, hN⟩ := hcut
    have HOK := hideP hok
    have h12 := hok.few
    cases hin : inB key m.cs with
    | true =>
      have hv := cutV_in (chkM_ok.2 hok) hkN hin
      have HIN := hideP hin
      rw [hv]
      clear hv hn1 hn2 hN hok hin
      go_wp2_with fail
      replace hM := hM.drew
      have HCON := hideP (fun (W : World) (h : MX w gm m W) => scontains_any m.A m.ca m.cs key W h.ms.cuts (by omega))
      rw [HIN.out] at HCON
      go_region_held3 (fun w' => w'.cell? ⟨gm, 0, none⟩ = some (.slice m.A m.cs.length m.ca) ∧ w'.cell? ⟨gm, 1, none⟩ = some (.slice m.O m.os.length m.co)) (first | (refine HS.out _ ?_; with_reducible exact hM)) (first
        | (go_at_call 11; refine (HKA.out _).mono ?_; rintro e wk ⟨rfl, hbk⟩; replace hM := hM.below hbk)
        | (go_at_call 12; refine (HCON.out _ hM).mono ?_; rintro e wj ⟨rfl, rfl⟩))
      have hbe := hM.be
      go_wp2_with fail
      go_ret
      exact ⟨rfl, hbe⟩
    | false =>
      have hv := cutV_ok (chkM_ok.2 hok) hkN hin (show ¬ 12 ≤ m.cs.length by omega)
      obtain ⟨hokx, hsame, hwh, hpl⟩ := cuts_facts hok hkN hin h6
      rw [hv] at hn1 hn2
      simp only at hn1 hn2
      rw [← hn1, ← hn2] at hokx hsame hwh hpl
      rw [hv]
      have HFM := hideP (fun (W : World) (h : MS W m) => shfind_any m k2 W h hok.l2)
      have HFN := hideP (fun (W : World) (h : MS W n) => shfind_any n k2 W h hokx.l2)
      rw [findV_ok (chkM_ok.2 hok) hkN2] at HFM
      rw [findV_ok (chkM_ok.2 hokx) hkN2, hwh k2] at HFN
      have HPM := hideP (fun (W : World) (h : MS W m) => shplain_any m W h hok.l2)
      have HPN := hideP (fun (W : World) (h : MS W n) => shplain_any n W h hokx.l2)
      rw [plainV_ok (chkM_ok.2 hok)] at HPM
      rw [plainV_ok (chkM_ok.2 hokx), hpl] at HPN
      have HSM := hideP (fun (W : World) (h : MS W m) (h' : MS W n) => shsame_any m n W h h' hok.l2 hokx.l2)
      rw [hsame] at HSM
      have HCK := hideP (fun (W : World) (h : MS W n) => shcheck_any n W h hokx.l2)
      rw [chkM_ok.2 hokx] at HCK
      clear hv hn1 hn2 hok hin hokx hsame hwh hpl HOK HCUT h12 h6
      generalize whV m.cs m.os k2 = v at HFM HFN
      generalize plN m.cs m.os m.cs.length = pl at HPM HPN
      obtain ⟨z1, z2⟩ := hM.c
      obtain ⟨y1, y2⟩ := hN.c
      go_wp2_with fail
      refine (HSM.out _ hM.ms hN.ms).mono ?_
      rintro e wd ⟨rfl, hbd⟩
      replace hM := hM.below hbd
      replace hN := hN.below hbd
      clear z1 z2 y1 y2 hbd HSM
      go_wp2_with fail
      replace hM := hM.drew
      replace hN := hN.drew
      go_region_held3 (fun w' => w'.cell? ⟨gm, 0, none⟩ = some (.slice m.A m.cs.length m.ca) ∧ w'.cell? ⟨gm, 1, none⟩ = some (.slice m.O m.os.length m.co)) (first | (refine MX.c (w := w) ?_; with_reducible exact hM)) (first
        | (go_at_call 11; refine (HKB.out _).mono ?_; rintro e wk ⟨rfl, hbk⟩; replace hM := hM.below hbk; replace hN := hN.below hbk; clear hbk)
        | (go_at_call 14; refine (HFM.out _ hM.ms).mono ?_; rintro e wf ⟨rfl, hbf⟩; replace hM := hM.below hbf; replace hN := hN.below hbf; clear hbf))
      go_wp2_with fail
      replace hM := hM.drew
      replace hN := hN.drew
      go_region_held3 (fun w' => w'.cell? ⟨gx, 0, none⟩ = some (.slice n.A n.cs.length n.ca) ∧ w'.cell? ⟨gx, 1, none⟩ = some (.slice n.O n.os.length n.co)) (first | (refine MX.c (w := w) ?_; with_reducible exact hN)) (first
        | (go_at_call 11; refine (HKB.out _).mono ?_; rintro e wk ⟨rfl, hbk⟩; replace hM := hM.below hbk; replace hN := hN.below hbk; clear hbk)
        | (go_at_call 14; refine (HFN.out _ hN.ms).mono ?_; rintro e wf ⟨rfl, hbf⟩; replace hM := hM.below hbf; replace hN := hN.below hbf; clear hbf))
      obtain ⟨y1, y2⟩ := hN.c
      go_wp2_with fail
      refine (HPN.out _ hN.ms).mono ?_
      rintro e we ⟨p, rfl, hp1, hp2, hpo, hbe⟩
      have hPX := MX.mk_ (hpo.mono hN.be.size) (hN.below hbe).be
      replace hM := (hM.below hbe).alloc (o := .cells #[.slice p.A p.cs.length p.ca, .slice p.O p.os.length p.co] 26)
      replace hN := (hN.below hbe).alloc (o := .cells #[.slice p.A p.cs.length p.ca, .slice p.O p.os.length p.co] 26)
      have HP1 := hideP hp1
      have HP2 := hideP hp2
      clear hbe hpo y1 y2 hp1 hp2 HPN
      obtain ⟨z1, z2⟩ := hM.c
      go_wp2_with fail
      generalize we.alloc _ = w8 at hM hN hPX z1 z2 ⊢
      generalize we.heap.size = gp at hPX ⊢
      refine (HPM.out _ hM.ms).mono ?_
      rintro e w9 ⟨q, rfl, hq1, hq2, hqo, hb9⟩
      have hQX := MX.mk_ (hqo.mono hM.be.size) (hM.below hb9).be
      replace hM := (hM.below hb9).alloc (o := .cells #[.slice q.A q.cs.length q.ca, .slice q.O q.os.length q.co] 26)
      replace hN := (hN.below hb9).alloc (o := .cells #[.slice q.A q.cs.length q.ca, .slice q.O q.os.length q.co] 26)
      replace hPX := (hPX.below hb9).alloc (o := .cells #[.slice q.A q.cs.length q.ca, .slice q.O q.os.length q.co] 26)
      have HSQ := hideP (show (decide (p.cs = q.cs) && decide (p.os = q.os)) = true by rw [HP1.out, HP2.out, hq1, hq2]; simp)
      clear hb9 hqo z1 z2 hq1 hq2 HPM
      obtain ⟨z1, z2⟩ := hPX.c
      obtain ⟨z3, z4⟩ := hQX.c
      go_wp2_with fail
      generalize w9.alloc _ = w10 at hM hN hPX hQX z1 z2 z3 z4 ⊢
      generalize w9.heap.size = gq at hQX z3 z4 ⊢
      refine (samemap_any p q _ hPX.ms hQX.ms).mono ?_
      rintro e w11 ⟨rfl, hb11⟩
      rw [HSQ.out]
      replace hN := hN.below hb11
      clear z1 z2 z3 z4
      obtain ⟨z1, z2⟩ := hN.c
      go_wp2_with fail
      refine (HCK.out _ hN.ms).mono ?_
      rintro e w12 ⟨rfl, hb12⟩
      have hbe := (hN.below hb12).be
      go_wp2_with fail
      go_ret
      exact ⟨rfl, hbe⟩
end Go.Proofs.Ytoelnhnbefkfoaa
