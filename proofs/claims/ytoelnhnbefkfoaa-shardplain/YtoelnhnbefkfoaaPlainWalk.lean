/-
  The walk of ShardPlain.
-/
import Derived.Test.YtoelnhnbefkfoaaShLaw
import Derived.Test.YtoelnhnbefkfoaaShPlainW
import Derived.Deep.DeepCutAuto
set_option linter.unusedVariables false
set_option linter.unusedSimpArgs false
namespace Go.Proofs.Ytoelnhnbefkfoaa
open Go.RowKit

def PwI (w1 : World) (n : Nat) (i : Value) (wr : World) : Prop := ∃ k : Nat, 1 ≤ k ∧ (k ≤ n ∨ k = 1) ∧ i = .int .i64 k ∧ Below w1.heap.size w1 wr
set_option maxHeartbeats 4000000 in
set_option maxRecDepth 100000 in
theorem plain_walk (P : Option Addr) (cp : Nat) (zs : List Int) (a : Int) (w : World) (hP : IS w P zs) (hl : zs.length ≤ cp) (hc : cp ≤ 9223372036854775807) (hn : P = none → cp = 0) :
    Calls Try.prog 5 #[.slice P zs.length cp, .int .i64 a] w fun e w' => e = .returned (.bool true) ∧ Below w.heap.size w w' := by
  go_enter Try.func5, Try.ntmps5
  go_wp2_with fail
  refine (shbegun_any _).mono ?_
  rintro e w1 ⟨rfl, hb1⟩
  have hP1 := hP.below hb1
  clear hP
  go_wp2_with fail
  refine (kmap_mk P cp zs _ hP1 (by omega)).mono ?_
  rintro e w2 ⟨m, rfl, hok, h6, hmo, hb2⟩
  have hM := MX.mk_ (hmo.mono hb1.size) (hb1.trans (hb2.mono hb1.size))
  clear hP1 hb1 hb2 hmo
  obtain ⟨z1, z2⟩ := hM.c
  go_wp2_with fail
  generalize w2.alloc _ = w3 at hM z1 z2 ⊢
  generalize w2.heap.size = gm at hM z1 z2 ⊢
  have HPM := hideP (fun (W : World) (h : MS W m) => shplain_any m W h hok.l2)
  rw [plainV_ok (chkM_ok.2 hok)] at HPM
  refine (HPM.out _ hM.ms).mono ?_
  rintro e w4 ⟨p, rfl, hp1, hp2, hpo, hb4⟩
  simp only at hp1 hp2
  have hokp : OkM p.cs p.os := by rw [hp1, hp2]; exact plN_valid hok
  have hadj : ∀ i, i + 1 < p.os.length → p.os.getD (i + 1) 0 ≠ p.os.getD i 0 := by rw [hp2]; exact plN_adj m.cs m.os m.cs.length
  have htw : plN p.cs p.os p.cs.length = (p.cs, p.os) := by rw [hp1, hp2]; exact plN_twice hok
  have hwh : ∀ k, whV p.cs p.os k = whV m.cs m.os k := by rw [hp1, hp2]; exact whV_plN hok
  have hle : p.cs.length ≤ m.cs.length := by
    rw [hp1]
    have := (plN_sub (cs := m.cs) m.os (Nat.le_refl m.cs.length)).length_le
    rwa [List.length_take, Nat.min_self] at this
  have hN := MX.mk_ (hpo.mono hM.be.size) (hM.below hb4).be
  replace hM := (hM.below hb4).alloc (o := .cells #[.slice p.A p.cs.length p.ca, .slice p.O p.os.length p.co] 26)
  clear hb4 hpo z1 z2 hp1 hp2 HPM
  obtain ⟨y1, y2⟩ := hN.c
  go_wp2_with fail
  generalize w4.alloc _ = w5 at hM hN y1 y2 ⊢
  generalize w4.heap.size = gp at hN y1 y2 ⊢
  have HPN := hideP (fun (W : World) (h : MS W p) => shplain_any p W h hokp.l2)
  rw [plainV_ok (chkM_ok.2 hokp), htw] at HPN
  refine (HPN.out _ hN.ms).mono ?_
  rintro e w6 ⟨q, rfl, hq1, hq2, hqo, hb6⟩
  simp only at hq1 hq2
  have hQ := MX.mk_ (hqo.mono hN.be.size) (hN.below hb6).be
  replace hM := (hM.below hb6).alloc (o := .cells #[.slice q.A q.cs.length q.ca, .slice q.O q.os.length q.co] 26)
  replace hN := (hN.below hb6).alloc (o := .cells #[.slice q.A q.cs.length q.ca, .slice q.O q.os.length q.co] 26)
  have HSQ := hideP (show (decide (p.cs = q.cs) && decide (p.os = q.os)) = true by rw [hq1, hq2]; simp)
  clear hb6 hqo y1 y2 hq1 hq2 HPN htw
  obtain ⟨y1, y2⟩ := hN.c
  obtain ⟨x1, x2⟩ := hQ.c
  go_wp2_with fail
  generalize w6.alloc _ = w7 at hM hN hQ y1 y2 x1 x2 ⊢
  generalize w6.heap.size = gq at hQ x1 x2 ⊢
  refine (samemap_any p q _ hN.ms hQ.ms).mono ?_
  rintro e w8 ⟨rfl, hb8⟩
  rw [HSQ.out]
  replace hM := hM.below hb8
  replace hN := hN.below hb8
  clear hb8 y1 y2 x1 x2 hQ HSQ
  obtain ⟨y1, y2⟩ := hN.c
  obtain ⟨z1, z2⟩ := hM.c
  have gle : ¬ (m.cs.length : Int) < (p.cs.length : Int) := by omega
  have hlo := hN.ms.lo
  have hmo := hN.ms.mo
  unfold maxLen at hmo
  have hl12 := hokp.len
  have hf12 := hokp.few
  have hlp : p.os.length ≤ 13 := by omega
  have HADJ := hideP hadj
  clear hl12 hadj hle
  obtain ⟨bO, oO, eO, hx1, hx2⟩ := hN.ms.own 0 (p.os[0]'(by have := hokp.len; omega)) (by simp [show 0 < p.os.length by have := hokp.len; omega])
  rw [eO] at y2
  go_wp2_with fail
  rw [decide_eq_false (show ¬ m.cs.length < p.cs.length by omega)]
  go_loopw [10] (PwI w8 p.os.length) (fun i _ => p.os.length - (intOf i).toNat)
  case atStart => exact ⟨1, Nat.le_refl _, .inr rfl, rfl, Below.refl _ _⟩
  case round =>
    obtain ⟨k, hk1, hk2, rfl, hb⟩ := hrel
    have hNr := hN.below hb
    have hMr := hM.below hb
    obtain ⟨u1, u2⟩ := hNr.c
    rw [eO] at u2
    by_cases hlt : k < p.os.length
    · obtain ⟨b1, o1, e1, _, q1⟩ := hNr.ms.own k (p.os.getD k 0) (by simp [List.getD_eq_getElem?_getD, hlt])
      obtain ⟨b2, o2, e2, _, q2⟩ := hNr.ms.own (k - 1) (p.os.getD (k - 1) 0) (by simp [List.getD_eq_getElem?_getD, show k - 1 < p.os.length by omega])
      rw [eO] at e1 e2
      injection e1 with e1
      injection e1 with e1 e1'
      injection e2 with e2
      injection e2 with e2 e2'
      subst e1; subst e1'; subst e2; subst e2'
      have hne := HADJ.out (k - 1) (by omega)
      rw [show k - 1 + 1 = k by omega] at hne
      have g1 : (0 : Int) ≤ (k : Int) := by omega
      have g2 : (k : Int) < (p.os.length : Int) := by omega
      have g3 : (0 : Int) ≤ (k : Int) - 1 := by omega
      have g4 : (k : Int) - 1 < (p.os.length : Int) := by omega
      have g5 : ((k : Int) - 1).toNat = k - 1 := by omega
      have pk : IntKind.i64.wrap ((k : Int) - 1) = (k : Int) - 1 := by simp only [IntKind.wrap_i64]; omega
      generalize p.os.getD k 0 = x at q1 hne
      generalize p.os.getD (k - 1) 0 = y at q2 hne
      have dd : (x == y) = false := by simp [hne]
      clear hne
      go_wp2_with fail
      go_quiet (fail)
      go_wp2_with fail
      go_roundw
      case rel => exact ⟨k + 1, by omega, .inl hlt, by go_num, ⟨hb.os, hb.tape, hb.output, hb.size, hb.block⟩⟩
      case measure => simp [intOf]; omega
    · have g2 : ¬ (k : Int) < (p.os.length : Int) := by omega
      have hkN := keyN_ok (wi_lt a 8 (by omega))
      have HFM := hideP (fun (W : World) (h : MS W m) => shfind_any m (keyN (wi a 8)) W h hok.l2)
      have HFN := hideP (fun (W : World) (h : MS W p) => shfind_any p (keyN (wi a 8)) W h hokp.l2)
      rw [findV_ok (chkM_ok.2 hok) hkN] at HFM
      rw [findV_ok (chkM_ok.2 hokp) hkN, hwh] at HFN
      have HKB := hideP (fun W => rkey_be a W)
      generalize whV m.cs m.os (keyN (wi a 8)) = v at HFM HFN
      generalize keyN (wi a 8) = key at HFM HFN HKB
      clear hN hM hkN hwh hok hokp y1 y2 z1 z2 hx1 hx2 HADJ
      go_wp2_with fail
      replace hMr := hMr.drew
      replace hNr := hNr.drew
      clear u1 u2 eO
      go_region_held3 (fun w' => w'.cell? ⟨gm, 0, none⟩ = some (.slice m.A m.cs.length m.ca) ∧ w'.cell? ⟨gm, 1, none⟩ = some (.slice m.O m.os.length m.co)) (first | (refine MX.c (w := w) ?_; with_reducible exact hMr)) (first
        | (go_at_call 11; refine (HKB.out _).mono ?_; rintro e wk ⟨rfl, hbk⟩; replace hMr := hMr.below hbk; replace hNr := hNr.below hbk; clear hbk)
        | (go_at_call 14; refine (HFM.out _ hMr.ms).mono ?_; rintro e wf ⟨rfl, hbf⟩; replace hMr := hMr.below hbf; replace hNr := hNr.below hbf; clear hbf))
      go_wp2_with fail
      replace hMr := hMr.drew
      replace hNr := hNr.drew
      go_region_held3 (fun w' => w'.cell? ⟨gp, 0, none⟩ = some (.slice p.A p.cs.length p.ca) ∧ w'.cell? ⟨gp, 1, none⟩ = some (.slice p.O p.os.length p.co)) (first | (refine MX.c (w := w) ?_; with_reducible exact hNr)) (first
        | (go_at_call 11; refine (HKB.out _).mono ?_; rintro e wk ⟨rfl, hbk⟩; replace hMr := hMr.below hbk; replace hNr := hNr.below hbk; clear hbk)
        | (go_at_call 14; refine (HFN.out _ hNr.ms).mono ?_; rintro e wf ⟨rfl, hbf⟩; replace hMr := hMr.below hbf; replace hNr := hNr.below hbf; clear hbf))
      have hbe := hNr.be
      go_wp2_with fail
      go_ret
      exact ⟨rfl, hbe⟩
end Go.Proofs.Ytoelnhnbefkfoaa
