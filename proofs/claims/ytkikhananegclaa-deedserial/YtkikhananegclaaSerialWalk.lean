/-
  rokeep.DeedSerial: the law answers true.
-/
import Derived.Test.YtkikhananegclaaWritesWalk
import Derived.Test.YtkikhananegclaaDSer
import Derived.Test.YtkikhananegclaaBConcat
set_option linter.unusedVariables false
set_option linter.unusedSimpArgs false
namespace Go.Proofs.Ytkikhananegclaa
open Go.RowKit

theorem DS.take_ {w : World} {A : Option Addr} {ds : List Dl} (h : DS w A ds) (q : Nat) : DS w A (ds.take q) :=
  ⟨by rw [List.map_take]; exact h.vs.take_ q, fun x hx => h.os x (List.mem_of_mem_take hx)⟩
theorem DS.drop_ {w : World} {b o : Nat} {ds : List Dl} (h : DS w (some ⟨b, o, none⟩) ds) (q : Nat) : DS w (some ⟨b, o + q, none⟩) (ds.drop q) :=
  ⟨by rw [List.map_drop]; exact h.vs.drop_ q, fun x hx => h.os x (List.mem_of_mem_drop hx)⟩
theorem DS.nil {w : World} {A : Option Addr} : DS w A [] := ⟨VS.nil, by simp⟩
theorem serial_ok (A D : Option Addr) (c cd : Nat) (l : List Pr) (ds : List Dl) (w : World) (hA : SV w A c l) (h : Ok l) (hD : DS w D ds) (hn : ds.length ≤ 60) (hc : ∀ x ∈ ds, chkD x.d = 0) :
    Calls Try.prog 21 #[.slice A l.length c, .slice D ds.length cd] w (RetSer w (serV (valOf l) (ds.map (·.d)))) := by
  refine (serial_any A D c cd l ds w hA h hD hn).mono ?_
  rintro e w' (⟨_, h⟩ | ⟨h, _⟩)
  · exact h
  · exact absurd (chkDs_zero.2 fun d hd => by obtain ⟨x, hx, rfl⟩ := List.mem_map.1 hd; exact hc x hx) h

/-- the values step by step -/
theorem serV_steps (v : VF) (ds : List Dl) : ∃ vk : Nat → VF, vk 0 = v ∧ (∀ k (h : k < ds.length), vk (k + 1) = (doneV (vk k) (ds[k]).d).1 ∧ (serV v (ds.map (·.d))).2[k]? = some (doneV (vk k) (ds[k]).d).2) ∧ vk ds.length = (serV v (ds.map (·.d))).1 := by
  refine ⟨fun k => (serV v ((ds.map (·.d)).take k)).1, rfl, fun k h => ?_, by simp only; rw [List.take_of_length_le (by simp)]⟩
  have hk : k < (ds.map (·.d)).length := by simpa using h
  have ht := serV_take (v := v) hk
  rw [List.getElem_map] at ht
  refine ⟨by simp only; rw [ht], ?_⟩
  have h2 : (serV v (ds.map (·.d))).2 = (serV v ((ds.map (·.d)).take (k + 1))).2 ++ (serV (serV v ((ds.map (·.d)).take (k + 1))).1 ((ds.map (·.d)).drop (k + 1))).2 := by
    conv => lhs; rw [← List.take_append_drop (k + 1) (ds.map (·.d)), serV_append]
  have hl : (serV v ((ds.map (·.d)).take k)).2.length = k := by rw [serV_len]; simp; omega
  rw [h2, ht, List.getElem?_append_left (by simp; omega), List.getElem?_append_right (by omega), hl]
  simp
/-- while they are executed one by one -/
def StepInv (w9 : World) (vk : Nat → VF) (m : Nat) (s i : Value) (wr : World) : Prop :=
  ∃ (k : Nat) (A : Option Addr) (c : Nat) (l : List Pr), k ≤ m ∧ i = .int .i64 k ∧ s = .slice A l.length c ∧ SV wr A c l ∧ Ok l ∧ valOf l = vk k ∧ Below w9.heap.size w9 wr

set_option maxHeartbeats 2000000 in
set_option maxRecDepth 100000 in
theorem serialLaw_any (A A2 : Option Addr) (c c2 : Nat) (zs : List Int) (cs : List Cl) (cut : Int) (w : World) (hA : IS w A zs) (hl : zs.length ≤ c) (hc : c ≤ 9223372036854775807) (hn : A = none → c = 0)
    (hL : LS w A2 cs) (hl2 : cs.length ≤ c2) (hc2 : c2 ≤ 9223372036854775807) (hn2 : A2 = none → c2 = 0) :
    Calls Try.prog 7 #[.slice A zs.length c, .slice A2 cs.length c2, .int .i64 cut] w fun e w' => e = .returned (.bool true) ∧ Below w.heap.size w w' := by
  go_enter Try.func7, Try.ntmps7
  go_wp2_with fail
  refine (dbegun_any _).mono ?_
  rintro e w1 ⟨rfl, hb1⟩
  have hA1 := hA.below hb1
  have hL1 := hL.below hb1
  clear hA hL
  go_wp2_with fail
  refine (pairs_any A c zs _ hA1 hl hc hn).mono ?_
  rintro e w2 ⟨As, cs', s, rfl, hs, hsm, hb2⟩
  have hb3 := hb1.trans (hb2.mono hb1.size)
  have hL2 := hL1.below hb2
  clear hb1 hb2 hA1 hL1 hn
  go_wp2_with fail
  refine (deeds_any A2 c2 30 cs _ hL2 hl2 hc2 hn2 (by omega)).mono ?_
  rintro e w3 ⟨Ad, cd, ds, rfl, hD, hdl, hb4⟩
  have hb5 := hb3.trans (hb4.mono hb3.size)
  have hs3 := hs.below hb4
  have hDS := hD.ds
  have hchk := hD.chk
  have hok := hsm.ok
  obtain ⟨hcap1, hcap2, hcap3, hcap4⟩ := hD.or.caps
  rw [List.length_map] at hcap1
  clear hD hb3 hb4 hs hL2 hn2 hsm
  go_wp2_with fail
  refine (within_any cut (ds.length + 1) (by omega) (by omega) _).mono ?_
  rintro e w' ⟨rfl, rfl⟩
  have hct := wi_lt cut (ds.length + 1) (by omega)
  generalize wi cut (ds.length + 1) = ct at hct ⊢
  go_wp2_with fail
  have hser0 := serial_ok As Ad cs' cd s ds w3 hs3 hok hDS (by omega) hchk
  have hlen := serV_len (valOf s) (ds.map (·.d))
  rw [List.length_map] at hlen
  have hsp : serV (valOf s) (ds.map (·.d)) = ((serV (serV (valOf s) ((ds.take ct).map (·.d))).1 ((ds.drop ct).map (·.d))).1, (serV (valOf s) ((ds.take ct).map (·.d))).2 ++ (serV (serV (valOf s) ((ds.take ct).map (·.d))).1 ((ds.drop ct).map (·.d))).2) := by rw [← serV_append, ← List.map_append, List.take_append_drop]
  obtain ⟨vk, hv0, hvs, hvl⟩ := serV_steps (valOf s) ds
  have hlt : (ds.take ct).length = ct := by simp; omega
  have hld : (ds.drop ct).length = ds.length - ct := by simp
  have hc1 : ∀ x ∈ ds.take ct, chkD x.d = 0 := fun x hx => hchk x (List.mem_of_mem_take hx)
  have hc2' : ∀ x ∈ ds.drop ct, chkD x.d = 0 := fun x hx => hchk x (List.mem_of_mem_drop hx)
  have hser1 : ∀ W D cc, SV W As cs' s → DS W D (ds.take ct) → Calls Try.prog 21 #[.slice As s.length cs', .slice D ct cc] W (RetSer W (serV (valOf s) ((ds.take ct).map (·.d)))) := fun W D cc h1 h2 => by
    have := serial_ok As D cs' cc s (ds.take ct) W h1 hok h2 (by omega) hc1
    rw [hlt] at this
    exact this
  have hser2 : ∀ W D cc Aa ca a, SV W Aa ca a → Ok a → valOf a = (serV (valOf s) ((ds.take ct).map (·.d))).1 → DS W D (ds.drop ct) → Calls Try.prog 21 #[.slice Aa a.length ca, .slice D (ds.length - ct) cc] W (RetSer W (serV (serV (valOf s) ((ds.take ct).map (·.d))).1 ((ds.drop ct).map (·.d)))) := fun W D cc Aa ca a h1 h2 h3 h4 => by
    have := serial_ok Aa D ca cc a (ds.drop ct) W h1 h2 h4 (by omega) hc2'
    rw [hld, h3] at this
    exact this
  generalize serV (serV (valOf s) ((ds.take ct).map (·.d))).1 ((ds.drop ct).map (·.d)) = r2 at hsp hser2
  generalize serV (valOf s) ((ds.take ct).map (·.d)) = r1 at hsp hser1 hser2
  generalize serV (valOf s) (ds.map (·.d)) = r at hsp hser0 hlen hvs hvl
  have HSP := hideP hsp
  have HV0 := hideP hv0
  have HVS := hideP hvs
  have HVL := hideP hvl
  have HLEN := hideP hlen
  have HCHK := hideP hchk
  have H1 := hideP hser1
  have H2 := hideP hser2
  clear hsp hv0 hvs hvl hlen hchk hser1 hser2 hc1 hc2' hlt hld
  refine hser0.mono ?_
  rintro e w4 ⟨Ax, cx, x, Ao, co, rfl, hOx, hokx, hvx, hOo, hb6⟩
  have hs4 := hs3.below hb6
  have hD4 := hDS.below hb6
  have hx4 := hOx.sv
  have ho4 := hOo.vs
  have hb7 := hb5.trans (hb6.mono hb5.size)
  have HVX := hideP hvx
  have hcm : cd ≤ 9223372036854775807 := by unfold maxLen at hcap2; exact hcap2
  have k1 : (0 : Int) ≤ (ct : Int) := by omega
  have k2 : (ct : Int) ≤ (cd : Int) := by omega
  have k3 : (ct : Int) ≤ (ds.length : Int) := by omega
  clear hDS hs3 hOx hvx hOo hb5 hb6 hcap2 hser0
  rcases Ad with _ | ⟨g, z, sp⟩
  · obtain rfl := hcap3 rfl
    obtain rfl := List.length_eq_zero_iff.1 (show ds.length = 0 by omega)
    obtain rfl : ct = 0 := by simpa using hct
    go_wp2_with fail
    refine (H1.out _ _ _ hs4 DS.nil).mono ?_
    rintro e w5 ⟨Aa, ca, a, A1, c1, rfl, hOa, hoka, hva, hO1, hb8⟩
    have hb9 := hb7.trans (hb8.mono hb7.size)
    have hs5 := hs4.below hb8
    have hD5 := hD4.below hb8
    have hx5 := hx4.below hb8
    have ho5 := ho4.below hb8
    have ha5 := hOa.sv
    have hv1 := hO1.vs
    have HVA := hideP hva
    clear hb7 hb8 hs4 hx4 ho4 hOa hO1 hva hD4 H1
    go_wp2_with fail
    refine (H2.out _ _ _ _ _ _ ha5 hoka HVA.out DS.nil).mono ?_
    rintro e w6 ⟨Ab, cb, b, A3, c3, rfl, hOb, hokb, hvb, hO3, hb10⟩
    have hb11 := hb9.trans (hb10.mono hb9.size)
    have hs6 := hs5.below hb10
    have hD6 := hD5.below hb10
    have hx6 := hx5.below hb10
    have ho6 := ho5.below hb10
    have hv2 := hv1.below hb10
    have hbb6 := hOb.sv
    have hv3 := hO3.vs
    obtain rfl : b = x := hokb.ext hokx (fun k => by rw [hvb, HVX.out, HSP.out])
    have hsm6 := hokb.small
    clear hb9 hb10 hs5 hD5 hx5 ho5 hv1 hOb hvb hO3 H2 ha5
    have hla : r1.2.length + r2.2.length ≤ 100 := by have := HLEN.out; rw [HSP.out] at this; simp only [List.length_append] at this; omega
    go_wp2_with fail
    refine (equal_same _ _ _ _ b _ hbb6.ps hx6.ps (by omega)).mono ?_
    rintro e w7 ⟨rfl, hb12⟩
    have hb13 := hb11.trans (hb12.mono hb11.size)
    have hs7 := hs6.below hb12
    have hD7 := hD6.below hb12
    have hx7 := hx6.below hb12
    have ho7 := ho6.below hb12
    have hv4 := hv2.below hb12
    have hv5 := hv3.below hb12
    clear hb11 hb12 hs6 hD6 hx6 ho6 hv2 hv3 hbb6
    go_wp2_with fail
    refine (bconcat2 _ _ rfl A1 A3 _ _ c1 c3 r1.2 r2.2 rfl rfl hv4 hv5 (by omega)).mono ?_
    rintro e w8 ⟨Ac, cc, rfl, hOc, hb14⟩
    have hb15 := hb13.trans (hb14.mono hb13.size)
    have hs8 := hs7.below hb14
    have hD8 := hD7.below hb14
    have hx8 := hx7.below hb14
    have ho8 := ho7.below hb14
    have hv6 := hOc.vs
    rw [← show r.2 = r1.2 ++ r2.2 by rw [HSP.out]] at hv6 ⊢
    have hlal : r.2.length ≤ 100 := by rw [HLEN.out]; omega
    clear hb13 hb14 hs7 hD7 hx7 ho7 hv4 hv5 hOc
    go_wp2_with fail
    refine (bequal_same _ _ _ _ r.2 _ hv6 ho8 (by omega)).mono ?_
    rintro e w9 ⟨rfl, hb16⟩
    have hb17 := hb15.trans (hb16.mono hb15.size)
    have hs9 := hs8.below hb16
    have hD9 := hD8.below hb16
    have hx9 := hx8.below hb16
    have ho9 := ho8.below hb16
    clear hb15 hb16 hs8 hD8 hx8 ho8 hv6
    go_wp2_with fail
    go_loopw [7, 86] (StepInv w9 vk ([] : List Dl).length) (fun _ i _ => ([] : List Dl).length - (intOf i).toNat)
    case atStart => exact ⟨0, As, cs', s, Nat.zero_le _, rfl, rfl, hs9, hok, HV0.out.symm, Below.refl _ _⟩
    case round =>
      obtain ⟨k, Ak, ck, lk, hk, rfl, rfl, hsk, hokk, hvk, hb⟩ := hrel
      have HVK := hideP hvk
      clear hvk hs9
      have hk0 : k = 0 := by simpa using hk
      subst hk0
      obtain rfl : lk = b := hokk.ext hokx (fun j => by rw [HVK.out, HVX.out, show (0 : Nat) = ([] : List Dl).length from rfl, HVL.out])
      have hx10 := hx9.below hb
      have hb18 := hb17.trans (hb.mono hb17.size)
      go_wp2_with fail
      refine (equal_same _ _ _ _ lk _ hsk.ps hx10.ps (by omega)).mono ?_
      rintro e w11 ⟨rfl, hb19⟩
      have hb20 := hb18.trans (hb19.mono hb18.size)
      go_wp2_with fail
      go_ret
      exact ⟨rfl, hb20⟩
  · obtain ⟨g', e', _, _⟩ := hcap4 _ rfl
    injection e' with e1 e2 e3
    subst e1; subst e2; subst e3
    clear hcap3 hcap4
    by_cases hcc : cd = ct
    · have hnil : ds.drop ct = [] := List.drop_of_length_le (by omega)
      go_wp2_with fail
      refine (H1.out _ _ _ hs4 (hD4.take_ ct)).mono ?_
      rintro e w5 ⟨Aa, ca, a, A1, c1, rfl, hOa, hoka, hva, hO1, hb8⟩
      have hb9 := hb7.trans (hb8.mono hb7.size)
      have hs5 := hs4.below hb8
      have hD5 := hD4.below hb8
      have hx5 := hx4.below hb8
      have ho5 := ho4.below hb8
      have ha5 := hOa.sv
      have hv1 := hO1.vs
      have HVA := hideP hva
      clear hb7 hb8 hs4 hx4 ho4 hOa hO1 hva hD4 H1
      go_wp2_with fail
      refine (H2.out _ _ _ _ _ _ ha5 hoka HVA.out (by rw [hnil]; exact DS.nil)).mono ?_
      rintro e w6 ⟨Ab, cb, b, A3, c3, rfl, hOb, hokb, hvb, hO3, hb10⟩
      have hb11 := hb9.trans (hb10.mono hb9.size)
      have hs6 := hs5.below hb10
      have hD6 := hD5.below hb10
      have hx6 := hx5.below hb10
      have ho6 := ho5.below hb10
      have hv2 := hv1.below hb10
      have hbb6 := hOb.sv
      have hv3 := hO3.vs
      obtain rfl : b = x := hokb.ext hokx (fun k => by rw [hvb, HVX.out, HSP.out])
      have hsm6 := hokb.small
      clear hb9 hb10 hs5 hD5 hx5 ho5 hv1 hOb hvb hO3 H2 ha5
      have hla : r1.2.length + r2.2.length ≤ 100 := by have := HLEN.out; rw [HSP.out] at this; simp only [List.length_append] at this; omega
      go_wp2_with fail
      refine (equal_same _ _ _ _ b _ hbb6.ps hx6.ps (by omega)).mono ?_
      rintro e w7 ⟨rfl, hb12⟩
      have hb13 := hb11.trans (hb12.mono hb11.size)
      have hs7 := hs6.below hb12
      have hD7 := hD6.below hb12
      have hx7 := hx6.below hb12
      have ho7 := ho6.below hb12
      have hv4 := hv2.below hb12
      have hv5 := hv3.below hb12
      clear hb11 hb12 hs6 hD6 hx6 ho6 hv2 hv3 hbb6
      go_wp2_with fail
      refine (bconcat2 _ _ rfl A1 A3 _ _ c1 c3 r1.2 r2.2 rfl rfl hv4 hv5 (by omega)).mono ?_
      rintro e w8 ⟨Ac, cc, rfl, hOc, hb14⟩
      have hb15 := hb13.trans (hb14.mono hb13.size)
      have hs8 := hs7.below hb14
      have hD8 := hD7.below hb14
      have hx8 := hx7.below hb14
      have ho8 := ho7.below hb14
      have hv6 := hOc.vs
      rw [← show r.2 = r1.2 ++ r2.2 by rw [HSP.out]] at hv6 ⊢
      have hlal : r.2.length ≤ 100 := by rw [HLEN.out]; omega
      clear hb13 hb14 hs7 hD7 hx7 ho7 hv4 hv5 hOc
      go_wp2_with fail
      refine (bequal_same _ _ _ _ r.2 _ hv6 ho8 (by omega)).mono ?_
      rintro e w9 ⟨rfl, hb16⟩
      have hb17 := hb15.trans (hb16.mono hb15.size)
      have hs9 := hs8.below hb16
      have hD9 := hD8.below hb16
      have hx9 := hx8.below hb16
      have ho9 := ho8.below hb16
      clear hb15 hb16 hs8 hD8 hx8 ho8 hv6
      go_wp2_with fail
      go_loopw [7, 86] (StepInv w9 vk ds.length) (fun _ i _ => ds.length - (intOf i).toNat)
      case atStart => exact ⟨0, As, cs', s, Nat.zero_le _, rfl, rfl, hs9, hok, HV0.out.symm, Below.refl _ _⟩
      case round =>
        obtain ⟨k, Ak, ck, lk, hk, rfl, rfl, hsk, hokk, hvk, hb⟩ := hrel
        have HVK := hideP hvk
        clear hvk hs9
        by_cases hlt : k < ds.length
        · have hor := (ho9.below hb) k _ (by rw [List.getElem?_map, (HVS.out k hlt).2]; rfl)
          obtain ⟨bo, oo, rfl, _, q2⟩ := hor
          obtain ⟨⟨b1, o1, eA, hbl, q1⟩, hos⟩ := (hD9.below hb).at_ hlt
          cases eA
          rw [Nat.zero_add] at q1
          have hcd := HCHK.out _ (List.getElem_mem hlt)
          have HN := hideP (HVS.out k hlt).1
          generalize ds[k] = x at q1 hos hcd q2 HN
          obtain ⟨Dx, cx', dx⟩ := x
          simp only [dlV] at q1
          simp only at hos hcd q2 HN
          have hab := (Below.refl wr.heap.size wr).alloc (Nat.le_refl _) (.cells #[.slice Dx dx.length cx'] 31)
          have hb18 := hb.alloc hb.size (.cells #[.slice Dx dx.length cx'] 31)
          have hs10 := hsk.below hab
          have hos10 := hos.go hab
          have hr := HLEN.out
          have u1 : (0 : Int) ≤ (k : Int) := by omega
          have u2 : (k : Int) < (r.2.length : Int) := by omega
          clear hr
          go_wp2_with fail
          have q3 := (hab.cell (p := ⟨bo, oo + k, none⟩) (cell_lt q2)).trans q2
          generalize wr.alloc (.cells #[.slice Dx dx.length cx'] 31) = w10 at hb18 hs10 hos10 q3 ⊢
          have hbo : bo < w10.heap.size := cell_lt q3
          refine (rrun_ok Ak Dx ck cx' lk dx _ hs10 hokk hos10 hcd).mono ?_
          rintro e w11 ⟨A6, c6, l6, rfl, hO6, hok6, hv6, hb19⟩
          rw [HVK.out] at hv6 ⊢
          have q4 := (hb19.cell (p := ⟨bo, oo + k, none⟩) hbo).trans q3
          have hb20 := hb18.trans (hb19.mono hb18.size)
          have HV6 := hideP (hv6.trans HN.out.symm)
          have hx6 := hO6.sv
          clear hv6 hO6 q2 q3 hab hb18 hb19 hs10 hos10 hos hsk
          generalize (doneV (vk k) dx).2 = ok at q4 ⊢
          have dk : (ok != ok) = false := by simp
          go_wp2_with fail
          go_roundw
          case rel => exact ⟨k + 1, A6, c6, l6, by omega, by go_num, rfl, hx6, hok6, HV6.out, hb20⟩
          case measure => simp [intOf]; omega
        · obtain rfl : lk = b := hokk.ext hokx (fun j => by rw [HVK.out, HVX.out, show k = ds.length by omega, HVL.out])
          have hx10 := hx9.below hb
          have hb18 := hb17.trans (hb.mono hb17.size)
          go_wp2_with fail
          refine (equal_same _ _ _ _ lk _ hsk.ps hx10.ps (by omega)).mono ?_
          rintro e w11 ⟨rfl, hb19⟩
          have hb20 := hb18.trans (hb19.mono hb18.size)
          go_wp2_with fail
          go_ret
          exact ⟨rfl, hb20⟩
    · have dcc : ¬ cd = ct := hcc
      go_wp2_with fail
      refine (H1.out _ _ _ hs4 (hD4.take_ ct)).mono ?_
      rintro e w5 ⟨Aa, ca, a, A1, c1, rfl, hOa, hoka, hva, hO1, hb8⟩
      have hb9 := hb7.trans (hb8.mono hb7.size)
      have hs5 := hs4.below hb8
      have hD5 := hD4.below hb8
      have hx5 := hx4.below hb8
      have ho5 := ho4.below hb8
      have ha5 := hOa.sv
      have hv1 := hO1.vs
      have HVA := hideP hva
      clear hb7 hb8 hs4 hx4 ho4 hOa hO1 hva hD4 H1
      go_wp2_with fail
      refine (H2.out _ _ _ _ _ _ ha5 hoka HVA.out (by simpa using hD5.drop_ ct)).mono ?_
      rintro e w6 ⟨Ab, cb, b, A3, c3, rfl, hOb, hokb, hvb, hO3, hb10⟩
      have hb11 := hb9.trans (hb10.mono hb9.size)
      have hs6 := hs5.below hb10
      have hD6 := hD5.below hb10
      have hx6 := hx5.below hb10
      have ho6 := ho5.below hb10
      have hv2 := hv1.below hb10
      have hbb6 := hOb.sv
      have hv3 := hO3.vs
      obtain rfl : b = x := hokb.ext hokx (fun k => by rw [hvb, HVX.out, HSP.out])
      have hsm6 := hokb.small
      clear hb9 hb10 hs5 hD5 hx5 ho5 hv1 hOb hvb hO3 H2 ha5
      have hla : r1.2.length + r2.2.length ≤ 100 := by have := HLEN.out; rw [HSP.out] at this; simp only [List.length_append] at this; omega
      go_wp2_with fail
      refine (equal_same _ _ _ _ b _ hbb6.ps hx6.ps (by omega)).mono ?_
      rintro e w7 ⟨rfl, hb12⟩
      have hb13 := hb11.trans (hb12.mono hb11.size)
      have hs7 := hs6.below hb12
      have hD7 := hD6.below hb12
      have hx7 := hx6.below hb12
      have ho7 := ho6.below hb12
      have hv4 := hv2.below hb12
      have hv5 := hv3.below hb12
      clear hb11 hb12 hs6 hD6 hx6 ho6 hv2 hv3 hbb6
      go_wp2_with fail
      refine (bconcat2 _ _ rfl A1 A3 _ _ c1 c3 r1.2 r2.2 rfl rfl hv4 hv5 (by omega)).mono ?_
      rintro e w8 ⟨Ac, cc, rfl, hOc, hb14⟩
      have hb15 := hb13.trans (hb14.mono hb13.size)
      have hs8 := hs7.below hb14
      have hD8 := hD7.below hb14
      have hx8 := hx7.below hb14
      have ho8 := ho7.below hb14
      have hv6 := hOc.vs
      rw [← show r.2 = r1.2 ++ r2.2 by rw [HSP.out]] at hv6 ⊢
      have hlal : r.2.length ≤ 100 := by rw [HLEN.out]; omega
      clear hb13 hb14 hs7 hD7 hx7 ho7 hv4 hv5 hOc
      go_wp2_with fail
      refine (bequal_same _ _ _ _ r.2 _ hv6 ho8 (by omega)).mono ?_
      rintro e w9 ⟨rfl, hb16⟩
      have hb17 := hb15.trans (hb16.mono hb15.size)
      have hs9 := hs8.below hb16
      have hD9 := hD8.below hb16
      have hx9 := hx8.below hb16
      have ho9 := ho8.below hb16
      clear hb15 hb16 hs8 hD8 hx8 ho8 hv6
      go_wp2_with fail
      go_loopw [7, 86] (StepInv w9 vk ds.length) (fun _ i _ => ds.length - (intOf i).toNat)
      case atStart => exact ⟨0, As, cs', s, Nat.zero_le _, rfl, rfl, hs9, hok, HV0.out.symm, Below.refl _ _⟩
      case round =>
        obtain ⟨k, Ak, ck, lk, hk, rfl, rfl, hsk, hokk, hvk, hb⟩ := hrel
        have HVK := hideP hvk
        clear hvk hs9
        by_cases hlt : k < ds.length
        · have hor := (ho9.below hb) k _ (by rw [List.getElem?_map, (HVS.out k hlt).2]; rfl)
          obtain ⟨bo, oo, rfl, _, q2⟩ := hor
          obtain ⟨⟨b1, o1, eA, hbl, q1⟩, hos⟩ := (hD9.below hb).at_ hlt
          cases eA
          rw [Nat.zero_add] at q1
          have hcd := HCHK.out _ (List.getElem_mem hlt)
          have HN := hideP (HVS.out k hlt).1
          generalize ds[k] = x at q1 hos hcd q2 HN
          obtain ⟨Dx, cx', dx⟩ := x
          simp only [dlV] at q1
          simp only at hos hcd q2 HN
          have hab := (Below.refl wr.heap.size wr).alloc (Nat.le_refl _) (.cells #[.slice Dx dx.length cx'] 31)
          have hb18 := hb.alloc hb.size (.cells #[.slice Dx dx.length cx'] 31)
          have hs10 := hsk.below hab
          have hos10 := hos.go hab
          have hr := HLEN.out
          have u1 : (0 : Int) ≤ (k : Int) := by omega
          have u2 : (k : Int) < (r.2.length : Int) := by omega
          clear hr
          go_wp2_with fail
          have q3 := (hab.cell (p := ⟨bo, oo + k, none⟩) (cell_lt q2)).trans q2
          generalize wr.alloc (.cells #[.slice Dx dx.length cx'] 31) = w10 at hb18 hs10 hos10 q3 ⊢
          have hbo : bo < w10.heap.size := cell_lt q3
          refine (rrun_ok Ak Dx ck cx' lk dx _ hs10 hokk hos10 hcd).mono ?_
          rintro e w11 ⟨A6, c6, l6, rfl, hO6, hok6, hv6, hb19⟩
          rw [HVK.out] at hv6 ⊢
          have q4 := (hb19.cell (p := ⟨bo, oo + k, none⟩) hbo).trans q3
          have hb20 := hb18.trans (hb19.mono hb18.size)
          have HV6 := hideP (hv6.trans HN.out.symm)
          have hx6 := hO6.sv
          clear hv6 hO6 q2 q3 hab hb18 hb19 hs10 hos10 hos hsk
          generalize (doneV (vk k) dx).2 = ok at q4 ⊢
          have dk : (ok != ok) = false := by simp
          go_wp2_with fail
          go_roundw
          case rel => exact ⟨k + 1, A6, c6, l6, by omega, by go_num, rfl, hx6, hok6, HV6.out, hb20⟩
          case measure => simp [intOf]; omega
        · obtain rfl : lk = b := hokk.ext hokx (fun j => by rw [HVK.out, HVX.out, show k = ds.length by omega, HVL.out])
          have hx10 := hx9.below hb
          have hb18 := hb17.trans (hb.mono hb17.size)
          go_wp2_with fail
          refine (equal_same _ _ _ _ lk _ hsk.ps hx10.ps (by omega)).mono ?_
          rintro e w11 ⟨rfl, hb19⟩
          have hb20 := hb18.trans (hb19.mono hb18.size)
          go_wp2_with fail
          go_ret
          exact ⟨rfl, hb20⟩
end Go.Proofs.Ytkikhananegclaa
