/-
  rokeep.DeedReads: the law answers true.
-/
import Derived.Test.YtkikhananegclaaWritesWalk
set_option linter.unusedVariables false
set_option linter.unusedSimpArgs false
namespace Go.Proofs.Ytkikhananegclaa
open Go.RowKit

theorem rdO_key {o : Opr} (h : chkO o = 0) {k : ByteArray} (hk : k ∈ rdO o) : keyB k = true := by
  have hc := chkO_zero.1 h
  have hkd := kinds h
  obtain ⟨kd, key, src, n⟩ := o
  simp only at hc hkd
  rcases hkd with rfl | rfl | rfl | rfl | rfl <;> simp [rdO] at hk
  · rw [hk]; exact hc.2.2.1
  · rw [hk]; exact (hc.2.2.2.1 (by simp)).1
  · rw [hk]; exact hc.2.2.1
  · rcases hk with rfl | rfl
    · exact (hc.2.2.2.1 (by simp)).1
    · exact hc.2.2.1
theorem wrO_key {o : Opr} (h : chkO o = 0) {k : ByteArray} (hk : k ∈ wrO o) : keyB k = true := by
  have hc := chkO_zero.1 h
  have hkd := kinds h
  obtain ⟨kd, key, src, n⟩ := o
  simp only at hc hkd
  rcases hkd with rfl | rfl | rfl | rfl | rfl <;> simp [wrO] at hk
  · rw [hk]; exact hc.2.2.1
  · rw [hk]; exact hc.2.2.1
  · rw [hk]; exact hc.2.2.1
  · rcases hk with rfl | rfl
    · exact (hc.2.2.2.1 (by simp)).1
    · exact hc.2.2.1
theorem rdL_key {d : List Opr} (h : ∀ o ∈ d, chkO o = 0) {k : ByteArray} (hk : k ∈ rdL d) : keyB k = true := by
  obtain ⟨o, ho, hk⟩ := mem_rdL.1 hk; exact rdO_key (h o ho) hk
theorem wrL_key {d : List Opr} (h : ∀ o ∈ d, chkO o = 0) {k : ByteArray} (hk : k ∈ wrL d) : keyB k = true := by
  obtain ⟨o, ho, hk⟩ := mem_wrL.1 hk; exact wrO_key (h o ho) hk
/-- in either of two states that agree on what is read -/
theorem doneV_reads {d : List Opr} (hd : ∀ o ∈ d, chkO o = 0) {v v' : VF} (h : ∀ k ∈ rdL d, v k = v' k) : (doneV v d).2 = (doneV v' d).2 ∧ ((doneV v d).2 = true → ∀ k ∈ wrL d, (doneV v d).1 k = (doneV v' d).1 k) := by
  rcases runV_reads hd (fun k => k ∈ rdL d) (fun k h => h) h with ⟨e1, e2⟩ | ⟨u, u', e1, e2, _, hw⟩
  · rw [doneV_none e1, doneV_none e2]; exact ⟨rfl, fun h => by cases h⟩
  · rw [doneV_some e1, doneV_some e2]; exact ⟨rfl, fun _ => hw⟩
/-- while what is read is put into the other store -/
def PutInv (w4 : World) (vs : VF) (rs : List ByteArray) (t i : Value) (wr : World) : Prop :=
  ∃ (j : Nat) (A : Option Addr) (c : Nat) (l : List Pr), j ≤ rs.length ∧ i = .int .i64 j ∧ t = .slice A l.length c ∧ SV wr A c l ∧ Ok l ∧ (∀ k ∈ rs.take j, valOf l k = vs k) ∧ Below w4.heap.size w4 wr
theorem put_agree {vs v v' : VF} {rs : List ByteArray} {j : Nat} (h : j < rs.length) (hv : ∀ k ∈ rs.take j, v k = vs k) (hu : v' = upd v rs[j] (vs rs[j])) : ∀ k ∈ rs.take (j + 1), v' k = vs k := by
  intro k hk
  rw [List.take_succ_eq_append_getElem h] at hk
  rw [hu]
  by_cases e : k = rs[j]
  · rw [e, upd_same]
  · rw [upd_other _ _ e]
    rcases List.mem_append.1 hk with hk | hk
    · exact hv k hk
    · exact absurd (by simpa using hk) e

set_option maxHeartbeats 2000000 in
set_option maxRecDepth 100000 in
theorem reads_any (A A1 A2 : Option Addr) (c c1 c2 : Nat) (zs ms : List Int) (cs : List Cl) (w : World) (hA : IS w A zs) (hl : zs.length ≤ c) (hc : c ≤ 9223372036854775807) (hn : A = none → c = 0)
    (hM : IS w A1 ms) (hl1 : ms.length ≤ c1) (hc1 : c1 ≤ 9223372036854775807) (hn1 : A1 = none → c1 = 0)
    (hL : LS w A2 cs) (hl2 : cs.length ≤ c2) (hc2 : c2 ≤ 9223372036854775807) (hn2 : A2 = none → c2 = 0) :
    Calls Try.prog 4 #[.slice A zs.length c, .slice A1 ms.length c1, .slice A2 cs.length c2] w fun e w' => e = .returned (.bool true) ∧ Below w.heap.size w w' := by
  go_enter Try.func4, Try.ntmps4
  go_wp2_with fail
  refine (dbegun_any _).mono ?_
  rintro e w1 ⟨rfl, hb1⟩
  have hA1 := hA.below hb1
  have hM1 := hM.below hb1
  have hL1 := hL.below hb1
  clear hA hL hM
  go_wp2_with fail
  refine (deeds_any A2 c2 6 cs _ hL1 hl2 hc2 hn2 (by omega)).mono ?_
  rintro e w3 ⟨Ad, cd, ds, rfl, hD, hdl, hb4⟩
  have hb5 := hb1.trans (hb4.mono hb1.size)
  have hA3 := hA1.below hb4
  have hM3 := hM1.below hb4
  have hDS := hD.ds
  have hchk := hD.chk
  clear hD hb1 hb4 hA1 hM1 hL1 hn2
  go_wp2_with fail
  go_loopw [37] (fun i wr => ∃ k : Nat, k ≤ ds.length ∧ i = .int .i64 k ∧ Below w3.heap.size w3 wr) (fun i _ => ds.length - (intOf i).toNat)
  case atStart => exact ⟨0, Nat.zero_le _, rfl, Below.refl _ _⟩
  case round =>
    obtain ⟨k, hk, rfl, hb⟩ := hrel
    obtain ⟨wo, rfl⟩ : ∃ wo, wo = wr := ⟨_, rfl⟩
    by_cases hlt : k < ds.length
    · obtain ⟨⟨b, o, rfl, hbl, q1⟩, hos⟩ := (hDS.below hb).at_ hlt
      have hcd := hchk _ (List.getElem_mem hlt)
      generalize ds[k] = x at q1 hos hcd
      obtain ⟨Dx, cx, dx⟩ := x
      simp only [dlV] at q1
      simp only at hos hcd
      have hA4 := hA3.below hb
      have hM4 := hM3.below hb
      have hab := (Below.refl wo.heap.size wo).alloc (Nat.le_refl _) (.cells #[.slice Dx dx.length cx] 31)
      have hb9 := hb.alloc hb.size (.cells #[.slice Dx dx.length cx] 31)
      have hA9 := hA4.below hab
      have hM9 := hM4.below hab
      have hos9 := hos.go hab
      have hat : (wo.alloc (.cells #[.slice Dx dx.length cx] 31)).cell? ⟨wo.heap.size, 0, none⟩ = some (.slice Dx dx.length cx) := by simp
      have hatl : wo.heap.size < (wo.alloc (.cells #[.slice Dx dx.length cx] 31)).heap.size := by simp
      go_wp2_with fail
      generalize wo.alloc (.cells #[.slice Dx dx.length cx] 31) = w5 at hb9 hA9 hM9 hos9 hat hatl ⊢
      clear hab hA4 hM4 hos hb
      have hoc := (chkD_zero.1 hcd).2.2
      have hrk := hideP (fun k (h : k ∈ keysOf (rdL dx)) => rdL_key hoc ((keysOf_mem _ _).1 h))
      have hwk := hideP (fun k (h : k ∈ keysOf (wrL dx)) => wrL_key hoc ((keysOf_mem _ _).1 h))
      have hrm := hideP (fun k => keysOf_mem (rdL dx) k)
      have hwm := hideP (fun k => keysOf_mem (wrL dx) k)
      have hrl : (keysOf (rdL dx)).length ≤ 16 := by have := keysOf_len (rdL dx); have := rdL_len dx; have := (chkD_zero.1 hcd).2.1; omega
      have hwl : (keysOf (wrL dx)).length ≤ 16 := by have := keysOf_len (wrL dx); have := wrL_len dx; have := (chkD_zero.1 hcd).2.1; omega
      refine (pairs_any A c zs _ hA9 hl hc hn).mono ?_
      rintro e w6 ⟨As, cs', s, rfl, hs, hsm, hb10⟩
      have hb11 := hb9.trans (hb10.mono hb9.size)
      have hM6 := hM9.below hb10
      have hos6 := hos9.go hb10
      have hat6 := (hb10.cell (p := ⟨wo.heap.size, 0, none⟩) hatl).trans hat
      have hatl6 := Nat.lt_of_lt_of_le hatl hb10.size
      have hoks := hsm.ok
      clear hb9 hb10 hA9 hM9 hos9 hat hatl hsm
      go_wp2_with fail
      refine (pairs_any A1 c1 ms _ hM6 hl1 hc1 hn1).mono ?_
      rintro e w7 ⟨At, ct, t, rfl, ht, htm, hb12⟩
      have hb13 := hb11.trans (hb12.mono hb11.size)
      have hs7 := hs.below hb12
      have hos7 := hos6.go hb12
      have hat7 := (hb12.cell (p := ⟨wo.heap.size, 0, none⟩) hatl6).trans hat6
      have hatl7 := Nat.lt_of_lt_of_le hatl6 hb12.size
      have hokt := htm.ok
      clear hb11 hb12 hM6 hos6 hat6 hatl6 htm hs
      go_wp2_with fail
      refine (keys_ok Dx cx dx _ hos7 hcd).mono ?_
      rintro e w8 ⟨B1, e1, B2, e2, rfl, hT, hb14⟩
      have hb15 := hb13.trans (hb14.mono hb13.size)
      have hs8 := hs7.below hb14
      have ht8 := ht.below hb14
      have hos8 := hos7.go hb14
      have hat8 := (hb14.cell (p := ⟨wo.heap.size, 0, none⟩) hatl7).trans hat7
      have hatl8 := Nat.lt_of_lt_of_le hatl7 hb14.size
      have hr8 := hT.o1.vs
      have hw8 := hT.o2.vs
      clear hb13 hb14 hs7 ht hos7 hat7 hatl7 hT
      generalize keysOf (wrL dx) = ws at hw8 hwm hwl hwk ⊢
      generalize keysOf (rdL dx) = rs at hr8 hrm hrl hrk ⊢
      go_wp2_with fail
      go_loopw [10, 55] (PutInv w8 (valOf s) rs) (fun _ i _ => rs.length - (intOf i).toNat)
      case atStart => exact ⟨0, At, ct, t, Nat.zero_le _, rfl, rfl, ht8, hokt, by simp, Below.refl _ _⟩
      case round =>
        obtain ⟨j, Aj, cj, lj, hj, rfl, rfl, htj, hokj, hag, hbj⟩ := hrel
        clear ht8 hokt
        have HAG := hideP hag
        clear hag
        have hsj := hs8.below hbj
        have hss := hoks.small
        by_cases hjl : j < rs.length
        · obtain ⟨b3, o3, rfl, hb3l, q3⟩ := (hr8.below hbj) j (.string rs[j]) (by simp [hjl])
          have hkk := hrk.out _ (List.getElem_mem hjl)
          have HP := hideP (fun v' hu => put_agree (v' := v') hjl HAG.out hu)
          generalize rs[j] = key at q3 hkk HP
          have hvb := hoks.vb key
          go_wp2_with fail
          refine (get_ok As cs' s key _ hsj (by omega) hoks hkk).mono ?_
          rintro e wa ⟨rfl, hba⟩
          have hta := htj.below hba
          have hbja := hbj.trans (hba.mono hbj.size)
          generalize valOf s key = n at hvb HP ⊢
          go_wp2_with fail
          refine (put_st Aj cj lj key n _ hta hokj hkk hvb).mono ?_
          rintro e wb ⟨Ab, cb, lb, rfl, hsb, hokb, hvlb, hbb, _⟩
          have hbjb := hbja.trans (hbb.mono hbja.size)
          have HV := hideP (HP.out _ hvlb)
          clear hvlb hta htj hbj hba hbb hbja
          go_wp2_with fail
          go_roundw
          case rel => exact ⟨j + 1, Ab, cb, lb, by omega, by go_num, rfl, hsb, hokb, HV.out, hbjb⟩
          case measure => simp [intOf]; omega
        · have hagr : ∀ k ∈ rdL dx, valOf s k = valOf lj k := fun k hk => by
            have := HAG.out k (by rw [List.take_of_length_le (by omega)]; exact (hrm.out k).2 hk)
            exact this.symm
          have hdr := doneV_reads hoc hagr
          have HD1 := hideP hdr.1
          have HD2 := hideP hdr.2
          clear hagr hdr
          have hosj := hos8.go hbj
          have hatj := (hbj.cell (p := ⟨wo.heap.size, 0, none⟩) hatl8).trans hat8
          have hbk := hb15.trans (hbj.mono hb15.size)
          have hwj := hw8.below hbj
          have hatlj := Nat.lt_of_lt_of_le hatl8 hbj.size
          clear hs8 hr8 hw8 hos8 hat8 hatl8 hb15 hbj hrk HAG
          go_wp2_with fail
          refine (rrun_ok As Dx cs' cx s dx _ hsj hoks hosj hcd).mono ?_
          rintro e wa ⟨A6, c6, l6, rfl, hO6, hok6, hv6, hba⟩
          have hta := htj.below hba
          have hosa := hosj.go hba
          have hata := (hba.cell (p := ⟨wo.heap.size, 0, none⟩) hatlj).trans hatj
          have hwa := hwj.below hba
          have hbka := hbk.trans (hba.mono hbk.size)
          have hx6 := hO6.sv
          have HV6 := hideP hv6
          clear hv6 hO6 htj hosj hatj hatlj hwj hbk hba hsj
          go_wp2_with fail
          refine (rrun_ok Aj Dx cj cx lj dx _ hta hokj hosa hcd).mono ?_
          rintro e wb ⟨A7, c7, l7, rfl, hO7, hok7, hv7, hbb⟩
          have hx7 := hx6.below hbb
          have hy7 := hO7.sv
          have hwb := hwa.below hbb
          have hbkb := hbka.trans (hbb.mono hbka.size)
          have HV7 := hideP hv7
          clear hv7 hO7 hta hosa hata hwa hbka hbb hx6
          rw [← HD1.out]
          generalize (doneV (valOf s) dx).2 = ok at HD2 ⊢
          cases ok with
          | false =>
            go_wp2_with fail
            go_roundw
            case rel => exact ⟨k + 1, by omega, by go_num, hbkb⟩
            case measure => simp [intOf]; omega
          | true =>
            have HE := hideP (fun k (hk : k ∈ ws) => show valOf l6 k = valOf l7 k by rw [HV6.out, HV7.out]; exact HD2.out rfl k ((hwm.out k).1 hk))
            have hl6 := hok6.small
            have hl7 := hok7.small
            clear HD2 HV6 HV7
            go_wp2_with fail
            go_loopw [105] (fun i wr => ∃ j : Nat, j ≤ ws.length ∧ i = .int .i64 j ∧ Below wb.heap.size wb wr) (fun i _ => ws.length - (intOf i).toNat)
            case atStart => exact ⟨0, Nat.zero_le _, rfl, Below.refl _ _⟩
            case round =>
              obtain ⟨i, hi, rfl, hbi⟩ := hrel
              by_cases hil : i < ws.length
              · obtain ⟨b3, o3, rfl, hb3l, q3⟩ := (hwb.below hbi) i (.string ws[i]) (by simp [hil])
                have hkk := hwk.out _ (List.getElem_mem hil)
                have hee := HE.out _ (List.getElem_mem hil)
                generalize ws[i] = key at q3 hkk hee
                have hxi := hx7.below hbi
                have hyi := hy7.below hbi
                go_wp2_with fail
                refine (get_ok A6 c6 l6 key _ hxi (by omega) hok6 hkk).mono ?_
                rintro e wc ⟨rfl, hbc⟩
                have hyc := hyi.below hbc
                have hbic := hbi.trans (hbc.mono hbi.size)
                go_wp2_with fail
                refine (get_ok A7 c7 l7 key _ hyc (by omega) hok7 hkk).mono ?_
                rintro e wd ⟨rfl, hbd⟩
                have hbid := hbic.trans (hbd.mono hbic.size)
                have dd : (valOf l7 key != valOf l7 key) = false := by simp
                clear hee
                generalize valOf l7 key = n at dd ⊢
                go_wp2_with fail
                go_roundw
                case rel => exact ⟨i + 1, by omega, by go_num, hbid⟩
                case measure => simp [intOf]; omega
              · have hbf := hbkb.trans (hbi.mono hbkb.size)
                go_wp2_with fail
                go_roundw
                case rel => exact ⟨k + 1, by omega, by go_num, hbf⟩
                case measure => simp [intOf]; omega
    · have hb12 := hb5.trans (hb.mono hb5.size)
      go_wp2_with fail
      go_ret
      exact ⟨rfl, hb12⟩
end Go.Proofs.Ytkikhananegclaa
