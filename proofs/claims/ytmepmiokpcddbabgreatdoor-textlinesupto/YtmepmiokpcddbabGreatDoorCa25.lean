/-
  roref.ReadLine: what it reads.
-/
import Derived.Test.YtmepmiokpcddbabGreatDoorCa18
import Derived.Test.YtmepmiokpcddbabGreatDoorCa22
import Derived.Test.YtmepmiokpcddbabGreatDoorCa24
import Derived.Test.YtmepmiokpcddbabGreatDoorCa12
import Derived.Test.YtmepmiokpcddbabGreatDoorCa21
import Derived.Test.YtmepmiokpcddbabGreatDoorCa9
import Derived.Deep.RegionWith
set_option linter.unusedVariables false
set_option linter.unusedSimpArgs false
namespace Go.Proofs.YtmepmiokpcddbabGreatDoor
open Go.RowKit
open Go.Lib hiding intOf

/-- three cells of an entry are stored -/
theorem en_two {wr : World} {g : Nat} {a b c d : Value} (h : Box wr g 45 #[a, b, c, d]) (x y : Value) :
    (wr.cell? ⟨g, 2, none⟩ = some c ∧ (wr.setCell ⟨g, 2, none⟩ x).cell? ⟨g, 3, none⟩ = some d) ∧ (wr.frozen? ⟨g, 2, none⟩ = false ∧ (wr.setCell ⟨g, 2, none⟩ x).frozen? ⟨g, 3, none⟩ = false) ∧ Box ((wr.setCell ⟨g, 2, none⟩ x).setCell ⟨g, 3, none⟩ y) g 45 #[a, b, x, y] := by
  have h1 := h.set 2 x
  have h2 := h1.set 3 y
  exact ⟨⟨h.cell 2 rfl, h1.cell 3 rfl⟩, ⟨h.frozen 2, h1.frozen 3⟩, h2⟩
theorem rd_len {l : List UInt8} {n : Nat} {z : Int} (h : rdN (l.drop (n + 1)) = some z) (hn : n < l.length) : n + 2 + (itoa z).length = l.length + 1 := by
  have h1 : itoa z = l.drop (n + 1) := (rdN_some h).1
  rw [h1, List.length_drop]; omega
theorem OO.set4 {w : World} {B g i : Nat} {D : Option Addr} {c : Nat} {d : List Opr} {v : Value} (h : OO w B D c d) (ht : Ty w g 45) : OO (w.setCell ⟨g, i, none⟩ v) B D c d := h.set1 ht (by decide)
set_option maxHeartbeats 8000000 in
set_option maxRecDepth 100000 in
theorem rrdln_any (s : ByteArray) (w : World) (hs : s.size < 4294967281) :
    Calls Tryz.prog 25 #[.string s] w (RetRe w s.data.toList) := by
  have b0 := (Below.refl w.heap.size w).alloc (Nat.le_refl _) (.cells #[.slice none 0 0, .bool false, .slice none 0 0, .slice none 0 0] 45)
  have x0 := Box.new w 45 #[.slice none 0 0, .bool false, .slice none 0 0, .slice none 0 0]
  have HC := hideP (cut_any s 10 (w.alloc (.cells #[.slice none 0 0, .bool false, .slice none 0 0, .slice none 0 0] 45)) (by omega))
  have HE := hideP (show rdE s.data.toList = if (cut s.data.toList [10]).2.2 = false then (7, ent0, 0) else if (prL (cut s.data.toList [10]).1).1 = 0 then (0, (prL (cut s.data.toList [10]).1).2, (cut s.data.toList [10]).1.length + 1) else ((prL (cut s.data.toList [10]).1).1, ent0, 0) from rfl)
  have hll : (cut s.data.toList [10]).1.length ≤ s.size := by
    have hsl : s.data.toList.length = s.size := by simp
    rcases cut_cases 10 s.data.toList with ⟨_, e⟩ | ⟨a, r, e1, _, e⟩
    · rw [e]; simp only; omega
    · rw [e]; simp only; have := congrArg List.length e1; simp at this; omega
  generalize cut s.data.toList [10] = ct at HC HE hll
  obtain ⟨l, rest, ended⟩ := ct
  simp only at HC HE hll
  go_enter Tryz.func25, Tryz.ntmps25
  go_wp2_with fail
  refine HC.out.mono ?_
  clear HC
  generalize w.alloc _ = w1 at b0 x0 ⊢
  rintro e w2 ⟨rfl, hb2⟩
  have b2 := b0.trans (hb2.mono b0.size)
  have x2 := x0.below hb2
  clear b0 x0 hb2
  have hlz : (bs l).size ≤ s.size := by rw [bs_size]; exact hll
  have HLD := hideP (bs_data l)
  have HLN := hideP (bs_size l)
  generalize bs l = li at hlz HLD HLN ⊢
  generalize bs rest = re at ⊢
  cases ended
  · have HV := hideP (show rdE s.data.toList = (7, ent0, 0) by rw [HE.out]; rfl)
    clear HE
    obtain ⟨⟨c0, c1, c2, c3⟩, ⟨f0, f1, f2, f3⟩, R⟩ := box_four x2 (.slice none 0 0) (.bool false) (.slice none 0 0) (.slice none 0 0)
    have r0 := R.cell 0 rfl
    have r1 := R.cell 1 rfl
    have r2 := R.cell 2 rfl
    have r3 := R.cell 3 rfl
    have HF := hideP (eo_four (w := w) (x := em0) x2 (Nat.le_refl _) (em0_eo _ _) b2 (.slice none 0 0) (.bool false) (.slice none 0 0) (.slice none 0 0))
    clear R x2 b2
    go_wp2_with fail
    exact bodyPost_ret (v := .tuple #[emV em0, .int .i64 0, .int .i64 7]) (by simp [results, Tryz.results25, go_sem, r0, r1, r2, r3, emV, emC, em0, noM]) rfl ⟨em0, by rw [HV.out]; rfl, by rw [HV.out]; rfl, by simp [em0], HF.out.1, HF.out.2⟩
  · have HE2 := hideP (show rdE s.data.toList = if (prL l).1 = 0 then (0, (prL l).2, l.length + 1) else ((prL l).1, ent0, 0) by rw [HE.out]; rfl)
    clear HE
    have HL := hideP (Any.strings_LastIndex (P := Tryz.prog) (ρ := Tryz.lastL_ren) Tryz.lastL li ⟨#[32]⟩ (by omega) w2)
    rw [HLD.out] at HL
    have HL' := hideP (show Calls Tryz.prog 84 #[.string li, .string ⟨#[32]⟩] w2 fun e w' => e = .returned (.int .i64 (lastIndex l [32])) ∧ w' = w2 from HL.out)
    clear HL
    have HP := hideP (show prL l = if lastIndex l [32] < 0 then (9, ent0) else match rdN (l.drop ((lastIndex l [32]).toNat + 1)) with
      | none => (9, ent0)
      | some n => if n ≠ (sm (l.take (lastIndex l [32]).toNat) : Int) then (8, ent0) else rdB (l.take (lastIndex l [32]).toNat) from rfl)
    rcases last_cases l with hz | ⟨n, hn, hz⟩
    · rw [hz] at HL' HP
      have HV := hideP (show rdE s.data.toList = (9, ent0, 0) by rw [HE2.out, HP.out]; rfl)
      clear HE2 HP hz
      go_wp2_with fail
      refine HL'.out.mono ?_
      rintro e w3 ⟨rfl, hw⟩
      rw [hw]
      clear hw HL'
      obtain ⟨⟨c0, c1, c2, c3⟩, ⟨f0, f1, f2, f3⟩, R⟩ := box_four x2 (.slice none 0 0) (.bool false) (.slice none 0 0) (.slice none 0 0)
      have r0 := R.cell 0 rfl
      have r1 := R.cell 1 rfl
      have r2 := R.cell 2 rfl
      have r3 := R.cell 3 rfl
      have HF := hideP (eo_four (w := w) (x := em0) x2 (Nat.le_refl _) (em0_eo _ _) b2 (.slice none 0 0) (.bool false) (.slice none 0 0) (.slice none 0 0))
      clear R x2 b2
      go_wp2_with fail
      exact bodyPost_ret (v := .tuple #[emV em0, .int .i64 0, .int .i64 9]) (by simp [results, Tryz.results25, go_sem, r0, r1, r2, r3, emV, emC, em0, noM]) rfl ⟨em0, by rw [HV.out]; rfl, by rw [HV.out]; rfl, by simp [em0], HF.out.1, HF.out.2⟩
    · rw [hz] at HL' HP
      have hnz : ((n : Int)).toNat = n := by omega
      rw [if_neg (by omega), hnz] at HP
      have hnl : n < li.size := by rw [HLN.out]; exact hn
      have K1 := hideP (show (li.extract 0 n).data.toList = l.take n by rw [ext_take1, HLD.out])
      have K2 := hideP (show (li.extract (n + 1) li.size).data.toList = l.drop (n + 1) by rw [ext_drop1, HLD.out])
      have K3 : (li.extract 0 n).size ≤ s.size := by
        have : (li.extract 0 n).data.toList.length = (li.extract 0 n).size := by simp
        rw [K1.out, List.length_take] at this
        omega
      have g0 : ¬ (n : Int) < 0 := by omega
      have g1 : (0 : Int) ≤ (n : Int) := by omega
      have g2 : (n : Int) ≤ (li.size : Int) := by omega
      have g3 : (0 : Int) ≤ (n : Int) + 1 := by omega
      have g4 : (n : Int) + 1 ≤ (li.size : Int) := by omega
      have pw : IntKind.i64.wrap ((n : Int) + 1) = (n : Int) + 1 := by simp only [IntKind.wrap_i64]; omega
      have pl : IntKind.i64.wrap ((li.size : Int) + 1) = (li.size : Int) + 1 := by simp only [IntKind.wrap_i64]; omega
      have tn : ((n : Int) + 1).toNat = n + 1 := by omega
      have HN := hideP (rnum_any (li.extract (n + 1) li.size) w2)
      rw [K2.out] at HN
      have HSU := hideP (fun W => rsum_any (li.extract 0 n) W (by omega))
      rw [K1.out] at HSU
      have HNL := hideP hn
      clear hz hn
      go_wp2_with fail
      refine HL'.out.mono ?_
      rintro e w3 ⟨rfl, hw⟩
      rw [hw]
      clear hw HL'
      go_wp2_with fail
      refine HN.out.mono ?_
      clear HN
      rintro e w4 ⟨⟨z, rfl, hzz⟩, hb4⟩
      have b4 := b2.trans (hb4.mono b2.size)
      have x4 := x2.below hb4
      clear b2 x2 hb4
      cases hrn : rdN (l.drop (n + 1)) with
      | none =>
        rw [hrn] at HP
        have HV := hideP (show rdE s.data.toList = (9, ent0, 0) by rw [HE2.out, HP.out]; rfl)
        clear HE2 HP hrn hzz
        obtain ⟨⟨c0, c1, c2, c3⟩, ⟨f0, f1, f2, f3⟩, R⟩ := box_four x4 (.slice none 0 0) (.bool false) (.slice none 0 0) (.slice none 0 0)
        have r0 := R.cell 0 rfl
        have r1 := R.cell 1 rfl
        have r2 := R.cell 2 rfl
        have r3 := R.cell 3 rfl
        have HF := hideP (eo_four (w := w) (x := em0) x4 (Nat.le_refl _) (em0_eo _ _) b4 (.slice none 0 0) (.bool false) (.slice none 0 0) (.slice none 0 0))
        clear R x4 b4
        go_wp2_with fail
        exact bodyPost_ret (v := .tuple #[emV em0, .int .i64 0, .int .i64 9]) (by simp [results, Tryz.results25, go_sem, r0, r1, r2, r3, emV, emC, em0, noM]) rfl ⟨em0, by rw [HV.out]; rfl, by rw [HV.out]; rfl, by simp [em0], HF.out.1, HF.out.2⟩
      | some y =>
        have hzy := hzz y hrn
        subst hzy
        rw [hrn] at HP
        have hrn0 := hrn
        clear hzz hrn
        have HSU2 := hideP (HSU.out w4)
        have HLEN := hideP (rd_len hrn0 HNL.out)
        clear HSU hrn0
        by_cases hsm : z = (sm (l.take n) : Int)
        · have HP2 := hideP (show prL l = rdB (l.take n) by rw [HP.out]; simp only; rw [if_neg (by simpa using hsm)])
          have hzb : -1000000000000000000 < z ∧ z < 1000000000000000000 := by have := sm_lt (l.take n); omega
          have dz : (z != (sm (l.take n) : Int)) = false := by simpa using hsm
          have HDE := hideP (fun W => dec_any z hzb.1 hzb.2 W)
          have HTL := hideP (show n + 2 + (bs (itoa z)).size = l.length + 1 from HLEN.out)
          have hts : (bs (itoa z)).size ≤ 21 := itoa_size (by omega) (by omega)
          clear HP hsm hzb HLEN
          generalize bs (itoa z) = ti at HDE HTL hts
          generalize (sm (l.take n) : Int) = zs at dz HSU2
          have HHP := hideP (fun W => Any.strings_HasPrefix (P := Tryz.prog) (ρ := Tryz.hasL_ren) Tryz.hasL (li.extract 0 n) ⟨#[109, 97, 112, 32]⟩ W)
          rw [show (ByteArray.mk #[109, 97, 112, 32]).data.toList = mapW from rfl, K1.out, show hasPrefix (l.take n) mapW = mapW.isPrefixOf (l.take n) from rfl] at HHP
          have HPP := hideP (fun W => show Calls Tryz.prog 86 #[.string (li.extract 0 n), .string ⟨#[109, 97, 112, 32]⟩] W fun e w' => e = .returned (.bool (mapW.isPrefixOf (l.take n))) ∧ w' = W from HHP.out W)
          clear HHP
          go_wp2_with fail
          refine HSU2.out.mono ?_
          rintro e w5 ⟨rfl, rfl⟩
          clear HSU2
          have al := (Below.refl w4.heap.size w4).alloc (Nat.le_refl _) (.cells #[.slice none 0 0, .bool false, .slice none 0 0, .slice none 0 0] 45)
          have xe := Box.new w4 45 #[.slice none 0 0, .bool false, .slice none 0 0, .slice none 0 0]
          have x5 := x4.below al
          have b5 := b4.trans (al.mono b4.size)
          have hne : ¬ w4.heap.size = w.heap.size := by have := x4.lt; omega
          clear al x4
          go_wp2_with fail
          generalize w4.alloc (.cells #[.slice none 0 0, .bool false, .slice none 0 0, .slice none 0 0] 45) = w5 at xe x5 b5 ⊢
          generalize hgx : w4.heap.size = gx at xe hne ⊢
          have HGX := hideP (show w.heap.size ≤ gx by rw [← hgx]; exact b4.size)
          clear hgx b4
          refine (HPP.out _).mono ?_
          rintro e w6 ⟨rfl, hw⟩
          rw [hw]
          clear hw HPP w6
          have hne2 : ¬ w.heap.size = gx := fun e => hne e.symm
          generalize li.extract 0 n = ln at K1 K3 ⊢
          cases hp : mapW.isPrefixOf (l.take n)
          · have HB := hideP (show prL l = if (rdD (l.take n)).1 = 0 then (0, ⟨false, (rdD (l.take n)).2, [], []⟩) else ((rdD (l.take n)).1, ent0) by rw [HP2.out]; unfold rdB; rw [hp]; rfl)
            have HBDD := hideP (rdD_bd (l.take n))
            have HRD := hideP (rrddeed_any ln w5 (by omega))
            rw [K1.out] at HRD
            clear hp HP2
            go_wp2_with fail
            refine HRD.out.mono ?_
            clear HRD
            rintro e w6 ⟨D, c, d, rfl, hd, hoo, hb6⟩
            have b6 := b5.trans (hb6.mono b5.size)
            have x6 := x5.below hb6
            have xe6 := xe.below hb6
            have k0 := xe6.cell 0 (v := .slice none 0 0) rfl
            have k1 := xe6.frozen 0
            have xe := xe6.set 0 (.slice D d.length c)
            have b9 := below_set1 (i := 0) (v := .slice D d.length c) b6 HGX.out
            have x9 := x6.other (a := ⟨gx, 0, none⟩) hne (.slice D d.length c)
            have heo : EO (w6.setCell ⟨gx, 0, none⟩ (.slice D d.length c)) w.heap.size ⟨D, c, d, false, noM⟩ := ⟨(hoo.mono b5.size).set4 xe6.ty, noM_mo _ _⟩
            rw [hd] at HB HBDD
            clear hoo hb6 b6 x6 xe6 x5 b5 hd
            by_cases hq : (rdD (l.take n)).1 = 0
            · have HV := hideP (show rdE s.data.toList = (0, ⟨false, d, [], []⟩, l.length + 1) by rw [HE2.out, HB.out, if_pos hq]; rfl)
              have HBD := HBDD
              rw [hq]
              clear hq HE2 HB
              go_wp2_with fail
              generalize w6.setCell ⟨gx, 0, none⟩ (.slice D d.length c) = w9 at xe b9 x9 heo ⊢
              have pw2 : IntKind.i64.wrap ((n : Int) + 2) = (n : Int) + 2 := by simp only [IntKind.wrap_i64]; omega
              have pw3 : IntKind.i64.wrap ((n : Int) + 2 + (ti.size : Int)) = (n : Int) + 2 + (ti.size : Int) := by simp only [IntKind.wrap_i64]; omega
              have e0 := xe.cell 0 (v := .slice D d.length c) rfl
              have e1 := xe.cell 1 (v := .bool false) rfl
              have e2 := xe.cell 2 (v := .slice none 0 0) rfl
              have e3 := xe.cell 3 (v := .slice none 0 0) rfl
              obtain ⟨⟨c0, c1, c2, c3⟩, ⟨f0, f1, f2, f3⟩, R⟩ := box_four x9 (.slice D d.length c) (.bool false) (.slice none 0 0) (.slice none 0 0)
              have r0 := R.drew.cell 0 rfl
              have r1 := R.drew.cell 1 rfl
              have r2 := R.drew.cell 2 rfl
              have r3 := R.drew.cell 3 rfl
              have HF := hideP (eo_four (w := w) (x := ⟨D, c, d, false, noM⟩) x9 (Nat.le_refl _) heo b9 (.slice D d.length c) (.bool false) (.slice none 0 0) (.slice none 0 0))
              clear R x9 xe heo b9
              go_wp2_with fail
              go_region_with (first
                | (go_at_call 76; refine (HDE.out _).mono ?_; rintro e wd ⟨rfl, rfl⟩))
              all_goals
                go_wp2_with fail
                exact bodyPost_ret (v := .tuple #[emV ⟨D, c, d, false, noM⟩, .int .i64 ((n : Int) + 2 + (ti.size : Int)), .int .i64 0]) (by simp [results, Tryz.results25, go_sem, r0, r1, r2, r3, emV, emC, noM]) rfl ⟨⟨D, c, d, false, noM⟩, by rw [HV.out, ← HTL.out]; push_cast; rfl, by rw [HV.out]; rfl, HBD.out, HF.out.1.below (Below.refl _ _).drew, HF.out.2.drew⟩
            · have HV := hideP (show rdE s.data.toList = ((rdD (l.take n)).1, ent0, 0) by rw [HE2.out, HB.out, if_neg hq]; simp only; rw [if_neg hq])
              have dq : ((rdD (l.take n)).1 != 0) = true := by simpa using hq
              clear hq HE2 HB heo
              generalize (rdD (l.take n)).1 = q at dq HV ⊢
              obtain ⟨⟨c0, c1, c2, c3⟩, ⟨f0, f1, f2, f3⟩, R⟩ := box_four x9 (.slice none 0 0) (.bool false) (.slice none 0 0) (.slice none 0 0)
              have r0 := R.cell 0 rfl
              have r1 := R.cell 1 rfl
              have r2 := R.cell 2 rfl
              have r3 := R.cell 3 rfl
              have HF := hideP (eo_four (w := w) (x := em0) x9 (Nat.le_refl _) (em0_eo _ _) b9 (.slice none 0 0) (.bool false) (.slice none 0 0) (.slice none 0 0))
              clear R x9 b9 
              go_wp2_with fail
              exact bodyPost_ret (v := .tuple #[emV em0, .int .i64 0, .int .i64 q]) (by simp [results, Tryz.results25, go_sem, r0, r1, r2, r3, emV, emC, em0, noM]) rfl ⟨em0, by rw [HV.out]; rfl, by rw [HV.out]; rfl, by simp [em0], HF.out.1, HF.out.2⟩
          · have HB := hideP (show prL l = if (rdM ((l.take n).drop 4)).1 = 0 then (0, ⟨true, [], (rdM ((l.take n).drop 4)).2.1, (rdM ((l.take n).drop 4)).2.2⟩) else ((rdM ((l.take n).drop 4)).1, ent0) by rw [HP2.out]; unfold rdB; rw [if_pos hp])
            have hl4 : 4 ≤ ln.size := by
              have h1 := congrArg List.length (pre_map hp)
              have h2 : ln.data.toList.length = ln.size := by simp
              rw [K1.out] at h2
              rw [List.length_append, show mapW.length = 4 from rfl] at h1
              omega
            have g5 : (4 : Int) ≤ (ln.size : Int) := by omega
            have hx4 : (ln.extract 4 ln.size).size ≤ ln.size := by rw [ByteArray.size_extract]; omega
            have HRM := hideP (fun W => rrdmap_any (ln.extract 4 ln.size) W (by omega))
            rw [show (ln.extract 4 ln.size).data.toList = (l.take n).drop 4 by rw [ext_drop1, K1.out]] at HRM
            have k0 := xe.cell 1 (v := .bool false) rfl
            have k1 := xe.frozen 1
            have xe1 := xe.set 1 (.bool true)
            have b6 := below_set1 (i := 1) (v := .bool true) b5 HGX.out
            have x6 := x5.other (a := ⟨gx, 1, none⟩) hne (.bool true)
            clear hp HP2 hx4 xe b5 x5 hl4
            go_wp2_with fail
            generalize w5.setCell ⟨gx, 1, none⟩ (.bool true) = w6 at xe1 b6 x6 ⊢
            refine (HRM.out _).mono ?_
            clear HRM k0 k1
            rintro e w7 ⟨m, rfl, hm, hmo, hb7⟩
            obtain ⟨A, ca, cs, O, co, os⟩ := m
            simp only at hm ⊢
            have b7 := b6.trans (hb7.mono b6.size)
            have x7 := x6.below hb7
            have xe7 := xe1.below hb7
            obtain ⟨⟨k0, k1⟩, ⟨k2, k3⟩, xe⟩ := en_two xe7 (.slice A cs.length ca) (.slice O os.length co)
            have b9 := below_set1 (i := 3) (v := .slice O os.length co) (below_set1 (i := 2) (v := .slice A cs.length ca) b7 HGX.out) HGX.out
            have x9 := (x7.other (a := ⟨gx, 2, none⟩) hne (.slice A cs.length ca)).other (a := ⟨gx, 3, none⟩) hne (.slice O os.length co)
            have heo : EO ((w7.setCell ⟨gx, 2, none⟩ (.slice A cs.length ca)).setCell ⟨gx, 3, none⟩ (.slice O os.length co)) w.heap.size ⟨none, 0, [], true, ⟨A, ca, cs, O, co, os⟩⟩ := by
              have h1 := hmo.mono b6.size
              exact ⟨OO.nil _ _, ⟨(h1.cuts.set xe7.ty (by decide)).set (xe7.set 2 _).ty (by decide), (h1.own.set xe7.ty (by decide)).set (xe7.set 2 _).ty (by decide)⟩⟩
            rw [hm] at HB
            clear hmo hb7 b7 x7 xe7 x6 b6 hm xe1
            by_cases hq : (rdM ((l.take n).drop 4)).1 = 0
            · have HV := hideP (show rdE s.data.toList = (0, ⟨true, [], cs, os⟩, l.length + 1) by rw [HE2.out, HB.out, if_pos hq]; rfl)
              have HBD := hideP (show ∀ o ∈ ([] : List Opr), -9223372036854775808 ≤ o.n ∧ o.n ≤ 9223372036854775807 by simp)
              rw [hq]
              clear hq HE2 HB
              go_wp2_with fail
              generalize (w7.setCell ⟨gx, 2, none⟩ (.slice A cs.length ca)).setCell ⟨gx, 3, none⟩ (.slice O os.length co) = w9 at xe b9 x9 heo ⊢
              have pw2 : IntKind.i64.wrap ((n : Int) + 2) = (n : Int) + 2 := by simp only [IntKind.wrap_i64]; omega
              have pw3 : IntKind.i64.wrap ((n : Int) + 2 + (ti.size : Int)) = (n : Int) + 2 + (ti.size : Int) := by simp only [IntKind.wrap_i64]; omega
              have e0 := xe.cell 0 (v := .slice none 0 0) rfl
              have e1 := xe.cell 1 (v := .bool true) rfl
              have e2 := xe.cell 2 (v := .slice A cs.length ca) rfl
              have e3 := xe.cell 3 (v := .slice O os.length co) rfl
              obtain ⟨⟨c0, c1, c2, c3⟩, ⟨f0, f1, f2, f3⟩, R⟩ := box_four x9 (.slice none 0 0) (.bool true) (.slice A cs.length ca) (.slice O os.length co)
              have r0 := R.drew.cell 0 rfl
              have r1 := R.drew.cell 1 rfl
              have r2 := R.drew.cell 2 rfl
              have r3 := R.drew.cell 3 rfl
              have HF := hideP (eo_four (w := w) (x := ⟨none, 0, [], true, ⟨A, ca, cs, O, co, os⟩⟩) x9 (Nat.le_refl _) heo b9 (.slice none 0 0) (.bool true) (.slice A cs.length ca) (.slice O os.length co))
              clear R x9 xe heo b9
              go_wp2_with fail
              go_region_with (first
                | (go_at_call 76; refine (HDE.out _).mono ?_; rintro e wd ⟨rfl, rfl⟩))
              all_goals
                go_wp2_with fail
                exact bodyPost_ret (v := .tuple #[emV ⟨none, 0, [], true, ⟨A, ca, cs, O, co, os⟩⟩, .int .i64 ((n : Int) + 2 + (ti.size : Int)), .int .i64 0]) (by simp [results, Tryz.results25, go_sem, r0, r1, r2, r3, emV, emC, noM]) rfl ⟨⟨none, 0, [], true, ⟨A, ca, cs, O, co, os⟩⟩, by rw [HV.out, ← HTL.out]; push_cast; rfl, by rw [HV.out]; rfl, HBD.out, HF.out.1.below (Below.refl _ _).drew, HF.out.2.drew⟩
            · have HV := hideP (show rdE s.data.toList = ((rdM ((l.take n).drop 4)).1, ent0, 0) by rw [HE2.out, HB.out, if_neg hq]; simp only; rw [if_neg hq])
              have dq : ((rdM ((l.take n).drop 4)).1 != 0) = true := by simpa using hq
              clear hq HE2 HB heo
              generalize (rdM ((l.take n).drop 4)).1 = q at dq HV ⊢
              obtain ⟨⟨c0, c1, c2, c3⟩, ⟨f0, f1, f2, f3⟩, R⟩ := box_four x9 (.slice none 0 0) (.bool false) (.slice none 0 0) (.slice none 0 0)
              have r0 := R.cell 0 rfl
              have r1 := R.cell 1 rfl
              have r2 := R.cell 2 rfl
              have r3 := R.cell 3 rfl
              have HF := hideP (eo_four (w := w) (x := em0) x9 (Nat.le_refl _) (em0_eo _ _) b9 (.slice none 0 0) (.bool false) (.slice none 0 0) (.slice none 0 0))
              clear R x9 b9 
              go_wp2_with fail
              exact bodyPost_ret (v := .tuple #[emV em0, .int .i64 0, .int .i64 q]) (by simp [results, Tryz.results25, go_sem, r0, r1, r2, r3, emV, emC, em0, noM]) rfl ⟨em0, by rw [HV.out]; rfl, by rw [HV.out]; rfl, by simp [em0], HF.out.1, HF.out.2⟩
        · have hp8 : prL l = (8, ent0) := by rw [HP.out]; simp only; rw [if_pos (by simpa using hsm)]
          have HV := hideP (show rdE s.data.toList = (8, ent0, 0) by rw [HE2.out, hp8]; rfl)
          clear hp8
          have dz : (z != (sm (l.take n) : Int)) = true := by simpa using hsm
          clear HP hsm HE2
          generalize (sm (l.take n) : Int) = zs at dz HSU2
          go_wp2_with fail
          refine HSU2.out.mono ?_
          rintro e w5 ⟨rfl, rfl⟩
          clear HSU2
          obtain ⟨⟨c0, c1, c2, c3⟩, ⟨f0, f1, f2, f3⟩, R⟩ := box_four x4 (.slice none 0 0) (.bool false) (.slice none 0 0) (.slice none 0 0)
          have r0 := R.cell 0 rfl
          have r1 := R.cell 1 rfl
          have r2 := R.cell 2 rfl
          have r3 := R.cell 3 rfl
          have HF := hideP (eo_four (w := w) (x := em0) x4 (Nat.le_refl _) (em0_eo _ _) b4 (.slice none 0 0) (.bool false) (.slice none 0 0) (.slice none 0 0))
          clear R x4 b4 
          go_wp2_with fail
          exact bodyPost_ret (v := .tuple #[emV em0, .int .i64 0, .int .i64 8]) (by simp [results, Tryz.results25, go_sem, r0, r1, r2, r3, emV, emC, em0, noM]) rfl ⟨em0, by rw [HV.out]; rfl, by rw [HV.out]; rfl, by simp [em0], HF.out.1, HF.out.2⟩
end Go.Proofs.YtmepmiokpcddbabGreatDoor
