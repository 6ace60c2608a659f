/-
  rokeep.MapOwn: the walk.
-/
import Derived.Test.YtmepmiokpcddbabGreatDoorCb29
import Derived.Test.YtmepmiokpcddbabGreatDoorCb31
import Derived.Test.YtmepmiokpcddbabGreatDoorCb33
import Derived.Test.YtmepmiokpcddbabGreatDoorCb22
import Derived.Test.YtmepmiokpcddbabGreatDoorCb20
import Derived.Test.YtmepmiokpcddbabGreatDoorCb24
import Derived.Test.YtmepmiokpcddbabGreatDoorCb28
import Derived.Test.YtmepmiokpcddbabGreatDoorCb34
import Derived.Test.YtmepmiokpcddbabGreatDoorCb7
import Derived.Test.YtmepmiokpcddbabGreatDoorCb9
import Derived.Test.YtmepmiokpcddbabGreatDoorCb8
import Derived.Test.YtmepmiokpcddbabGreatDoorCb6
import Derived.Test.YtmepmiokpcddbabGreatDoorCb30
import Derived.Deep.RegionHeld3
import Derived.Deep.CutRange
set_option linter.unusedVariables false
set_option linter.unusedSimpArgs false
namespace Go.Proofs.YtmepmiokpcddbabGreatDoor
open Go.RowKit

set_option maxHeartbeats 16000000 in
set_option maxRecDepth 100000 in
theorem mo_walk (m : Mp) (A1 : Option Addr) (c1 : Nat) (l : List Pr) (k i : Int) (A5 : Option Addr) (c5 : Nat) (cls : List Cl) (w : World) (hm : MS w m) (hcs : m.cs.length * 16 ≤ 140737488351232) (hos : m.os.length * 8 ≤ 140737488351232)
    (hA : SV w A1 c1 l) (hl : l.length * 24 ≤ 140737488351232) (h5 : LS w A5 cls) (hl5 : cls.length ≤ c5) (hc5 : c5 ≤ 9223372036854775807) (hn5 : A5 = none → c5 = 0) (hg : Gl w) :
    Calls Tryz.prog 5 #[.agg #[.slice m.A m.cs.length m.ca, .slice m.O m.os.length m.co], .slice A1 l.length c1, .int .i64 k, .int .i64 i, .slice A5 cls.length c5] w fun e w' => e = .returned (.bool true) ∧ Below w.heap.size w w' := by
  have x0 := Box.new w 28 #[.slice m.A m.cs.length m.ca, .slice m.O m.os.length m.co]
  have b0 := (Below.refl w.heap.size w).alloc (Nat.le_refl _) (.cells #[.slice m.A m.cs.length m.ca, .slice m.O m.os.length m.co] 28)
  have hol : m.os.length ≤ 9223372036854775807 := by omega
  have hll : l.length < 4611686018427387904 := by omega
  go_enter Tryz.func5, Tryz.ntmps5
  go_wp2_with fail
  generalize w.alloc _ = w0 at x0 b0 ⊢
  have hx0 : w.heap.size ≤ w.heap.size := Nat.le_refl _
  generalize hg0 : w.heap.size = g0 at x0 hx0 ⊢
  have HG0 := hideP hg0
  clear hg0 hx0
  refine (shbegun_any _).mono ?_
  rintro e w1 ⟨rfl, hb⟩
  replace x0 := x0.below hb
  replace b0 := b0.trans (hb.mono b0.size)
  clear hb
  go_wp2_with fail
  refine (ptbegun_any _).mono ?_
  rintro e w2 ⟨rfl, hb⟩
  replace x0 := x0.below hb
  replace b0 := b0.trans (hb.mono b0.size)
  clear hb
  go_wp2_with fail
  have hK := MoRg.start x0
  have hm2 := hm.below b0
  have HRS := hideP (fun x z W (K : MoRg w2 g0 m x none z W) => mo_roomS K hm2 hcs)
  have HRI := hideP (fun x y W (K : MoRg w2 g0 m x y none W) => mo_roomI K hm2 hos)
  have HSC := hideP (fun x y z W (K : MoRg w2 g0 m x y z W) => K.c)
  have HFL := hideP (fun gi gS gI W (K : MoRg w2 g0 m (some gi) (some gS) (some gI) W) => K.fill)
  have HMD := hideP (fun gS gI W (K : MoRg w2 g0 m none (some gS) (some gI) W) => K.made)
  have HSA := hideP (fun x y z W o (K : MoRg w2 g0 m x y z W) => K.ca o)
  have HSF := hideP (fun gi y z W a b (K : MoRg w2 g0 m (some gi) y z W) => K.fillc a b)
  have HOB := hideP (fun g y z W (K : MoRg w2 g0 m (some g) y z W) => (K.ob g rfl).1)
  go_cut [11] from 61 to 67 (MoRoom w2 m)
  case first =>
    as_aux_lemma =>
    go_region_held3 (fun W => W.cell? ⟨g0, 0, none⟩ = some (.slice m.A m.cs.length m.ca) ∧ W.cell? ⟨g0, 1, none⟩ = some (.slice m.O m.os.length m.co)) (first | with_reducible exact HSC.out _ _ _ _ hK | with_reducible exact HSC.out _ _ _ _ hK.drew | with_reducible exact HSC.out _ _ _ _ hK.alloc | with_reducible exact HSC.out _ _ _ _ hK.alloc.drew | with_reducible exact HSF.out _ _ _ _ _ _ hK | with_reducible exact HSA.out _ _ _ _ _ hK) (first
      | (go_at_call 30
         refine (HRS.out _ _ _ (by with_reducible first | exact hK | exact hK.drew | exact hK.alloc | exact hK.alloc.drew)).mono ?_
         rintro e wk ⟨gS, rfl, hK⟩
         first
           | (have hB := HOB.out _ _ _ _ hK; have f0 := hB.frozen 0; have d0 := hB.cell 0 (v := .slice none 0 0) rfl; have f2 := hB.frozen 1; have d2 := hB.cell 1 (v := .slice none 0 0) rfl; have f1 := (hB.set 0 (.slice (some ⟨gS, 0, none⟩) m.cs.length (m.cs.length + 3))).frozen 1; have d1 := (hB.set 0 (.slice (some ⟨gS, 0, none⟩) m.cs.length (m.cs.length + 3))).cell 1 (v := .slice none 0 0) rfl)
           | skip)
      | (go_at_call 31
         refine (HRI.out _ _ _ (by with_reducible first | exact hK | exact hK.drew | exact hK.alloc | exact hK.alloc.drew)).mono ?_
         rintro e wk ⟨gI, rfl, hK⟩
         first
           | (have hB := HOB.out _ _ _ _ hK; have f0 := hB.frozen 0; have d0 := hB.cell 0 (v := .slice none 0 0) rfl; have f2 := hB.frozen 1; have d2 := hB.cell 1 (v := .slice none 0 0) rfl; have f1 := (hB.set 0 (.slice (some ⟨gS, 0, none⟩) m.cs.length (m.cs.length + 3))).frozen 1; have d1 := (hB.set 0 (.slice (some ⟨gS, 0, none⟩) m.cs.length (m.cs.length + 3))).cell 1 (v := .slice none 0 0) rfl)
           | skip))
    all_goals
      go_wp2_with fail
      go_meet
      case rel => exact ⟨_, gS, gI, rfl, by with_reducible first | exact HFL.out _ _ _ _ hK | exact HMD.out _ _ _ hK⟩
  case rest =>
  as_aux_lemma =>
  obtain ⟨gi, gS, gI, rfl, hI, hb⟩ := hcut
  replace x0 := x0.below hb
  replace hI := hI.mono b0.size
  replace b0 := b0.trans (hb.mono b0.size)
  clear hK HRS HRI HSC HFL HMD HSA HSF HOB hm2 hb
  generalize wc = w3 at x0 hI b0 ⊢
  go_wp2_with fail
  refine (mo_mark _).mono ?_
  rintro e w4 ⟨rfl, hb⟩
  replace x0 := x0.below hb
  replace hI := hI.below hb
  replace b0 := b0.trans (hb.mono b0.size)
  clear hb
  go_wp2_with fail
  refine (roomyP_any A1 c1 l moP w4 (hA.below b0) hl).mono ?_
  rintro e w5 ⟨gP, rfl, hP, hb⟩
  have hH : MoA w m l g0 gi gS gI gP w5 := ⟨x0.below hb, hI.below hb, hP.mono b0.size, b0.trans (hb.mono b0.size)⟩
  clear x0 hI hP b0 hb
  have hsz5 := hH.be.size
  have hlS := (hH.hi.lt).1.2
  have hlI := (hH.hi.lt).2.2
  have hlP : w.heap.size ≤ gP ∧ gP < w5.heap.size := World.ownsRow.lt hH.hp gP (by rw [ownBlock_slice]; rfl)
  have hK := MoRm.start hH.hi.xi
  have hms := hH.hi.ms
  have hoI : (inM m gS gI).os.length ≤ 9223372036854775807 := hol
  have HC1 := hideP (fun x W (K : MoRm w5 gi (.slice (some ⟨gS, 0, none⟩) m.cs.length (m.cs.length + 3)) (.slice (some ⟨gI, 0, none⟩) m.os.length (m.os.length + 3)) x W) => mo_key K k)
  have HC2 := hideP (fun x W (K : MoRm w5 gi (.slice (some ⟨gS, 0, none⟩) m.cs.length (m.cs.length + 3)) (.slice (some ⟨gI, 0, none⟩) m.os.length (m.os.length + 3)) x W) => mo_cut K (keyN (wi k 8)) hms hoI)
  unfold inM at HC2
  simp only at HC2
  have HSC := hideP (fun x W (K : MoRm w5 gi (.slice (some ⟨gS, 0, none⟩) m.cs.length (m.cs.length + 3)) (.slice (some ⟨gI, 0, none⟩) m.os.length (m.os.length + 3)) x W) => K.c)
  have HSA := hideP (fun x W o (K : MoRm w5 gi (.slice (some ⟨gS, 0, none⟩) m.cs.length (m.cs.length + 3)) (.slice (some ⟨gI, 0, none⟩) m.os.length (m.os.length + 3)) x W) => K.ca o)
  have HSF := hideP (fun gz W a b (K : MoRm w5 gi (.slice (some ⟨gS, 0, none⟩) m.cs.length (m.cs.length + 3)) (.slice (some ⟨gI, 0, none⟩) m.os.length (m.os.length + 3)) (some gz) W) => K.fillc a b)
  have HFL := hideP (fun gz W n (K : MoRm w5 gi (.slice (some ⟨gS, 0, none⟩) m.cs.length (m.cs.length + 3)) (.slice (some ⟨gI, 0, none⟩) m.os.length (m.os.length + 3)) (some gz) W) (hn : MO W w5.heap.size n) => K.fill hn)
  have HMD := hideP (fun W n (K : MoRm w5 gi (.slice (some ⟨gS, 0, none⟩) m.cs.length (m.cs.length + 3)) (.slice (some ⟨gI, 0, none⟩) m.os.length (m.os.length + 3)) none W) (hn : MO W w5.heap.size n) => K.made hn)
  have HOB := hideP (fun gz W (K : MoRm w5 gi (.slice (some ⟨gS, 0, none⟩) m.cs.length (m.cs.length + 3)) (.slice (some ⟨gI, 0, none⟩) m.os.length (m.os.length + 3)) (some gz) W) => (K.ob gz rfl).1)
  go_wp2_with fail
  go_cut [13, 14] from 71 to 77 (MoMade w5 (cutV m.cs m.os (keyN (wi k 8))))
  case first =>
    as_aux_lemma =>
    go_region_held3 (fun W => W.cell? ⟨gi, 0, none⟩ = some (.slice (some ⟨gS, 0, none⟩) m.cs.length (m.cs.length + 3)) ∧ W.cell? ⟨gi, 1, none⟩ = some (.slice (some ⟨gI, 0, none⟩) m.os.length (m.os.length + 3))) (first | with_reducible exact HSC.out _ _ hK | with_reducible exact HSC.out _ _ hK.drew | with_reducible exact HSC.out _ _ hK.alloc | with_reducible exact HSC.out _ _ hK.alloc.drew | with_reducible exact HSF.out _ _ _ _ hK | with_reducible exact HSA.out _ _ _ hK) (first
      | (go_at_call 35
         refine (HC1.out _ _ (by with_reducible first | exact hK | exact hK.drew | exact hK.alloc | exact hK.alloc.drew)).mono ?_
         rintro e wk ⟨rfl, hK⟩)
      | (go_at_call 34
         refine (HC2.out _ _ (by with_reducible first | exact hK | exact hK.drew | exact hK.alloc | exact hK.alloc.drew)).mono ?_
         rintro e wk ⟨n, rfl, hn1, hn2, hmo, hK⟩
         have HN1 := hideP hn1
         have HN2 := hideP hn2
         clear hn1 hn2
         first
           | (have hB := HOB.out _ _ hK; have f0 := hB.frozen 0; have d0 := hB.cell 0 (v := .slice none 0 0) rfl; have f2 := hB.frozen 1; have d2 := hB.cell 1 (v := .slice none 0 0) rfl; have f1 := (hB.set 0 (.slice n.A n.cs.length n.ca)).frozen 1; have d1 := (hB.set 0 (.slice n.A n.cs.length n.ca)).cell 1 (v := .slice none 0 0) rfl)
           | skip))
    all_goals
      go_wp2_with fail
      go_meet
      case rel => exact ⟨_, n, rfl, rfl, HN1.out, HN2.out, by with_reducible first | exact HFL.out _ _ _ hK hmo | exact HMD.out _ _ hK hmo⟩
  case rest =>
  as_aux_lemma =>
  obtain ⟨ga, na, rfl, rfl, hn1, hn2, hMa⟩ := hcut
  have hRa := MoR.of hMa (by rw [hn1, hn2]; exact cutV_small _ _ _)
  replace hH := hH.below hMa.be
  have hBa : w5.heap.size ≤ wc.heap.size := hMa.be.size
  clear hn1 hn2 hMa hK HC1 HC2 HSC HSA HSF HFL HMD HOB hms
  generalize hBa1 : w5.heap.size = Ba at hRa hBa hsz5 hlS hlI hlP
  clear hBa1
  generalize wc = w6 at hH hRa hBa ⊢
  have hK := MoRm.start hH.hi.xi
  have hms := hH.hi.ms
  have HC2 := hideP (fun x W (K : MoRm w6 gi (.slice (some ⟨gS, 0, none⟩) m.cs.length (m.cs.length + 3)) (.slice (some ⟨gI, 0, none⟩) m.os.length (m.os.length + 3)) x W) => mo_give K i (wi k 4 : Int) hms hoI)
  unfold inM at HC2
  simp only at HC2
  have HSC := hideP (fun x W (K : MoRm w6 gi (.slice (some ⟨gS, 0, none⟩) m.cs.length (m.cs.length + 3)) (.slice (some ⟨gI, 0, none⟩) m.os.length (m.os.length + 3)) x W) => K.c)
  have HSA := hideP (fun x W o (K : MoRm w6 gi (.slice (some ⟨gS, 0, none⟩) m.cs.length (m.cs.length + 3)) (.slice (some ⟨gI, 0, none⟩) m.os.length (m.os.length + 3)) x W) => K.ca o)
  have HSF := hideP (fun gz W a b (K : MoRm w6 gi (.slice (some ⟨gS, 0, none⟩) m.cs.length (m.cs.length + 3)) (.slice (some ⟨gI, 0, none⟩) m.os.length (m.os.length + 3)) (some gz) W) => K.fillc a b)
  have HFL := hideP (fun gz W n (K : MoRm w6 gi (.slice (some ⟨gS, 0, none⟩) m.cs.length (m.cs.length + 3)) (.slice (some ⟨gI, 0, none⟩) m.os.length (m.os.length + 3)) (some gz) W) (hn : MO W w6.heap.size n) => K.fill hn)
  have HMD := hideP (fun W n (K : MoRm w6 gi (.slice (some ⟨gS, 0, none⟩) m.cs.length (m.cs.length + 3)) (.slice (some ⟨gI, 0, none⟩) m.os.length (m.os.length + 3)) none W) (hn : MO W w6.heap.size n) => K.made hn)
  have HOB := hideP (fun gz W (K : MoRm w6 gi (.slice (some ⟨gS, 0, none⟩) m.cs.length (m.cs.length + 3)) (.slice (some ⟨gI, 0, none⟩) m.os.length (m.os.length + 3)) (some gz) W) => (K.ob gz rfl).1)
  go_wp2_with fail
  go_cut [15, 16] from 78 to 85 (MoMade w6 (giveV m.cs m.os i (wi k 4 : Int)))
  case first =>
    as_aux_lemma =>
    go_region_held3 (fun W => W.cell? ⟨gi, 0, none⟩ = some (.slice (some ⟨gS, 0, none⟩) m.cs.length (m.cs.length + 3)) ∧ W.cell? ⟨gi, 1, none⟩ = some (.slice (some ⟨gI, 0, none⟩) m.os.length (m.os.length + 3))) (first | with_reducible exact HSC.out _ _ hK | with_reducible exact HSC.out _ _ hK.drew | with_reducible exact HSC.out _ _ hK.alloc | with_reducible exact HSC.out _ _ hK.alloc.drew | with_reducible exact HSF.out _ _ _ _ hK | with_reducible exact HSA.out _ _ _ hK) (first
      | (go_at_call 37
         (refine (within_any k 4 (by omega) (by omega) _).mono ?_; rintro e wk ⟨rfl, rfl⟩))
      | (go_at_call 36
         refine (HC2.out _ _ (by with_reducible first | exact hK | exact hK.drew | exact hK.alloc | exact hK.alloc.drew)).mono ?_
         rintro e wk ⟨n, rfl, hn1, hn2, hmo, hK⟩
         have HN1 := hideP hn1
         have HN2 := hideP hn2
         clear hn1 hn2
         first
           | (have hB := HOB.out _ _ hK; have f0 := hB.frozen 0; have d0 := hB.cell 0 (v := .slice none 0 0) rfl; have f2 := hB.frozen 1; have d2 := hB.cell 1 (v := .slice none 0 0) rfl; have f1 := (hB.set 0 (.slice n.A n.cs.length n.ca)).frozen 1; have d1 := (hB.set 0 (.slice n.A n.cs.length n.ca)).cell 1 (v := .slice none 0 0) rfl)
           | skip))
    all_goals
      go_wp2_with fail
      go_meet
      case rel => exact ⟨_, n, rfl, rfl, HN1.out, HN2.out, by with_reducible first | exact HFL.out _ _ _ hK hmo | exact HMD.out _ _ hK hmo⟩
  case rest =>
  as_aux_lemma =>
  obtain ⟨gb, nb, rfl, rfl, hn1, hn2, hMb⟩ := hcut
  have hRb := MoR.of hMb (by rw [hn1, hn2]; exact giveV_small _ _ _ _)
  replace hH := hH.below hMb.be
  replace hRa := hRa.below hMb.be
  have hBb : w6.heap.size ≤ wc.heap.size := hMb.be.size
  clear hn1 hn2 hMb hK HC2 HSC HSA HSF HFL HMD HOB hms
  generalize hBb1 : w6.heap.size = Bb at hRa hRb hBa hBb
  clear hBb1
  generalize wc = w7 at hH hRa hRb hBb ⊢
  obtain ⟨z0, z1⟩ := hH.hi.c
  have HPL := shplain_any (inM m gS gI) w7 hH.hi.ms hoI
  unfold inM at HPL
  simp only at HPL
  go_wp2_with fail
  refine HPL.mono ?_
  clear HPL z0 z1
  rintro e w8 ⟨nc, rfl, hn1, hn2, hmo, hb⟩
  obtain ⟨w9, hw9⟩ : ∃ W, W = w8.alloc (.cells #[.slice nc.A nc.cs.length nc.ca, .slice nc.O nc.os.length nc.co] 28) := ⟨_, rfl⟩
  have al := (Below.refl w8.heap.size w8).alloc (Nat.le_refl _) (.cells #[.slice nc.A nc.cs.length nc.ca, .slice nc.O nc.os.length nc.co] 28)
  have xn := Box.new w8 28 #[.slice nc.A nc.cs.length nc.ca, .slice nc.O nc.os.length nc.co]
  rw [← hw9] at al xn
  have hRc : MoR w9 w7.heap.size w9.heap.size w8.heap.size nc := MoR.of (w := w7) ⟨xn, hmo.below al, hb.trans (al.mono hb.size)⟩ (by rw [hn1, hn2]; exact plainV_small _ _)
  have hBc : w7.heap.size ≤ w9.heap.size := (hb.trans (al.mono hb.size)).size
  replace hH := (hH.below hb).below al
  replace hRa := (hRa.below hb).below al
  replace hRb := (hRb.below hb).below al
  clear hn1 hn2 hmo hb al xn
  generalize hBc1 : w7.heap.size = Bc at hRb hRc hBb hBc
  clear hBc1
  obtain ⟨z0, z1⟩ := hH.hi.c
  rw [hw9] at z0 z1
  have HTX := mapT_any (inM m gS gI) w9 hH.hi.ms (hg.below hH.be)
  unfold inM at HTX
  simp only at HTX
  go_wp2_with fail
  rw [← hw9]
  clear hw9 z0 z1
  generalize w8.heap.size = gc at hRc ⊢
  refine HTX.mono ?_
  clear HTX
  rintro e w10 ⟨rfl, hb⟩
  replace hH := hH.below hb
  replace hRa := hRa.below hb
  replace hRb := hRb.below hb
  replace hRc := hRc.below hb
  have hsz : w9.heap.size ≤ w10.heap.size := hb.size
  clear hb
  have hts : (mpA m.cs m.os).size < 4294967281 := mpA_size _ _
  have HRM := hideP (rdmap_any (mpA m.cs m.os) w10 (hg.below hH.be) hts)
  generalize mpA m.cs m.os = tx at HRM ⊢
  clear hts
  go_wp2_with fail
  refine HRM.out.mono ?_
  clear HRM
  rintro e w11 ⟨nd, rfl, hn1, hmo, hb⟩
  obtain ⟨w12, hw12⟩ : ∃ W, W = w11.alloc (.cells #[.slice nd.A nd.cs.length nd.ca, .slice nd.O nd.os.length nd.co] 28) := ⟨_, rfl⟩
  have al := (Below.refl w11.heap.size w11).alloc (Nat.le_refl _) (.cells #[.slice nd.A nd.cs.length nd.ca, .slice nd.O nd.os.length nd.co] 28)
  have xn := Box.new w11 28 #[.slice nd.A nd.cs.length nd.ca, .slice nd.O nd.os.length nd.co]
  rw [← hw12] at al xn
  have hRd : MoR w12 w10.heap.size w12.heap.size w11.heap.size nd := MoR.of (w := w10) ⟨xn, hmo.below al, hb.trans (al.mono hb.size)⟩ (by have h := rdM_small tx.data.toList; rw [hn1] at h; exact h)
  have hBd : w10.heap.size ≤ w12.heap.size := (hb.trans (al.mono hb.size)).size
  replace hH := (hH.below hb).below al
  replace hRa := (hRa.below hb).below al
  replace hRb := (hRb.below hb).below al
  replace hRc := (hRc.below hb).below al
  clear hn1 hmo hb al xn
  generalize hBd1 : w9.heap.size = Bd at hRc hBc hsz
  generalize hBd2 : w10.heap.size = Be at hRd hBd hsz
  clear hBd1 hBd2
  obtain ⟨z0, z1⟩ := hH.hi.c
  rw [hw12] at z0 z1
  have HNW := mo_new (inM m gS gI) (some ⟨gP, 0, none⟩) (l.length + 3) l w12 hH.hi.ms (hH.hp.head (by simp)).sv.ps hoI hll
  have hv : errV (inM m gS gI).cs (inM m gS gI).os l = errV m.cs m.os l := rfl
  rw [hv] at HNW
  clear hv
  unfold inM at HNW
  simp only at HNW
  go_wp2_with fail
  rw [← hw12]
  clear hw12 z0 z1
  generalize w11.heap.size = gd at hRd ⊢
  refine HNW.mono ?_
  clear HNW
  rintro e w13 ⟨vp, rfl, hp, hb⟩
  have hP : MoP w12.heap.size m l vp w13 := hp
  replace hH := hH.below hb
  replace hRa := hRa.below hb
  replace hRb := hRb.below hb
  replace hRc := hRc.below hb
  replace hRd := hRd.below hb
  have hBf : w12.heap.size ≤ w13.heap.size := hb.size
  have HPL : ∀ g, vp = .pointer (some ⟨g, 0, none⟩) → errV m.cs m.os l = 0 → g < w13.heap.size := fun g e h0 => by
    obtain ⟨g', _, _, _, _, _, e', hpb⟩ := hP h0
    rw [e] at e'
    injection e' with e'
    injection e' with e'
    injection e' with e' _ _
    subst e'
    exact hpb.box.lt
  clear hp hb
  generalize hBf1 : w12.heap.size = Bf at hRd hP hBd hBf
  clear hBf1
  have k0 := hH.x0.cell 0 (v := .slice m.A m.cs.length m.ca) rfl
  have k1 := hH.x0.cell 1 (v := .slice m.O m.os.length m.co) rfl
  go_wp2_with fail
  refine (mo_new m A1 c1 l w13 (hm.below hH.be) (hA.below hH.be).ps hol hll).mono ?_
  rintro e w14 ⟨vq, rfl, hq, hb⟩
  have hQ : MoP w13.heap.size m l vq w14 := hq
  replace hH := hH.below hb
  replace hRa := hRa.below hb
  replace hRb := hRb.below hb
  replace hRc := hRc.below hb
  replace hRd := hRd.below hb
  replace hP := hP.below hb
  have hBg : w13.heap.size ≤ w14.heap.size := hb.size
  clear hq hb k0 k1
  generalize hBg1 : w13.heap.size = Bg at hQ hBf hBg HPL
  replace HPL := hideP HPL
  clear hBg1
  obtain ⟨z0, z1⟩ := hH.hi.c
  have k0 := hH.x0.cell 0 (v := .slice m.A m.cs.length m.ca) rfl
  have k1 := hH.x0.cell 1 (v := .slice m.O m.os.length m.co) rfl
  have HSM := samemap_any (inM m gS gI) m w14 hH.hi.ms (hm.below hH.be)
  unfold inM at HSM
  simp only [decide_true, Bool.and_self] at HSM
  go_wp2_with fail
  refine HSM.mono ?_
  clear HSM k0 k1 z0 z1
  rintro e w15 ⟨rfl, hb⟩
  replace hH := hH.below hb
  replace hRa := hRa.below hb
  replace hRb := hRb.below hb
  replace hRc := hRc.below hb
  replace hRd := hRd.below hb
  replace hP := hP.below hb
  replace hQ := hQ.below hb
  have hsz2 : Bg ≤ w15.heap.size := Nat.le_trans hBg hb.size
  clear hb hBg
  obtain ⟨z0, z1⟩ := hH.hi.c
  have HMS := markS_any w.heap.size gS (m.cs.map Value.string) ⟨#[109, 97, 114, 107]⟩ w15 (by rw [List.length_map]; exact hH.hi.oS) (by rw [List.length_map]; exact hcs)
  rw [List.length_map] at HMS
  go_wp2_with fail
  refine HMS.mono ?_
  clear HMS z0 z1
  rintro e wx ⟨rfl, hw⟩
  rw [hw]
  clear hw
  obtain ⟨z0, z1⟩ := hH.hi.c
  have HMI := markI_any w.heap.size gI (m.os.map (Value.int .i64)) (-7) w15 (by rw [List.length_map]; exact hH.hi.oI) (by rw [List.length_map]; exact hos)
  rw [List.length_map] at HMI
  go_wp2_with fail
  refine HMI.mono ?_
  clear HMI z0 z1
  rintro e wx ⟨rfl, hw⟩
  rw [hw]
  clear hw
  go_wp2_with fail
  refine (equal_same _ _ _ _ l w15 (hH.hp.head (by simp)).sv.ps (hA.below hH.be).ps hll).mono ?_
  rintro e w16 ⟨rfl, hb⟩
  replace hH := hH.below hb
  replace hRa := hRa.below hb
  replace hRb := hRb.below hb
  replace hRc := hRc.below hb
  replace hRd := hRd.below hb
  replace hP := hP.below hb
  replace hQ := hQ.below hb
  replace hsz2 := Nat.le_trans hsz2 hb.size
  clear hb
  go_wp2_with fail
  refine (mo_mark _).mono ?_
  rintro e w17 ⟨rfl, hb⟩
  replace hH := hH.below hb
  replace hRa := hRa.below hb
  replace hRb := hRb.below hb
  replace hRc := hRc.below hb
  replace hRd := hRd.below hb
  replace hP := hP.below hb
  replace hQ := hQ.below hb
  replace hsz2 := Nat.le_trans hsz2 hb.size
  clear hb
  go_wp2_with fail
  refine (markP_any _ gP l moP w17 hH.hp hl).mono ?_
  rintro e w18 ⟨rfl, hb⟩
  replace hH := hH.below hb
  replace hRa := hRa.below hb
  replace hRb := hRb.below hb
  replace hRc := hRc.below hb
  replace hRd := hRd.below hb
  replace hP := hP.below hb
  replace hQ := hQ.below hb
  replace hsz2 := Nat.le_trans hsz2 hb.size
  clear hb
  have dq : (errV m.cs m.os l != errV m.cs m.os l) = false := by simp
  generalize hev : errV m.cs m.os l = ev at dq ⊢
  have HEV := hideP hev
  clear hev
  go_wp2_with fail
  clear dq
  have HS14 := hideP (fun W (hb : Below w18.heap.size w18 W) => show (W.cell? ⟨ga, 0, none⟩ = some (.slice na.A na.cs.length na.ca) ∧ W.cell? ⟨ga, 1, none⟩ = some (.slice na.O na.os.length na.co)) ∧ ((W.cell? ⟨gb, 0, none⟩ = some (.slice nb.A nb.cs.length nb.ca) ∧ W.cell? ⟨gb, 1, none⟩ = some (.slice nb.O nb.os.length nb.co)) ∧ ((W.cell? ⟨gc, 0, none⟩ = some (.slice nc.A nc.cs.length nc.ca) ∧ W.cell? ⟨gc, 1, none⟩ = some (.slice nc.O nc.os.length nc.co)) ∧ (W.cell? ⟨gd, 0, none⟩ = some (.slice nd.A nd.cs.length nd.ca) ∧ W.cell? ⟨gd, 1, none⟩ = some (.slice nd.O nd.os.length nd.co)))) from ⟨(hRa.below hb).c, (hRb.below hb).c, (hRc.below hb).c, (hRd.below hb).c⟩)
  have HB0 : Below w18.heap.size w18 w18.drew := (Below.refl _ _).drew
  have HB1 := fun (o : Obj) => show Below w18.heap.size w18 (w18.alloc o).drew from ((Below.refl _ _).alloc (Nat.le_refl _) o).drew
  have HB2 := fun (o o' : Obj) => show Below w18.heap.size w18 ((w18.alloc o).alloc o').drew from (((Below.refl _ _).alloc (Nat.le_refl _) o).alloc (by simp) o').drew
  have HE1 := hideP (show MoLs w18 [⟨na.A, na.ca, na.cs⟩, ⟨nb.A, nb.ca, nb.cs⟩, ⟨nc.A, nc.ca, nc.cs⟩, ⟨nd.A, nd.ca, nd.cs⟩] [⟨na.O, na.co, na.os⟩, ⟨nb.O, nb.co, nb.os⟩, ⟨nc.O, nc.co, nc.os⟩, ⟨nd.O, nd.co, nd.os⟩] (.slice (some ⟨w18.heap.size, 0, none⟩) 4 4) (.slice (some ⟨w18.heap.size + 1, 0, none⟩) 4 4) (((w18.alloc (.cells #[.slice na.A na.cs.length na.ca, .slice nb.A nb.cs.length nb.ca, .slice nc.A nc.cs.length nc.ca, .slice nd.A nd.cs.length nd.ca] 25)).alloc (.cells #[.slice na.O na.os.length na.co, .slice nb.O nb.os.length nb.co, .slice nc.O nc.os.length nc.co, .slice nd.O nd.os.length nd.co] 26)).drew) from MoLs.one w18 _ _)
  have HE2 := hideP (show MoLs w18 [⟨na.A, na.ca, na.cs⟩, ⟨nb.A, nb.ca, nb.cs⟩, ⟨nc.A, nc.ca, nc.cs⟩, ⟨nd.A, nd.ca, nd.cs⟩] [⟨na.O, na.co, na.os⟩, ⟨nb.O, nb.co, nb.os⟩, ⟨nc.O, nc.co, nc.os⟩, ⟨nd.O, nd.co, nd.os⟩] (.slice (some ⟨w18.heap.size + 1, 0, none⟩) 4 4) (.slice (some ⟨w18.heap.size, 0, none⟩) 4 4) (((w18.alloc (.cells #[.slice na.O na.os.length na.co, .slice nb.O nb.os.length nb.co, .slice nc.O nc.os.length nc.co, .slice nd.O nd.os.length nd.co] 26)).alloc (.cells #[.slice na.A na.cs.length na.ca, .slice nb.A nb.cs.length nb.ca, .slice nc.A nc.cs.length nc.ca, .slice nd.A nd.cs.length nd.ca] 25)).drew) from MoLs.two w18 _ _)
  go_cut [27, 28] from 146 to 163 (MoLs w18 [⟨na.A, na.ca, na.cs⟩, ⟨nb.A, nb.ca, nb.cs⟩, ⟨nc.A, nc.ca, nc.cs⟩, ⟨nd.A, nd.ca, nd.cs⟩] [⟨na.O, na.co, na.os⟩, ⟨nb.O, nb.co, nb.os⟩, ⟨nc.O, nc.co, nc.os⟩, ⟨nd.O, nd.co, nd.os⟩])
  case first =>
    as_aux_lemma =>
    go_region_held3 (fun W => (W.cell? ⟨ga, 0, none⟩ = some (.slice na.A na.cs.length na.ca) ∧ W.cell? ⟨ga, 1, none⟩ = some (.slice na.O na.os.length na.co)) ∧ ((W.cell? ⟨gb, 0, none⟩ = some (.slice nb.A nb.cs.length nb.ca) ∧ W.cell? ⟨gb, 1, none⟩ = some (.slice nb.O nb.os.length nb.co)) ∧ ((W.cell? ⟨gc, 0, none⟩ = some (.slice nc.A nc.cs.length nc.ca) ∧ W.cell? ⟨gc, 1, none⟩ = some (.slice nc.O nc.os.length nc.co)) ∧ (W.cell? ⟨gd, 0, none⟩ = some (.slice nd.A nd.cs.length nd.ca) ∧ W.cell? ⟨gd, 1, none⟩ = some (.slice nd.O nd.os.length nd.co))))) (first | with_reducible exact HS14.out _ HB0 | with_reducible exact HS14.out _ (HB1 _) | with_reducible exact HS14.out _ (HB2 _ _)) (first | fail)
    all_goals
      go_wp2_with fail
      go_meet
      case rel => with_reducible first | exact HE1.out | exact HE2.out
  case rest =>
  as_aux_lemma =>
  obtain ⟨gx, gy, rfl, rfl, xk, xi, hb, lx1, lx2⟩ := hcut
  have lx : Ba ≤ gx ∧ Ba ≤ gy := by omega
  have hRs := MoRs.of (hRa.below hb) (hRb.below hb) (hRc.below hb) (hRd.below hb) hBa hBb hBc hsz hBd
  replace hH := hH.below hb
  replace hP := hP.below hb
  replace hQ := hQ.below hb
  replace hsz2 := Nat.le_trans hsz2 hb.size
  clear hRa hRb hRc hRd hb HS14 HB0 HB1 HB2 HE1 HE2 lx1 lx2
  generalize hks : ([⟨na.A, na.ca, na.cs⟩, ⟨nb.A, nb.ca, nb.cs⟩, ⟨nc.A, nc.ca, nc.cs⟩, ⟨nd.A, nd.ca, nd.cs⟩] : List SvSF) = ks at xk hRs
  generalize his : ([⟨na.O, na.co, na.os⟩, ⟨nb.O, nb.co, nb.os⟩, ⟨nc.O, nc.co, nc.os⟩, ⟨nd.O, nd.co, nd.os⟩] : List SvIF) = is at xi hRs
  have HKL := hideP (show ks.length = 4 by rw [← hks]; rfl)
  have HIL := hideP (show is.length = 4 by rw [← his]; rfl)
  clear hks his
  have hBaf : Ba ≤ Bf := by omega
  generalize wc = w19 at hH hRs hP hQ hsz2 xk xi ⊢
  go_wp2_with fail
  have HSL := hideP (fun W (hb : Below w19.heap.size w19 W) (q : Nat) (s : SvSF) (t : SvIF) (hs : ks[q]? = some s) (ht : is[q]? = some t) => show W.cell? ⟨gx, q, none⟩ = some (.slice s.A s.zs.length s.c) ∧ W.cell? ⟨gy, q, none⟩ = some (.slice t.A t.zs.length t.c) from by
    have h1 := (xk.below hb).cell q (v := s.v) (by simp [hs])
    have h2 := (xi.below hb).cell q (v := t.v) (by simp [ht])
    exact ⟨h1, h2⟩)
  have HOW := hideP (fun W (hb : Below w19.heap.size w19 W) (s : SvSF) (t : SvIF) (hs : s ∈ ks) (ht : t ∈ is) => show (OR W Ba 9 s.A s.c (s.zs.map Value.string) ∧ s.zs.length ≤ 1000) ∧ (OR W Ba 3 t.A t.c (t.zs.map (Value.int .i64)) ∧ t.zs.length ≤ 1000) from ⟨⟨OR.below (hRs.k s hs) hb, hRs.sk s hs⟩, OR.below (hRs.i t ht) hb, hRs.si t ht⟩)
  go_loopw [29, 166] (MoL1 w19 ks is) (fun _ j _ => 4 - (intOf j).toNat)
  case atStart => exact ⟨0, [], none, 0, Nat.zero_le _, rfl, rfl, rfl, ⟨MpRow.nil _ _, (fun x hx => by simp at hx), (fun j x s t hj => by simp at hj)⟩, Below.refl _ _⟩
  case round =>
    as_aux_lemma =>
    obtain ⟨q, ws, Aw, cw, hq, rfl, rfl, hwl, hW, hb⟩ := hrel
    by_cases hq4 : q < 4
    · have hqk : q < ks.length := by have := HKL.out; omega
      have hqi : q < is.length := by have := HIL.out; omega
      obtain ⟨s, hs⟩ : ∃ s, ks[q]? = some s := ⟨_, List.getElem?_eq_getElem hqk⟩
      obtain ⟨t, ht⟩ : ∃ t, is[q]? = some t := ⟨_, List.getElem?_eq_getElem hqi⟩
      have hK : MoCl w19 ks is ws Aw cw s t none none wr := ⟨hW, hb, (fun a e => by cases e), (fun a e => by cases e)⟩
      have HCE := hideP (fun x y W (K : MoCl w19 ks is ws Aw cw s t x y W) => HSL.out W K.be q s t hs ht)
      have HWL := hideP hwl
      have HADD := hideP (fun (A1 : Option Addr) (k1 : Nat) (A2 : Option Addr) (k2 : Nat) W (K : MoCl w19 ks is ws Aw cw s t (some (A1, k1)) (some (A2, k2)) W) =>
        show ∃ A' c' w', (Builtin.append_ #[80, 80] 80 #[.slice Aw ws.length cw, .slice (some ⟨W.heap.size, 0, none⟩) 1 1]).run Tryz.prog (W.alloc (.cells #[.slice A1 s.zs.length k1, .slice A2 t.zs.length k2] 28)) = .ok (.slice A' (ws ++ [(⟨A1, k1, s.zs, A2, k2, t.zs⟩ : Mp)]).length c') w' ∧ MoWn w19 w' ks is (ws ++ [(⟨A1, k1, s.zs, A2, k2, t.zs⟩ : Mp)]) A' c' ∧ Below w19.heap.size w19 w' from by
          obtain ⟨A', c', w', h1, h2, h3⟩ := K.wn.add ⟨A1, k1, s.zs, A2, k2, t.zs⟩ ⟨K.ox _ rfl, K.oy _ rfl⟩ (by have := HWL.out; omega) K.be.size HWL.out (fun s' t' hs' ht' => by rw [hs] at hs'; rw [ht] at ht'; injection hs' with e1; injection ht' with e2; subst e1; subst e2; exact ⟨rfl, rfl⟩)
          exact ⟨A', c', w', h1, h2, h3 _ _ (Nat.le_refl _) K.be⟩)
      have HCS := hideP (fun y W (K : MoCl w19 ks is ws Aw cw s t none y W) => show Calls Tryz.prog 44 #[.slice s.A s.zs.length s.c] W (fun e w' => ∃ A' c', e = .returned (.slice A' s.zs.length c') ∧ MoCl w19 ks is ws Aw cw s t (some (A', c')) y w') from by
        have ho := (HOW.out W K.be s t (List.mem_of_getElem? hs) (List.mem_of_getElem? ht)).1
        have h := cloneS_any Ba s.A s.c (s.zs.map Value.string) W ho.1 (oneSF s.zs) (by rw [List.length_map]; omega)
        rw [List.length_map] at h
        refine h.mono ?_
        rintro e w' ⟨A', c', rfl, ho', hb'⟩
        have K' := K.below hb'
        exact ⟨A', c', rfl, ⟨K'.wn, K'.be, (fun a e => by injection e with e; subst e; exact ho'.mono K.be.size), K'.oy⟩⟩)
      have HCI := hideP (fun x W (K : MoCl w19 ks is ws Aw cw s t x none W) => show Calls Tryz.prog 45 #[.slice t.A t.zs.length t.c] W (fun e w' => ∃ A' c', e = .returned (.slice A' t.zs.length c') ∧ MoCl w19 ks is ws Aw cw s t x (some (A', c')) w') from by
        have ho := (HOW.out W K.be s t (List.mem_of_getElem? hs) (List.mem_of_getElem? ht)).2
        have h := cloneI_any Ba t.A t.c (t.zs.map (Value.int .i64)) W ho.1 (oneIF t.zs) (by rw [List.length_map]; omega)
        rw [List.length_map] at h
        refine h.mono ?_
        rintro e w' ⟨A', c', rfl, ho', hb'⟩
        have K' := K.below hb'
        exact ⟨A', c', rfl, ⟨K'.wn, K'.be, K'.ox, (fun a e => by injection e with e; subst e; exact ho'.mono K.be.size)⟩⟩)
      have HSL5 := hideP (fun W (hb : Below w19.heap.size w19 W) => HSL.out W hb q s t hs ht)
      have g1 : (0 : Int) ≤ (q : Int) := by omega
      have g2 : (q : Int) < 4 := by omega
      clear hW hb hwl hs ht hqk hqi
      go_wp2_with fail
      go_region_held3 (fun W => W.cell? ⟨gx, q, none⟩ = some (.slice s.A s.zs.length s.c) ∧ W.cell? ⟨gy, q, none⟩ = some (.slice t.A t.zs.length t.c)) (first | with_reducible exact HCE.out _ _ _ hK | with_reducible exact HCE.out _ _ _ hK.drew | with_reducible exact HCE.out _ _ _ (hK.alloc _) | with_reducible exact HSL5.out _ hb5) (first
        | (refine step_append_runP _ rfl _ _ _ _ rfl _ _ rfl rfl _ _ HR.out ?_)
        | (go_at_call 44
           refine (HCS.out _ _ (by with_reducible first | exact hK | exact hK.drew)).mono ?_
           rintro e wk ⟨A1, k1, rfl, hK⟩
           first
             | (obtain ⟨A', c', w5, hrun, hW5, hb5⟩ := HADD.out _ _ _ _ _ hK; have HR := hideP hrun; clear hrun)
             | skip)
        | (go_at_call 45
           refine (HCI.out _ _ (by with_reducible first | exact hK | exact hK.drew)).mono ?_
           rintro e wk ⟨A2, k2, rfl, hK⟩
           first
             | (obtain ⟨A', c', w5, hrun, hW5, hb5⟩ := HADD.out _ _ _ _ _ hK; have HR := hideP hrun; clear hrun)
             | skip))
      all_goals
        go_wp2_with fail
        go_roundw
        case rel => exact ⟨q + 1, _, A', c', by omega, by go_num, by first | rfl | simp, by simp [HWL.out], hW5, hb5⟩
        case measure => simp [intOf]; omega
    · as_aux_lemma =>
      have hqe : q = 4 := by omega
      have hM : MoB w w19 m l Ba Bf Bg gx gy ks is ws Aw cw vp vq wr := ⟨hRs.below hb, hW, xk.below hb, xi.below hb, hP.below hb, hQ.below hb, hH.be.trans (hb.mono hH.be.size), ⟨hsz5, hBaf, hBf, hsz2, hb.size⟩, lx⟩
      have hI := hH.hi.below hb
      have hp := hH.hp.below hb
      have HWL := hideP (show ws.length = 4 by omega)
      have gq : ¬ (q : Int) < 4 := by omega
      have hlS0 := hI.lt.1.1
      have hlI0 := hI.lt.2.1
      clear hRs hW xk xi hP hQ hH hb HSL HOW hwl hqe hq hq4
      obtain ⟨z0, z1⟩ := hI.c
      have HSP := spoilS_any w.heap.size (some ⟨gS, 0, none⟩) (m.cs.length + 3) (m.cs.map Value.string) ⟨#[122]⟩ wr hI.mo.cuts
      rw [List.length_map] at HSP
      go_wp2_with fail
      refine HSP.mono ?_
      clear HSP z0 z1
      rintro e w20 ⟨rfl, hg1⟩
      have tS : Ty wr gS 9 := own_ty hI.oS (by rw [ownBlock_slice]; rfl)
      replace hg1 : wr.grownBy w20 (some gS) := hg1
      replace hM := hM.lo_fr (Fr.of_grown (F := fun k => k = gS) hg1 (fun k e => by injection e with e; exact e.symm)) (fun k e => by subst e; exact ⟨hlS0, hlS⟩)
      have xi0 := hI.xi.kept (ty_ne hI.xi.ty tS (by decide)) hg1
      have oI0 := hI.oI.kept_ tS (by decide) hg1
      replace hp := hp.kept_ tS (by decide) hg1
      clear hI hg1 tS
      have z1 := xi0.cell 1 (v := .slice (some ⟨gI, 0, none⟩) m.os.length (m.os.length + 3)) rfl
      have HSP := spoilI_any w.heap.size (some ⟨gI, 0, none⟩) (m.os.length + 3) (m.os.map (Value.int .i64)) 3 w20 (oI0.head (by simp))
      rw [List.length_map] at HSP
      go_wp2_with fail
      refine HSP.mono ?_
      clear HSP z1
      rintro e w21 ⟨rfl, hg1⟩
      have tI : Ty w20 gI 3 := own_ty oI0 (by rw [ownBlock_slice]; rfl)
      replace hg1 : w20.grownBy w21 (some gI) := hg1
      replace hM := hM.lo_fr (Fr.of_grown (F := fun k => k = gI) hg1 (fun k e => by injection e with e; exact e.symm)) (fun k e => by subst e; exact ⟨hlI0, hlI⟩)
      replace hp := hp.kept_ tI (by decide) hg1
      clear xi0 oI0 hg1 tI
      go_wp2_with fail
      refine (pspoil_any w.heap.size (some ⟨gP, 0, none⟩) (l.length + 3) l ⟨#[115, 112, 111, 105, 108, 116]⟩ 0 w21 (hp.head (by simp)) (by omega)).mono ?_
      rintro e w22 ⟨rfl, hg1⟩
      replace hg1 : w21.grownBy w22 (some gP) := hg1
      replace hM := hM.lo_fr (Fr.of_grown (F := fun k => k = gP) hg1 (fun k e => by injection e with e; exact e.symm)) (fun k e => by subst e; exact hlP)
      clear hp hg1
      have HRW := hideP (fun W (hb : Below w22.heap.size w22 W) (j : Nat) (s : SvSF) (t : SvIF) (x : Mp) (hs : ks[j]? = some s) (ht : is[j]? = some t) (hx : ws[j]? = some x) =>
        show (∃ b, Aw = some ⟨b, 0, none⟩ ∧ W.cell? ⟨b, j * 2, none⟩ = some (.slice x.A x.cs.length x.ca) ∧ W.cell? ⟨b, j * 2 + 1, none⟩ = some (.slice x.O x.os.length x.co)) ∧ W.cell? ⟨gx, j, none⟩ = some (.slice s.A s.zs.length s.c) ∧ W.cell? ⟨gy, j, none⟩ = some (.slice t.A t.zs.length t.c) ∧ MS W ⟨s.A, s.c, s.zs, t.A, t.c, t.zs⟩ ∧ MS W x ∧ x.cs = s.zs ∧ x.os = t.zs from by
          have hM' := hM.below hb
          have m1 : MO W Ba ⟨s.A, s.c, s.zs, t.A, t.c, t.zs⟩ := ⟨hM'.rs.k s (List.mem_of_getElem? hs), hM'.rs.i t (List.mem_of_getElem? ht)⟩
          exact ⟨by have h9 := hM'.wn.row.at_ j x hx; rw [Nat.zero_add] at h9; exact h9, hM'.bk.cell j (v := s.v) (by simp [hs]), hM'.bi.cell j (v := t.v) (by simp [ht]), m1.ms, (hM'.wn.mo x (List.mem_of_getElem? hx)).ms, (hM'.wn.eq j x s t hx hs ht).1, (hM'.wn.eq j x s t hx hs ht).2⟩)
      go_wp2_with fail
      go_loopw [195] (fun j wr => ∃ q : Nat, q ≤ 4 ∧ j = .int .i64 q ∧ Below w22.heap.size w22 wr) (fun j _ => 4 - (intOf j).toNat)
      case atStart => exact ⟨0, Nat.zero_le _, rfl, Below.refl _ _⟩
      case round =>
        obtain ⟨q, hq, rfl, hb⟩ := hrel
        by_cases hq4 : q < 4
        · as_aux_lemma =>
          obtain ⟨s, hs⟩ : ∃ s, ks[q]? = some s := ⟨_, List.getElem?_eq_getElem (by have := HKL.out; omega)⟩
          obtain ⟨t, ht⟩ : ∃ t, is[q]? = some t := ⟨_, List.getElem?_eq_getElem (by have := HIL.out; omega)⟩
          obtain ⟨x, hx⟩ : ∃ x, ws[q]? = some x := ⟨_, List.getElem?_eq_getElem (by have := HWL.out; omega)⟩
          obtain ⟨⟨b, rfl, k0, k1⟩, k2, k3, m1, m2, e1, e2⟩ := HRW.out wr hb q s t x hs ht hx
          have HSM := hideP (samemap_any _ _ wr.drew (m1.below (Below.refl _ _).drew) (m2.below (Below.refl _ _).drew))
          simp only at HSM
          rw [decide_eq_true e1.symm, decide_eq_true e2.symm, Bool.and_self] at HSM
          have g1 : (0 : Int) ≤ (q : Int) := by omega
          have g2 : (q : Int) < 4 := by omega
          have g3 : (q : Int) < (ws.length : Int) := by have := HWL.out; omega
          have HWB := hideP hb
          have hSd : wr.drew.cell? ⟨gx, q, none⟩ = some (.slice s.A s.zs.length s.c) ∧ wr.drew.cell? ⟨gy, q, none⟩ = some (.slice t.A t.zs.length t.c) ∧ wr.drew.cell? ⟨b, q * 2, none⟩ = some (.slice x.A x.cs.length x.ca) ∧ wr.drew.cell? ⟨b, q * 2 + 1, none⟩ = some (.slice x.O x.os.length x.co) := ⟨k2, k3, k0, k1⟩
          clear hs ht hx m1 m2 e1 e2 hM HRW hb
          go_wp2_with fail
          go_region_held3 (fun W => W.cell? ⟨gx, q, none⟩ = some (.slice s.A s.zs.length s.c) ∧ W.cell? ⟨gy, q, none⟩ = some (.slice t.A t.zs.length t.c) ∧ W.cell? ⟨b, q * 2, none⟩ = some (.slice x.A x.cs.length x.ca) ∧ W.cell? ⟨b, q * 2 + 1, none⟩ = some (.slice x.O x.os.length x.co)) (first | with_reducible exact hSd | with_reducible exact hSx) (first
            | (go_at_call 10; refine HSM.out.mono ?_; rintro e wx ⟨rfl, hbx⟩; have hSx : wx.cell? ⟨gx, q, none⟩ = some (.slice s.A s.zs.length s.c) ∧ wx.cell? ⟨gy, q, none⟩ = some (.slice t.A t.zs.length t.c) ∧ wx.cell? ⟨b, q * 2, none⟩ = some (.slice x.A x.cs.length x.ca) ∧ wx.cell? ⟨b, q * 2 + 1, none⟩ = some (.slice x.O x.os.length x.co) := ⟨(hbx.cell (cell_lt hSd.1)).trans hSd.1, (hbx.cell (cell_lt hSd.2.1)).trans hSd.2.1, (hbx.cell (cell_lt hSd.2.2.1)).trans hSd.2.2.1, (hbx.cell (cell_lt hSd.2.2.2)).trans hSd.2.2.2⟩))
          all_goals
            go_wp2_with fail
            go_roundw
            case rel => exact ⟨q + 1, by omega, by go_num, HWB.out.drew.trans (hbx.mono HWB.out.drew.size)⟩
            case measure => simp [intOf]; omega
        · as_aux_lemma =>
          have gq2 : ¬ (q : Int) < 4 := by omega
          replace hM := hM.below hb
          clear hb HRW
          have HAK := apartS_fr Ba gx 4 ks ⟨#[122]⟩ wr hM.apsK (by have := hM.lo; omega) (by have := HKL.out; omega)
          rw [HKL.out] at HAK
          go_wp2_with fail
          refine HAK.mono ?_
          clear HAK
          rintro e w23 ⟨rfl, hb, hf⟩
          obtain ⟨hAI, hp, hq', hbe⟩ := hM.apsI hf
          have HAI := apartI_fr Ba gy 4 is 3 w23 hAI (by have := hM.lo; have := hf.size; omega) (by have := HIL.out; omega)
          rw [HIL.out] at HAI
          have hlo := hM.lo
          have hhi := hM.rs.hi
          clear hM hb hf
          go_wp2_with fail
          refine HAI.mono ?_
          clear HAI
          rintro e w24 ⟨rfl, hb, hf⟩
          replace hp := hp.apart (w := w) hAI hhi (Nat.le_refl _) hf
          replace hq' := hq'.apart (w := w) hAI hhi hlo.2.2.1 hf
          replace hbe := below_apart hbe hAI hlo.1 hf
          clear hAI hb hf hhi
          by_cases hev : ev = 0
          · subst hev
            obtain ⟨gp, Ap, cap, Op, cop, qp, rfl, hpA⟩ := hp HEV.out
            obtain ⟨gq, Aq, caq, Oq, coq, qq, rfl, hqA⟩ := hq' HEV.out
            clear hp hq'
            have hp := hpA
            have hq := hqA
            clear hpA hqA
            have hne : gp ≠ gq := by have := HPL.out gp rfl HEV.out; have := hq.low; omega
            replace hp := hp.mono (show w.heap.size ≤ Bf by omega)
            replace hq := hq.mono (show w.heap.size ≤ Bg by omega)
            clear hlo
            generalize hmp : (⟨Ap, cap, m.cs, Op, cop, m.os⟩ : Mp) = mp at hp
            generalize hmq : (⟨Aq, caq, m.cs, Oq, coq, m.os⟩ : Mp) = mq at hq
            have HMP := hideP (show mp.cs = m.cs ∧ mp.os = m.os ∧ mq.cs = m.cs ∧ mq.os = m.os by rw [← hmp, ← hmq]; exact ⟨rfl, rfl, rfl, rfl⟩)
            clear hmp hmq
            have al := (Below.refl w24.heap.size w24).alloc (Nat.le_refl _) (.cells #[.int .i64 k, .int .i64 i, .int .i64 k, .int .i64 i] 3)
            have hIS : IS (w24.alloc (.cells #[.int .i64 k, .int .i64 i, .int .i64 k, .int .i64 i] 3)) (some ⟨w24.heap.size, 0, none⟩) [k, i, k, i] := VS.is_int (l := [k, i, k, i]) (VS.of_box (Box.new w24 3 #[.int .i64 k, .int .i64 i, .int .i64 k, .int .i64 i]))
            have HKM := kmap_mk2 (some ⟨w24.heap.size, 0, none⟩) 4 [k, i, k, i] _ hIS (by simp)
            simp only [List.length_cons, List.length_nil, Nat.zero_add, Nat.reduceAdd] at HKM
            replace hp := hp.below al
            replace hq := hq.below al
            replace hbe := hbe.trans (al.mono hbe.size)
            clear hIS al
            go_wp2_with fail
            refine HKM.mono ?_
            clear HKM
            generalize w24.alloc _ = w25 at hp hq hbe ⊢
            rintro e w26 ⟨n, rfl, hokn, hmo, hb⟩
            have al := (Below.refl w26.heap.size w26).alloc (Nat.le_refl _) (.cells #[.slice n.A n.cs.length n.ca, .slice n.O n.os.length n.co] 28)
            have hX : MX w w26.heap.size n (w26.alloc (.cells #[.slice n.A n.cs.length n.ca, .slice n.O n.os.length n.co] 28)) := ⟨Box.new w26 _ _, (hmo.mono hbe.size).below al, (hbe.trans (hb.mono hbe.size)).trans (al.mono (Nat.le_trans hbe.size hb.size))⟩
            replace hp := (hp.below hb).below al
            replace hq := (hq.below hb).below al
            clear hb al hmo hbe
            go_wp2_with fail
            generalize w26.alloc _ = w27 at hp hq hX ⊢
            generalize w26.heap.size = gn at hX ⊢
            have hn12 := hokn.few
            have hn13 : n.os.length ≤ 13 := by have := hokn.len; omega
            have hK := MoRg.start hX.x0
            have hmn := hX.mo.ms
            have HRS := hideP (fun x z W (K : MoRg w27 gn n x none z W) => mo_roomS K hmn (by omega))
            have HRI := hideP (fun x y W (K : MoRg w27 gn n x y none W) => mo_roomI K hmn (by omega))
            have HSC := hideP (fun x y z W (K : MoRg w27 gn n x y z W) => K.c)
            have HFL := hideP (fun gz gS gI W (K : MoRg w27 gn n (some gz) (some gS) (some gI) W) => K.fill)
            have HMD := hideP (fun gS gI W (K : MoRg w27 gn n none (some gS) (some gI) W) => K.made)
            have HSA := hideP (fun x y z W o (K : MoRg w27 gn n x y z W) => K.ca o)
            have HSF := hideP (fun gz y z W a b (K : MoRg w27 gn n (some gz) y z W) => K.fillc a b)
            have HOB := hideP (fun gz y z W (K : MoRg w27 gn n (some gz) y z W) => (K.ob gz rfl).1)
            go_cut [33] from 230 to 236 (MoRoom w27 n)
            case first =>
              as_aux_lemma =>
              go_region_held3 (fun W => W.cell? ⟨gn, 0, none⟩ = some (.slice n.A n.cs.length n.ca) ∧ W.cell? ⟨gn, 1, none⟩ = some (.slice n.O n.os.length n.co)) (first | with_reducible exact HSC.out _ _ _ _ hK | with_reducible exact HSC.out _ _ _ _ hK.drew | with_reducible exact HSC.out _ _ _ _ hK.alloc | with_reducible exact HSC.out _ _ _ _ hK.alloc.drew | with_reducible exact HSF.out _ _ _ _ _ _ hK | with_reducible exact HSA.out _ _ _ _ _ hK) (first
                | (go_at_call 30
                   refine (HRS.out _ _ _ (by with_reducible first | exact hK | exact hK.drew | exact hK.alloc | exact hK.alloc.drew)).mono ?_
                   rintro e wk ⟨gS, rfl, hK⟩
                   first
                     | (have hB := HOB.out _ _ _ _ hK; have f0 := hB.frozen 0; have d0 := hB.cell 0 (v := .slice none 0 0) rfl; have f2 := hB.frozen 1; have d2 := hB.cell 1 (v := .slice none 0 0) rfl; have f1 := (hB.set 0 (.slice (some ⟨gS, 0, none⟩) n.cs.length (n.cs.length + 3))).frozen 1; have d1 := (hB.set 0 (.slice (some ⟨gS, 0, none⟩) n.cs.length (n.cs.length + 3))).cell 1 (v := .slice none 0 0) rfl)
                     | skip)
                | (go_at_call 31
                   refine (HRI.out _ _ _ (by with_reducible first | exact hK | exact hK.drew | exact hK.alloc | exact hK.alloc.drew)).mono ?_
                   rintro e wk ⟨gI, rfl, hK⟩
                   first
                     | (have hB := HOB.out _ _ _ _ hK; have f0 := hB.frozen 0; have d0 := hB.cell 0 (v := .slice none 0 0) rfl; have f2 := hB.frozen 1; have d2 := hB.cell 1 (v := .slice none 0 0) rfl; have f1 := (hB.set 0 (.slice (some ⟨gS, 0, none⟩) n.cs.length (n.cs.length + 3))).frozen 1; have d1 := (hB.set 0 (.slice (some ⟨gS, 0, none⟩) n.cs.length (n.cs.length + 3))).cell 1 (v := .slice none 0 0) rfl)
                     | skip))
              all_goals
                go_wp2_with fail
                go_meet
                case rel => exact ⟨_, gS, gI, rfl, by with_reducible first | exact HFL.out _ _ _ _ hK | exact HMD.out _ _ _ hK⟩
            case rest =>
            as_aux_lemma =>
            obtain ⟨gt, gTS, gTI, rfl, hT, hb⟩ := hcut
            have hbz := hX.be.size
            replace hX := hX.below hb
            replace hp := hp.below hb
            replace hq := hq.below hb
            replace hT : MoIn w n gt gTS gTI wc := hT.mono hbz
            clear hbz
            clear hK HRS HRI HSC HFL HMD HSA HSF HOB hmn hb
            generalize wc = w28 at hX hp hq hT ⊢
            go_wp2_with fail
            refine (deeds_any A5 c5 4 cls w28 (h5.below hX.be) hl5 hc5 hn5 (by omega)).mono ?_
            rintro e w29 ⟨Ad, cd, ds, rfl, hdd, hdl, hb⟩
            have hbs := hX.be.size
            have hF : MoF w n gp gq gn gt gTS gTI mp mq l l qp qq Ad cd ds w29 := ⟨hp.below hb, hq.below hb, hne, hT.below hb, hX.below hb, ⟨hdd.or.mono hbs, fun x hx => (hdd.oo x hx).mono hbs, hdd.ap, hdd.pw, hdd.good⟩⟩
            clear hp hq hX hT hdd hb hbs hne
            go_wp2_with fail
            go_loopw [240] (fun j wr => ∃ (t : Nat) (lp : List Pr) (qp qq : Dv), t ≤ ds.length ∧ j = .int .i64 t ∧ MoF w n gp gq gn gt gTS gTI mp mq lp lp qp qq Ad cd ds wr) (fun j _ => ds.length - (intOf j).toNat)
            case atStart => exact ⟨0, l, qp, qq, Nat.zero_le _, rfl, hF⟩
            case round =>
              clear hF
              obtain ⟨t, lp, qp, qq, ht, rfl, hF⟩ := hrel
              by_cases htl : t < ds.length
              · as_aux_lemma =>
                obtain ⟨⟨b, o, rfl, hbl, q1⟩, hos⟩ := hF.d.ds.at_ htl
                have hcd := hF.d.chk _ (List.getElem_mem htl)
                have hgd := (hF.d.good _ (List.getElem_mem htl)).2
                have hcp := dl_caps (hF.d.oo _ (List.getElem_mem htl))
                have HME := hideP (List.getElem_mem htl)
                generalize ds[t] = x at q1 hos hcd hgd hcp HME
                obtain ⟨Dx, cx, dx⟩ := x
                simp only [dlV] at q1
                simp only at hos hcd hgd hcp
                have hN := hF.mark
                have hwN := hF.n.be.size
                have al := (Below.refl wr.heap.size wr).alloc (Nat.le_refl _) (.cells #[.slice Dx dx.length cx] 24)
                have y := Box.new wr 24 #[.slice Dx dx.length cx]
                have hz1 := al.size
                replace hF := hF.below al
                replace hos := hos.go al
                clear al
                have y0 := y.cell 0 (v := .slice Dx dx.length cx) rfl
                have g1 : (0 : Int) ≤ (t : Int) := by omega
                have g2 : (t : Int) < (ds.length : Int) := by omega
                go_wp2_with fail
                generalize wr.alloc _ = v1 at hF hos y y0 hz1 ⊢
                generalize hN0 : wr.heap.size = N at hN hwN hz1 y y0 ⊢
                clear hN0 q1 hbl
                refine (roomyO_any Dx cx dx moO v1 hos hcp.1 hcp.2 (by omega)).mono ?_
                rintro e v2 ⟨go, rfl, ho, hb⟩
                have hgo : N ≤ go := by
                  have := (World.ownsRow.lt ho go (by rw [ownBlock_slice]; rfl)).1
                  omega
                replace hF := hF.below hb
                replace y := y.below hb
                have hz2 := hb.size
                have al := (Below.refl v2.heap.size v2).alloc (Nat.le_refl _) (.cells #[.slice (some ⟨go, 0, none⟩) dx.length (dx.length + 3)] 24)
                have z := Box.new v2 24 #[.slice (some ⟨go, 0, none⟩) dx.length (dx.length + 3)]
                have hz3 := al.size
                replace hF := hF.below al
                replace y := y.below al
                replace ho : OO (v2.alloc (.cells #[.slice (some ⟨go, 0, none⟩) dx.length (dx.length + 3)] 24)) v1.heap.size (some ⟨go, 0, none⟩) (dx.length + 3) (dx ++ List.replicate 3 moO) := OO.below ho al
                clear hb al hos y0
                have z0 := z.cell 0 (v := .slice (some ⟨go, 0, none⟩) dx.length (dx.length + 3)) rfl
                go_wp2_with fail
                generalize v2.alloc _ = v3 at hF y z z0 ho hz3 ⊢
                generalize v2.heap.size = gz at z z0 hz2 hz3 ⊢
                refine (who_ok w.heap.size gp mp lp qp (some ⟨go, 0, none⟩) (dx.length + 3) dx v3 hF.p (OO.head ho (by simp)).os hcd).mono ?_
                rintro e v4 ⟨Aw2, cw2, rfl, hwho, hb⟩
                have hwN2 : ∀ j, blk Aw2 = some j → N ≤ j := fun j e => by
                  have := (World.ownsRow.lt hwho j (by rw [ownBlock_slice]; exact e)).1
                  omega
                replace hF := hF.below hb
                replace y := y.below hb
                replace z := z.below hb
                replace ho := OO.below ho hb
                clear hb z0
                have z0 := z.cell 0 (v := .slice (some ⟨go, 0, none⟩) dx.length (dx.length + 3)) rfl
                go_wp2_with fail
                refine (do_ok w.heap.size gp mp lp qp (some ⟨go, 0, none⟩) (dx.length + 3) dx v4 hF.p (OO.head ho (by simp)).os hcd).mono ?_
                rintro e v5 ⟨rfl, l1, r1, hP', hv1, hg1⟩
                have tP := hF.p.box.ty
                replace hF := hF.p_ hP' hg1
                replace y := y.kept (ty_ne y.ty tP (by decide)) hg1
                replace z := z.kept (ty_ne z.ty tP (by decide)) hg1
                replace ho : OO v5 v1.heap.size (some ⟨go, 0, none⟩) (dx.length + 3) (dx ++ List.replicate 3 moO) := World.ownsRow.kept ho hg1 (own_ne ho tP (by decide))
                replace hwho := hwho.kept_ tP (by decide) hg1
                have hok1 := hP'.ok
                clear hP' hg1 tP z0
                have y0 := y.cell 0 (v := .slice Dx dx.length cx) rfl
                go_wp2_with fail
                refine (do_ok w.heap.size gq mq lp qq Dx cx dx v5 hF.q (hF.d.oo _ HME.out).os hcd).mono ?_
                rintro e v6 ⟨rfl, l2, r2, hQ', hv2, hg1⟩
                obtain rfl : l2 = l1 := hQ'.ok.ext hok1 fun j => by rw [hv2, hv1]
                have tP := hF.q.box.ty
                replace hF := hF.q_ hQ' hg1
                replace y := y.kept (ty_ne y.ty tP (by decide)) hg1
                replace z := z.kept (ty_ne z.ty tP (by decide)) hg1
                replace ho : OO v6 v1.heap.size (some ⟨go, 0, none⟩) (dx.length + 3) (dx ++ List.replicate 3 moO) := World.ownsRow.kept ho hg1 (own_ne ho tP (by decide))
                replace hwho := hwho.kept_ tP (by decide) hg1
                clear hQ' hg1 tP y0 hv1 hv2 hok1
                generalize (doneV (valOf lp) dx).2 = rb
                have dq : (rb != rb) = false := by simp
                have y0 := y.cell 0 (v := .slice Dx dx.length cx) rfl
                have z0 := z.cell 0 (v := .slice (some ⟨go, 0, none⟩) dx.length (dx.length + 3)) rfl
                go_wp2_with fail
                refine (equalO_same _ _ _ _ dx v6 (OO.head ho (by simp)).os (hF.d.oo _ HME.out).os (by omega)).mono ?_
                rintro e v7 ⟨rfl, hb⟩
                replace hF := hF.below hb
                replace z := z.below hb
                replace ho := OO.below ho hb
                replace hwho := hwho.below hb
                clear hb y0 z0 dq y
                have z0 := z.cell 0 (v := .slice (some ⟨go, 0, none⟩) dx.length (dx.length + 3)) rfl
                go_wp2_with fail
                refine (markO_any _ go dx moO v7 ho (by omega)).mono ?_
                rintro e v8 ⟨rfl, hb⟩
                replace hF := hF.below hb
                replace z := z.below hb
                replace ho := OO.below ho hb
                replace hwho := hwho.below hb
                clear hb z0
                have z0 := z.cell 0 (v := .slice (some ⟨go, 0, none⟩) dx.length (dx.length + 3)) rfl
                go_wp2_with fail
                refine (spoilO_any _ go (dx.length + 3) dx ⟨0, ⟨#[]⟩, ⟨#[]⟩, 0⟩ v8 (OO.head ho (by simp)) (by omega)).mono ?_
                rintro e v9 ⟨rfl, hg1⟩
                have tO : Ty v8 go 93 := own_ty ho (by rw [ownBlock_slice]; rfl)
                replace hF := hF.fr1 hN hwN (Fr.of_grown (F := fun j => j = go) hg1 (fun j e => by injection e with e; exact e.symm)) (fun j e => by subst e; exact ⟨hgo, .inl tO⟩)
                replace hwho := hwho.kept_ tO (by decide) hg1
                clear hg1 tO ho z z0
                have HSP := spoilI_any _ Aw2 cw2 _ 3 v9 hwho
                rw [List.length_map] at HSP
                go_wp2_with fail
                refine HSP.mono ?_
                clear HSP
                rintro e v10 ⟨rfl, hg1⟩
                replace hF := hF.fr1 hN hwN (Fr.of_grown (F := fun j => blk Aw2 = some j) hg1 (fun j e => e)) (fun j e => ⟨hwN2 j e, .inr (own_ty hwho (by rw [ownBlock_slice]; exact e))⟩)
                clear hg1 hwho hwN2 hN
                go_wp2_with fail
                refine (all_ok w.heap.size gp mp l2 r1 v10 hF.p).mono ?_
                rintro e v11 ⟨A7, c7, rfl, h7, hb7⟩
                go_wp2_with fail
                refine (pspoil_any _ A7 c7 l2 ⟨#[115, 112, 111, 105, 108, 116]⟩ 0 v11 h7 (ov_cap h7)).mono ?_
                rintro e v12 ⟨rfl, hg1⟩
                replace hF := hF.below (hb7.grown hg1 hb7.size (fun j hj => (World.ownsRow.lt h7 j (by rw [ownBlock_slice]; exact hj)).1))
                clear h7 hb7 hg1
                have HPP := ppart_ok w.heap.size gp mp l2 r1 0 v12 hF.p (by omega)
                rw [show ((0 : Nat) : Int) = 0 from rfl] at HPP
                go_wp2_with fail
                refine HPP.mono ?_
                clear HPP
                rintro e v13 ⟨A7, c7, rfl, h7, hb7⟩
                go_wp2_with fail
                refine (pspoil_any _ A7 c7 _ ⟨#[115, 112, 111, 105, 108, 116]⟩ 0 v13 h7 (ov_cap h7)).mono ?_
                rintro e v14 ⟨rfl, hg1⟩
                replace hF := hF.below (hb7.grown hg1 hb7.size (fun j hj => (World.ownsRow.lt h7 j (by rw [ownBlock_slice]; exact hj)).1))
                clear h7 hb7 hg1
                go_wp2_with fail
                refine (map_ok w.heap.size gp mp l2 r1 v14 hF.p).mono ?_
                rintro e v15 ⟨A8, c8, O8, o8, rfl, h8, hb8⟩
                have al := (Below.refl v15.heap.size v15).alloc (Nat.le_refl _) (.cells #[.slice A8 mp.cs.length c8, .slice O8 mp.os.length o8] 28)
                have x8 := Box.new v15 28 #[.slice A8 mp.cs.length c8, .slice O8 mp.os.length o8]
                have k0 := x8.cell 0 (v := .slice A8 mp.cs.length c8) rfl
                replace h8 := h8.below al
                replace hb8 := hb8.trans (al.mono hb8.size)
                clear al
                have HSP := spoilS_any _ A8 c8 (mp.cs.map Value.string) ⟨#[122]⟩ _ h8.cuts
                rw [List.length_map] at HSP
                go_wp2_with fail
                generalize v15.alloc _ = v16 at h8 hb8 x8 k0 HSP ⊢
                generalize v15.heap.size = g8 at x8 k0 ⊢
                refine HSP.mono ?_
                clear HSP k0
                rintro e v17 ⟨rfl, hg1⟩
                replace hb8 := hb8.grown hg1 hb8.size (fun j hj => (World.ownsRow.lt h8.cuts j (by rw [ownBlock_slice]; exact hj)).1)
                have x9 : Box v17 g8 28 #[.slice A8 mp.cs.length c8, .slice O8 mp.os.length o8] := x8.grown hg1 fun e => absurd ((own_ty h8.cuts (by rw [ownBlock_slice]; exact e.symm)).inj x8.ty) (by decide)
                have h9 : OR v17 v14.heap.size 3 O8 o8 (mp.os.map (Value.int .i64)) := World.ownsRow.kept h8.own hg1 (by
                  cases hA : blk A8 with
                  | none => cases Value.ownBlock _ <;> simp
                  | some j => exact own_ne h8.own (own_ty h8.cuts (by rw [ownBlock_slice]; exact hA)) (by decide))
                clear hg1 x8 h8
                have k1 := x9.cell 1 (v := .slice O8 mp.os.length o8) rfl
                have HSP := spoilI_any _ O8 o8 (mp.os.map (Value.int .i64)) 3 v17 h9
                rw [List.length_map] at HSP
                go_wp2_with fail
                refine HSP.mono ?_
                clear HSP k1
                rintro e v18 ⟨rfl, hg1⟩
                replace hF := hF.below (hb8.grown hg1 hb8.size (fun j hj => (World.ownsRow.lt h9 j (by rw [ownBlock_slice]; exact hj)).1))
                clear hg1 x9 h9 hb8
                go_wp2_with fail
                go_roundw
                case rel => exact ⟨t + 1, l2, r1, r2, by omega, by go_num, hF⟩
                case measure => simp [intOf]; omega
              · as_aux_lemma =>
                have gt2 : ¬ (t : Int) < (ds.length : Int) := by omega
                clear htl ht
                obtain ⟨z0, z1⟩ := hF.t.c
                have HTU := turn_fr w.heap.size gp mp lp qp (inM n gTS gTI) wr hF.p hF.t.ms hokn
                unfold inM at HTU
                dsimp only at HTU
                go_wp2_with fail
                refine HTU.mono ?_
                clear HTU z0 z1
                rintro e w40 ⟨rfl, A2, c2, O2, o2, q2, hP', hg1, hlo1⟩
                have hr1 := rows_new hlo1 hF.t.lt.1.2 hF.t.lt.2.2
                replace hF := hF.pm hP' hg1
                clear hP' hg1 hlo1
                have k0 := hF.n.x0.cell 0 (v := .slice n.A n.cs.length n.ca) rfl
                have k1 := hF.n.x0.cell 1 (v := .slice n.O n.os.length n.co) rfl
                have HTU := turn_fr w.heap.size gq mq lp qq n w40 hF.q hF.n.mo.ms hokn
                go_wp2_with fail
                refine HTU.mono ?_
                clear HTU k0 k1
                rintro e w41 ⟨rfl, A3, c3, O3, o3, q3, hP', hg1, hlo1⟩
                have hr2 := rows_new hlo1 hF.t.lt.1.2 hF.t.lt.2.2
                replace hF := hF.qm hP' hg1
                clear hP' hg1 hlo1
                obtain ⟨z0, z1⟩ := hF.t.c
                have k0 := hF.n.x0.cell 0 (v := .slice n.A n.cs.length n.ca) rfl
                have k1 := hF.n.x0.cell 1 (v := .slice n.O n.os.length n.co) rfl
                have HSM := samemap_any (inM n gTS gTI) n w41 hF.t.ms hF.n.mo.ms
                unfold inM at HSM
                simp only [decide_true, Bool.and_self] at HSM
                go_wp2_with fail
                refine HSM.mono ?_
                clear HSM k0 k1 z0 z1
                rintro e w42 ⟨rfl, hb⟩
                replace hF := hF.below hb
                clear hb
                obtain ⟨z0, z1⟩ := hF.t.c
                have HMS := markS_any w.heap.size gTS (n.cs.map Value.string) ⟨#[109, 97, 114, 107]⟩ w42 (by rw [List.length_map]; exact hF.t.oS) (by rw [List.length_map]; omega)
                rw [List.length_map] at HMS
                go_wp2_with fail
                refine HMS.mono ?_
                clear HMS z0 z1
                rintro e wx ⟨rfl, hw⟩
                rw [hw]
                clear hw
                obtain ⟨z0, z1⟩ := hF.t.c
                have HMI := markI_any w.heap.size gTI (n.os.map (Value.int .i64)) (-7) w42 (by rw [List.length_map]; exact hF.t.oI) (by rw [List.length_map]; omega)
                rw [List.length_map] at HMI
                go_wp2_with fail
                refine HMI.mono ?_
                clear HMI z0 z1
                rintro e wx ⟨rfl, hw⟩
                rw [hw]
                clear hw
                have hT := hF.t
                have hp := hF.p
                have hq := hF.q
                have hbe := hF.n.be
                have hlt := hT.lt
                clear hF
                obtain ⟨z0, z1⟩ := hT.c
                have HSP := spoilS_any w.heap.size (some ⟨gTS, 0, none⟩) (n.cs.length + 3) (n.cs.map Value.string) ⟨#[122]⟩ w42 hT.mo.cuts
                rw [List.length_map] at HSP
                go_wp2_with fail
                refine HSP.mono ?_
                clear HSP z0 z1
                rintro e w43 ⟨rfl, hg1⟩
                have tS : Ty w42 gTS 9 := own_ty hT.oS (by rw [ownBlock_slice]; rfl)
                replace hg1 : w42.grownBy w43 (some gTS) := hg1
                replace hp := hp.one hg1 tS (by decide) (by decide) (fun j e => (hr1.1 j e).1) (fun j e => (hr1.2 j e).1)
                replace hq := hq.one hg1 tS (by decide) (by decide) (fun j e => (hr2.1 j e).1) (fun j e => (hr2.2 j e).1)
                have xi0 := hT.xi.kept (ty_ne hT.xi.ty tS (by decide)) hg1
                have oI0 := hT.oI.kept_ tS (by decide) hg1
                replace hbe := hbe.grown hg1 hbe.size (fun j hj => by injection hj with hj; subst hj; exact hlt.1.1)
                clear hT hg1 tS
                have z1 := xi0.cell 1 (v := .slice (some ⟨gTI, 0, none⟩) n.os.length (n.os.length + 3)) rfl
                have HSP := spoilI_any w.heap.size (some ⟨gTI, 0, none⟩) (n.os.length + 3) (n.os.map (Value.int .i64)) 3 w43 (oI0.head (by simp))
                rw [List.length_map] at HSP
                go_wp2_with fail
                refine HSP.mono ?_
                clear HSP z1
                rintro e w44 ⟨rfl, hg1⟩
                have tI : Ty w43 gTI 3 := own_ty oI0 (by rw [ownBlock_slice]; rfl)
                replace hg1 : w43.grownBy w44 (some gTI) := hg1
                replace hp := hp.one hg1 tI (by decide) (by decide) (fun j e => (hr1.1 j e).2) (fun j e => (hr1.2 j e).2)
                replace hq := hq.one hg1 tI (by decide) (by decide) (fun j e => (hr2.1 j e).2) (fun j e => (hr2.2 j e).2)
                replace hbe := hbe.grown hg1 hbe.size (fun j hj => by injection hj with hj; subst hj; exact hlt.2.1)
                clear xi0 oI0 hg1 tI hr1 hr2 hlt
                have hsm := hp.ok.small
                go_wp2_with fail
                refine (all_ok w.heap.size gp _ lp q2 w44 hp).mono ?_
                rintro e w45 ⟨A7, c7, rfl, h7, hb⟩
                replace hp := hp.below hb
                replace hq := hq.below hb
                replace hbe := hbe.trans (hb.mono hbe.size)
                clear hb
                go_wp2_with fail
                refine (all_ok w.heap.size gq _ lp q3 w45 hq).mono ?_
                rintro e w46 ⟨A8, c8, rfl, h8, hb⟩
                replace hp := hp.below hb
                replace hq := hq.below hb
                replace hbe := hbe.trans (hb.mono hbe.size)
                replace h7 := h7.below hb
                clear hb
                go_wp2_with fail
                refine (equal_same A7 A8 c7 c8 lp w46 h7.sv.ps h8.sv.ps (by omega)).mono ?_
                rintro e w47 ⟨rfl, hb⟩
                replace hp := hp.below hb
                replace hq := hq.below hb
                replace hbe := hbe.trans (hb.mono hbe.size)
                clear hb h7 h8
                have HM := map_ok w.heap.size gp _ lp q2 w47 hp
                dsimp only at HM
                go_wp2_with fail
                refine HM.mono ?_
                clear HM
                rintro e w48 ⟨A7, c7, O7, o7, rfl, h7, hb⟩
                replace hp := hp.below hb
                replace hq := hq.below hb
                replace hbe := hbe.trans (hb.mono hbe.size)
                clear hb
                have HM := map_ok w.heap.size gq _ lp q3 w48 hq
                dsimp only at HM
                go_wp2_with fail
                refine HM.mono ?_
                clear HM
                rintro e w49 ⟨A8, c8, O8, o8, rfl, h8, hb⟩
                replace hp := hp.below hb
                replace hq := hq.below hb
                replace hbe := hbe.trans (hb.mono hbe.size)
                have HSM := samemap_any ⟨A7, c7, n.cs, O7, o7, n.os⟩ ⟨A8, c8, n.cs, O8, o8, n.os⟩ w49 (h7.below hb).ms h8.ms
                simp only [decide_true, Bool.and_self] at HSM
                clear hb h7 h8
                go_wp2_with fail
                refine HSM.mono ?_
                clear HSM
                rintro e w50 ⟨rfl, hb⟩
                replace hp := hp.below hb
                replace hq := hq.below hb
                replace hbe := hbe.trans (hb.mono hbe.size)
                clear hb
                go_wp2_with fail
                go_loopw [373] (fun j wr => ∃ t : Nat, t ≤ 4 ∧ j = .int .i64 t ∧ PB wr w.heap.size gp ⟨A2, c2, n.cs, O2, o2, n.os⟩ lp q2 ∧ PB wr w.heap.size gq ⟨A3, c3, n.cs, O3, o3, n.os⟩ lp q3 ∧ Below w.heap.size w wr) (fun j _ => 4 - (intOf j).toNat)
                case atStart => exact ⟨0, Nat.zero_le _, rfl, hp, hq, hbe⟩
                case round =>
                  clear hp hq hbe gt2
                  obtain ⟨t, ht, rfl, hp, hq, hbe⟩ := hrel
                  by_cases ht4 : t < 4
                  · have g1 : (0 : Int) ≤ (t : Int) := by omega
                    have g2 : (t : Int) < 4 := by omega
                    have hpl : (ptL n.cs n.os (t : Int) lp).length < 4611686018427387904 := by
                      have : (ptL n.cs n.os (t : Int) lp).length ≤ lp.length := List.length_filter_le _ _
                      omega
                    have HM := ppart_ok w.heap.size gp _ lp q2 t _ hp ht4
                    dsimp only at HM
                    go_wp2_with fail
                    refine HM.mono ?_
                    clear HM
                    rintro e w51 ⟨A7, c7, rfl, h7, hb⟩
                    replace hp := hp.below hb
                    replace hq := hq.below hb
                    replace hbe := hbe.trans (hb.mono hbe.size)
                    clear hb
                    have HM := ppart_ok w.heap.size gq _ lp q3 t w51 hq ht4
                    dsimp only at HM
                    go_wp2_with fail
                    refine HM.mono ?_
                    clear HM
                    rintro e w52 ⟨A8, c8, rfl, h8, hb⟩
                    replace hp := hp.below hb
                    replace hq := hq.below hb
                    replace hbe := hbe.trans (hb.mono hbe.size)
                    replace h7 := h7.below hb
                    clear hb
                    go_wp2_with fail
                    refine (equal_same A7 A8 c7 c8 _ w52 h7.sv.ps h8.sv.ps hpl).mono ?_
                    rintro e w53 ⟨rfl, hb⟩
                    replace hp := hp.below hb
                    replace hq := hq.below hb
                    replace hbe := hbe.trans (hb.mono hbe.size)
                    clear hb h7 h8
                    go_wp2_with fail
                    go_roundw
                    case rel => exact ⟨t + 1, by omega, by go_num, hp, hq, hbe⟩
                    case measure => simp [intOf]; omega
                  · have g2 : ¬ (t : Int) < 4 := by omega
                    go_wp2_with fail
                    go_ret
                    exact ⟨rfl, hbe⟩
          · have d1 : (ev != 0) = true := by simpa using hev
            go_wp2_with fail
            go_ret
            exact ⟨rfl, hbe⟩
end Go.Proofs.YtmepmiokpcddbabGreatDoor
