/-
  rokeep.TextMap: the walk.
-/
import Derived.Test.YtkdcdnefmcfpnaaDoorTxRdMapW
import Derived.Test.YtkdcdnefmcfpnaaDoorSMap
set_option linter.unusedVariables false
set_option linter.unusedSimpArgs false
namespace Go.Proofs.YtkdcdnefmcfpnaaDoor
open Go.RowKit
open Go.Lib hiding intOf

theorem itoa_digit (n : Nat) (h : n < 10) : itoa (n : Int) = [UInt8.ofNat (48 + n)] := by rw [itoa_nonneg, decDigits_one h]
theorem lit_tM : mpA [⟨#[109]⟩] [2, 3] = ⟨#[50, 58, 109, 58, 51]⟩ := by
  unfold mpA
  rw [if_pos (by decide +kernel)]
  have e2 : itoa (2 : Int) = [50] := itoa_digit 2 (by decide)
  have e3 : itoa (3 : Int) = [51] := itoa_digit 3 (by decide)
  refine ba_ext ?_
  show join [itoa 2, [109], itoa 3] [58] = _
  rw [e2, e3]
  rfl
theorem lit_chk : chkM [⟨#[109]⟩] [2, 3] = 0 := by decide +kernel
theorem VS.of_box1 {w : World} {g : Nat} {t : TypeId} {vs : List Value} (h : Box w g t vs.toArray) : VS w (some ⟨g, 0, none⟩) vs := fun i v hv => ⟨g, 0, rfl, h.lt, by rw [Nat.zero_add]; exact h.cell i (by simpa using hv)⟩
theorem lit_ms {w : World} {g1 g2 : Nat} (h1 : Box w g1 9 #[.string ⟨#[109]⟩]) (h2 : Box w g2 3 #[.int .i64 2, .int .i64 3]) : MS w ⟨some ⟨g1, 0, none⟩, 1, [⟨#[109]⟩], some ⟨g2, 0, none⟩, 2, [2, 3]⟩ :=
  ⟨VS.of_box1 (vs := [.string ⟨#[109]⟩]) h1, VS.is_int (l := [2, 3]) (VS.of_box1 (vs := [.int .i64 2, .int .i64 3]) h2), Nat.le_refl _, Nat.le_refl _, by simp [maxLen], by simp [maxLen], (fun e => by cases e), (fun e => by cases e)⟩
theorem noM_ms (w : World) : MS w noM := (noM_mo w 0).ms
theorem rdM_bad {l : List UInt8} (h : (rdM l).1 ≠ 0) : (rdM l).2 = ([], []) := by
  unfold rdM at h ⊢
  split
  · rfl
  · next cs os e =>
    rw [e] at h
    simp only at h ⊢
    split at h
    · exact absurd rfl h
    · next hc => rw [if_neg hc]
theorem rdM_good {l : List UInt8} {n : Mp} (h : (rdM l).1 = 0) (h2 : (rdM l).2 = (n.cs, n.os)) : tM n.cs n.os = l ∧ chkM n.cs n.os = 0 := by
  obtain ⟨g1, g2⟩ := tM_rdM (l := l) (cs := n.cs) (os := n.os) (by rw [← h, ← h2])
  exact ⟨g1, chkM_ok.2 g2⟩
set_option maxHeartbeats 4000000 in
set_option maxRecDepth 100000 in
theorem tmap_walk (m : Mp) (s : ByteArray) (w : World) (hm : MS w m) (hs : s.size < 4294967281) (hg : Gl w) :
    Calls Tryd.prog 4 #[.agg #[.slice m.A m.cs.length m.ca, .slice m.O m.os.length m.co], .string s] w fun e w' => e = .returned (.bool true) ∧ Below w.heap.size w w' := by
  have x0 := Box.new w 39 #[.slice m.A m.cs.length m.ca, .slice m.O m.os.length m.co]
  have b0 := (Below.refl w.heap.size w).alloc (Nat.le_refl _) (.cells #[.slice m.A m.cs.length m.ca, .slice m.O m.os.length m.co] 39)
  have hm0 := hm.below b0
  have hg0 := hg.below b0
  obtain ⟨A, ca, cs, O, co, os⟩ := m
  simp only at hm0 b0 x0 ⊢
  go_enter Tryd.func4, Tryd.ntmps4
  go_wp2_with fail
  have e0 : (w.alloc (.cells #[.slice A cs.length ca, .slice O os.length co] 39)).heap.size = w.heap.size + 1 := by simp
  generalize w.alloc (.cells #[.slice A cs.length ca, .slice O os.length co] 39) = w0 at b0 x0 hm0 hg0 e0 ⊢
  have y1 := (Box.new w0 9 #[.string ⟨#[109]⟩]).alloc (.cells #[.int .i64 2, .int .i64 3] 3)
  have y2 := Box.new (w0.alloc (.cells #[.string ⟨#[109]⟩] 9)) 3 #[.int .i64 2, .int .i64 3]
  have al := ((Below.refl w0.heap.size w0).alloc (Nat.le_refl _) (.cells #[.string ⟨#[109]⟩] 9)).alloc (by simp) (.cells #[.int .i64 2, .int .i64 3] 3)
  simp only [World.size_alloc] at y2
  rw [e0] at y1 y2
  have hl := lit_ms y1 y2
  have x1 := x0.below al
  have b1 := b0.trans (al.mono b0.size)
  have hm1 := hm0.below al
  have hg1 := hg0.below al
  clear b0 x0 hm0 hg0 al y1 y2 hm hg e0
  generalize (w0.alloc (.cells #[.string ⟨#[109]⟩] 9)).alloc (.cells #[.int .i64 2, .int .i64 3] 3) = w1 at hl x1 b1 hm1 hg1 ⊢
  have HT := hideP (mapT_any _ w1 hl hg1)
  simp only [List.length_cons, List.length_nil, Nat.zero_add, Nat.reduceAdd] at HT
  rw [lit_tM, lit_chk] at HT
  generalize w.heap.size + 1 + 1 = gi at HT ⊢
  generalize w.heap.size + 1 = gs at HT ⊢
  clear hl
  refine HT.out.mono ?_
  rintro e w2 ⟨rfl, hb2⟩
  have x2 := x1.below hb2
  have b2 := b1.trans (hb2.mono b1.size)
  have hm2 := hm1.below hb2
  have hg2 := hg1.below hb2
  clear HT x1 b1 hm1 hg1 hb2
  have c0 := x2.cell 0 (v := .slice A cs.length ca) rfl
  have c1 := x2.cell 1 (v := .slice O os.length co) rfl
  have HM := hideP (mapT_any _ w2 hm2 hg2)
  simp only at HM
  generalize hgx : w.heap.size = gx at x2 c0 c1 ⊢
  have HGX := hideP hgx
  clear hgx
  go_wp2_with fail
  refine HM.out.mono ?_
  rintro e w3 ⟨rfl, hb3⟩
  have x3 := x2.below hb3
  have b3 := b2.trans (hb3.mono b2.size)
  have hm3 := hm2.below hb3
  have hg3 := hg2.below hb3
  clear HM x2 b2 hm2 hg2 hb3 c0 c1
  -- what comes behind
  have TAIL : ∀ (wx : World), Gl wx → Below w.heap.size w wx → Calls Tryd.prog 11 #[.string s] wx (RetRm wx s.data.toList) := fun wx h1 h2 => rdmap_any s wx h1 hs
  by_cases hc : chkM cs os = 0
  · have HV := hideP (show mpA cs os = bs (tM cs os) by unfold mpA; rw [if_pos hc])
    have HO := hideP (chkM_ok.1 hc)
    have hsz : (bs (tM cs os)).size ≤ 256 := by
      have := body_len (x := ⟨true, [], cs, os⟩) hc
      simp only [bodyT, if_true, List.length_append] at this
      rw [bs_size]; omega
    rw [hc, HV.out]
    clear hc
    have HR := hideP (rdmap_any (bs (tM cs os)) w3 hg3 (by omega))
    rw [bs_data] at HR
    generalize bs (tM cs os) = tx at HR ⊢
    clear hsz
    go_wp2_with fail
    refine HR.out.mono ?_
    rintro e w4 ⟨n, rfl, hn, hmo, hb4⟩
    have hrd := rdM_tM HO.out
    rw [hrd] at hn ⊢
    have hn1 : cs = n.cs := by injection hn
    have hn2 : os = n.os := by injection hn
    clear hn hrd HR
    have x4 := x3.below hb4
    have b4 := b3.trans (hb4.mono b3.size)
    have hm4 := hm3.below hb4
    have hg4 := hg3.below hb4
    clear x3 b3 hm3 hg3 hb4
    have al := (Below.refl w4.heap.size w4).alloc (Nat.le_refl _) (.cells #[.slice n.A n.cs.length n.ca, .slice n.O n.os.length n.co] 39)
    have x5 := x4.below al
    have b5 := b4.trans (al.mono b4.size)
    have hm5 := hm4.below al
    have hg5 := hg4.below al
    have hn5 := (hmo.below al).ms
    have xn := Box.new w4 39 #[.slice n.A n.cs.length n.ca, .slice n.O n.os.length n.co]
    clear x4 b4 hm4 hg4 al hmo
    have c0 := x5.cell 0 (v := .slice A cs.length ca) rfl
    have c1 := x5.cell 1 (v := .slice O os.length co) rfl
    have d0 := xn.cell 0 (v := .slice n.A n.cs.length n.ca) rfl
    have d1 := xn.cell 1 (v := .slice n.O n.os.length n.co) rfl
    have HSM := hideP (samemap_any n ⟨A, ca, cs, O, co, os⟩ _ hn5 hm5)
    simp only at HSM
    rw [decide_eq_true hn1.symm, decide_eq_true hn2.symm, Bool.and_self] at HSM
    have HN := hideP (And.intro hn1 hn2)
    clear hn1 hn2 x5 xn hm5 hn5
    obtain ⟨nA, nca, ncs, nO, nco, nos⟩ := n
    simp only at d0 d1 HSM b5 hg5 c0 c1 HN ⊢
    go_wp2_with fail
    refine HSM.out.mono ?_
    clear HSM
    generalize w4.alloc (.cells #[.slice nA ncs.length nca, .slice nO nos.length nco] 39) = w5 at b5 hg5 ⊢
    rintro e w6 ⟨rfl, hb6⟩
    have bx := b5.trans (hb6.mono b5.size)
    have hgx := hg5.below hb6
    clear b5 hg5 hb6 c0 c1 d0 d1 HN
    have HT2 := hideP (rdmap_any s w6 hgx hs)
    go_wp2_with fail
    refine HT2.out.mono ?_
    rintro e w7 ⟨n, rfl, hn, hmo, hb7⟩
    have b7 := bx.trans (hb7.mono bx.size)
    have hg7 := hgx.below hb7
    clear bx hgx hb7 HT2 TAIL
    have al := (Below.refl w7.heap.size w7).alloc (Nat.le_refl _) (.cells #[.slice n.A n.cs.length n.ca, .slice n.O n.os.length n.co] 39)
    have b8 := b7.trans (al.mono b7.size)
    have hg8 := hg7.below al
    have hn8 := (hmo.below al).ms
    have xn := Box.new w7 39 #[.slice n.A n.cs.length n.ca, .slice n.O n.os.length n.co]
    have d0 := xn.cell 0 (v := .slice n.A n.cs.length n.ca) rfl
    have d1 := xn.cell 1 (v := .slice n.O n.os.length n.co) rfl
    by_cases hz : (rdM s.data.toList).1 = 0
    · obtain ⟨k1, k2⟩ := rdM_good hz hn
      have HM2 := hideP (mapT_any n _ hn8 hg8)
      rw [hz]
      have HV2 := hideP (show mpA n.cs n.os = s by unfold mpA; rw [if_pos k2, k1, bs_of])
      rw [k2, HV2.out] at HM2
      clear hz hn k1 k2 b7 hg7 al hmo hn8 hg8 xn
      obtain ⟨nA, nca, ncs, nO, nco, nos⟩ := n
      simp only at d0 d1 HM2 b8 ⊢
      go_wp2_with fail
      refine HM2.out.mono ?_
      clear HM2
      generalize w7.alloc (.cells #[.slice nA ncs.length nca, .slice nO nos.length nco] 39) = w8 at b8 ⊢
      rintro e w9 ⟨rfl, hb9⟩
      have b9 := b8.trans (hb9.mono b8.size)
      go_wp2_with fail
      go_ret
      exact ⟨rfl, b9⟩
    · have hbad := rdM_bad hz
      rw [hbad] at hn
      have hn1 : n.cs = [] := by injection hn with a b; exact a.symm
      have hn2 : n.os = [] := by injection hn with a b; exact b.symm
      have HSM := hideP (samemap_any n noM _ hn8 (noM_ms _))
      rw [decide_eq_true (show n.cs = noM.cs from hn1), decide_eq_true (show n.os = noM.os from hn2), Bool.and_self] at HSM
      have e1 : ((rdM s.data.toList).1 != 0) = true := by simpa using hz
      clear hz hn hn1 hn2 hbad b7 hg7 al hmo hn8 hg8 xn
      generalize (rdM s.data.toList).1 = q at e1 ⊢
      obtain ⟨nA, nca, ncs, nO, nco, nos⟩ := n
      simp only [noM] at d0 d1 HSM b8 ⊢
      go_wp2_with fail
      refine HSM.out.mono ?_
      clear HSM
      generalize w7.alloc (.cells #[.slice nA ncs.length nca, .slice nO nos.length nco] 39) = w8 at b8 ⊢
      rintro e w9 ⟨rfl, hb9⟩
      have b9 := b8.trans (hb9.mono b8.size)
      go_wp2_with fail
      go_ret
      exact ⟨rfl, b9⟩
  · have HV := hideP (show mpA cs os = ByteArray.empty by unfold mpA; rw [if_neg hc])
    have d1 : (chkM cs os == 0) = false := by simpa using hc
    rw [HV.out]
    clear hc
    generalize chkM cs os = q at d1 ⊢
    have bx := b3
    have hgx := hg3
    clear x3 b3 hm3 hg3
    generalize w3 = w6 at bx hgx ⊢
    have HT2 := hideP (rdmap_any s w6 hgx hs)
    go_wp2_with fail
    refine HT2.out.mono ?_
    rintro e w7 ⟨n, rfl, hn, hmo, hb7⟩
    have b7 := bx.trans (hb7.mono bx.size)
    have hg7 := hgx.below hb7
    clear bx hgx hb7 HT2 TAIL
    have al := (Below.refl w7.heap.size w7).alloc (Nat.le_refl _) (.cells #[.slice n.A n.cs.length n.ca, .slice n.O n.os.length n.co] 39)
    have b8 := b7.trans (al.mono b7.size)
    have hg8 := hg7.below al
    have hn8 := (hmo.below al).ms
    have xn := Box.new w7 39 #[.slice n.A n.cs.length n.ca, .slice n.O n.os.length n.co]
    have d0 := xn.cell 0 (v := .slice n.A n.cs.length n.ca) rfl
    have d1 := xn.cell 1 (v := .slice n.O n.os.length n.co) rfl
    by_cases hz : (rdM s.data.toList).1 = 0
    · obtain ⟨k1, k2⟩ := rdM_good hz hn
      have HM2 := hideP (mapT_any n _ hn8 hg8)
      rw [hz]
      have HV2 := hideP (show mpA n.cs n.os = s by unfold mpA; rw [if_pos k2, k1, bs_of])
      rw [k2, HV2.out] at HM2
      clear hz hn k1 k2 b7 hg7 al hmo hn8 hg8 xn
      obtain ⟨nA, nca, ncs, nO, nco, nos⟩ := n
      simp only at d0 d1 HM2 b8 ⊢
      go_wp2_with fail
      refine HM2.out.mono ?_
      clear HM2
      generalize w7.alloc (.cells #[.slice nA ncs.length nca, .slice nO nos.length nco] 39) = w8 at b8 ⊢
      rintro e w9 ⟨rfl, hb9⟩
      have b9 := b8.trans (hb9.mono b8.size)
      go_wp2_with fail
      go_ret
      exact ⟨rfl, b9⟩
    · have hbad := rdM_bad hz
      rw [hbad] at hn
      have hn1 : n.cs = [] := by injection hn with a b; exact a.symm
      have hn2 : n.os = [] := by injection hn with a b; exact b.symm
      have HSM := hideP (samemap_any n noM _ hn8 (noM_ms _))
      rw [decide_eq_true (show n.cs = noM.cs from hn1), decide_eq_true (show n.os = noM.os from hn2), Bool.and_self] at HSM
      have e1 : ((rdM s.data.toList).1 != 0) = true := by simpa using hz
      clear hz hn hn1 hn2 hbad b7 hg7 al hmo hn8 hg8 xn
      generalize (rdM s.data.toList).1 = q at e1 ⊢
      obtain ⟨nA, nca, ncs, nO, nco, nos⟩ := n
      simp only [noM] at d0 d1 HSM b8 ⊢
      go_wp2_with fail
      refine HSM.out.mono ?_
      clear HSM
      generalize w7.alloc (.cells #[.slice nA ncs.length nca, .slice nO nos.length nco] 39) = w8 at b8 ⊢
      rintro e w9 ⟨rfl, hb9⟩
      have b9 := b8.trans (hb9.mono b8.size)
      go_wp2_with fail
      go_ret
      exact ⟨rfl, b9⟩
end Go.Proofs.YtkdcdnefmcfpnaaDoor
