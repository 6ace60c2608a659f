/-
  text.readBody and text.ReadEntry: what they read.
  text.ReadEntry: what it reads.
-/
import Derived.Test.YtmepmiokpcddbabGreatDoorCa13
import Derived.Test.YtmepmiokpcddbabGreatDoorCa16
import Derived.Test.YtmepmiokpcddbabGreatDoorCa17
set_option linter.unusedVariables false
set_option linter.unusedSimpArgs false
namespace Go.Proofs.YtmepmiokpcddbabGreatDoor
open Go.RowKit
open Go.Lib hiding intOf

theorem read_bd1 {d : List Opr} (h : chkD d = 0) (hb : d.map bare = d) : ∀ o ∈ d, -9223372036854775808 ≤ o.n ∧ o.n ≤ 9223372036854775807 := fun o ho => by
  have h1 := chkO_zero.1 ((chkD_zero.1 h).2.2 o ho)
  by_cases h3 : o.kind = 3
  · obtain ⟨i, hi, he⟩ := List.mem_iff_getElem.1 ho
    have h4 : (d.map bare)[i]? = d[i]? := by rw [hb]
    rw [List.getElem?_map, List.getElem?_eq_getElem hi, he] at h4
    injection h4 with h4
    unfold bare at h4
    rw [if_pos h3] at h4
    have : o.n = 0 := by rw [← h4]
    omega
  · have := h1.2.2.2.2.1 h3
    simp [valB] at this
    omega
theorem rdD_bad1 {l : List UInt8} (h : (rdD l).1 ≠ 0) : (rdD l).2 = [] := by
  unfold rdD at h ⊢
  split
  · rfl
  · next d e =>
    rw [e] at h
    simp only at h ⊢
    split at h
    · exact absurd rfl h
    · next hc => rw [if_neg hc]
/-- the numbers of what is read are numbers -/
theorem rdD_bd (l : List UInt8) : ∀ o ∈ (rdD l).2, -9223372036854775808 ≤ o.n ∧ o.n ≤ 9223372036854775807 := by
  by_cases h : (rdD l).1 = 0
  · obtain ⟨_, h2, h3⟩ := tD_rdD (l := l) (d := (rdD l).2) (by rw [← h])
    exact read_bd1 h2 h3
  · rw [rdD_bad1 h]; simp
/-- what readBody hands back -/
def RetRb (w : World) (l : List UInt8) (e : Ending) (w' : World) : Prop :=
  ∃ x : Em, e = .returned (.tuple #[emV x, .int .i64 (rdB l).1]) ∧ ((rdB l).1 = 0 → (rdB l).2 = entOf x) ∧ (∀ o ∈ x.d, -9223372036854775808 ≤ o.n ∧ o.n ≤ 9223372036854775807) ∧ EO w' w.heap.size x ∧ Below w.heap.size w w'
theorem trim_map {l : List UInt8} (h : mapW.isPrefixOf l = true) : trimPrefix l mapW = l.drop 4 := by unfold trimPrefix hasPrefix; rw [if_pos h]; rfl
def mapS4 : ByteArray := ⟨#[109, 97, 112, 32]⟩
set_option maxHeartbeats 2000000 in
set_option maxRecDepth 100000 in
theorem rdbody_any (s : ByteArray) (w : World) (hg : Gl w) (hs : s.size < 4294967281) :
    Calls Tryz.prog 85 #[.string s] w (RetRb w s.data.toList) := by
  have b0 := (Below.refl w.heap.size w).alloc (Nat.le_refl _) (.cells #[.slice none 0 0, .bool false, .slice none 0 0, .slice none 0 0] 45)
  have x0 := Box.new w 45 #[.slice none 0 0, .bool false, .slice none 0 0, .slice none 0 0]
  have hg1 := hg.below b0
  have HC := hideP (fun W => Any.strings_CutPrefix (P := Tryz.prog) (ρ := Tryz.cutpL_ren) Tryz.cutpL s mapS4 W)
  unfold mapS4 at HC
  go_enter Tryz.func85, Tryz.ntmps85
  go_wp2_with fail
  refine (HC.out _).mono ?_
  clear HC
  generalize w.alloc _ = w1 at b0 x0 hg1 ⊢
  rintro e w2 ⟨rfl, hw⟩
  rw [hw]
  clear hw hg
  have hHP : hasPrefix s.data.toList (ByteArray.mk #[109, 97, 112, 32]).data.toList = mapW.isPrefixOf s.data.toList := rfl
  rw [hHP]
  cases hp : mapW.isPrefixOf s.data.toList
  · have HB := hideP (show rdB s.data.toList = if (rdD s.data.toList).1 = 0 then (0, ⟨false, (rdD s.data.toList).2, [], []⟩) else ((rdD s.data.toList).1, ent0) by unfold rdB; rw [hp]; rfl)
    have HR := hideP (rddeed_any s w1 hg1 hs)
    have HBD := hideP (rdD_bd s.data.toList)
    generalize bs (trimPrefix s.data.toList _) = tp
    generalize (ByteArray.mk (trimPrefix s.data.toList (ByteArray.mk #[109, 97, 112, 32]).data.toList).toArray) = tp2
    clear hp
    go_wp2_with fail
    refine HR.out.mono ?_
    clear HR
    rintro e w3 ⟨D, c, d, rfl, hd, hoo, hb3⟩
    have b3 := b0.trans (hb3.mono b0.size)
    have al := (Below.refl w3.heap.size w3).alloc (Nat.le_refl _) (.cells #[.slice D d.length c] 24)
    have b4 := b3.trans (al.mono b3.size)
    have x4 := (x0.below hb3).below al
    have hoo4 := (hoo.below al).mono b0.size
    have xn := (Box.new w3 24 #[.slice D d.length c]).cell 0 rfl
    obtain ⟨⟨c0, c1, c2, c3⟩, ⟨f0, f1, f2, f3⟩, R⟩ := box_four x4 (.slice D d.length c) (.bool false) (.slice none 0 0) (.slice none 0 0)
    have r0 := R.cell 0 rfl
    have r1 := R.cell 1 rfl
    have r2 := R.cell 2 rfl
    have r3 := R.cell 3 rfl
    have HF := hideP (eo_four (w := w) (x := ⟨D, c, d, false, noM⟩) x4 (Nat.le_refl _) ⟨hoo4, noM_mo _ _⟩ b4 (.slice D d.length c) (.bool false) (.slice none 0 0) (.slice none 0 0))
    have HV := hideP (show (rdB s.data.toList).1 = (rdD s.data.toList).1 ∧ ((rdB s.data.toList).1 = 0 → (rdB s.data.toList).2 = entOf ⟨D, c, d, false, noM⟩) by
      rw [HB.out]
      by_cases hz : (rdD s.data.toList).1 = 0
      · rw [if_pos hz]; exact ⟨hz.symm, fun _ => by rw [hd]; rfl⟩
      · rw [if_neg hz]; exact ⟨rfl, fun h => absurd h hz⟩)
    have HD := hideP hd
    clear hd hoo hoo4 b3 b4 x4 R al hb3 x0 b0 hg1 HB
    generalize hq : (rdD s.data.toList).1 = q at HV ⊢
    clear hq
    go_wp2_with fail
    exact bodyPost_ret (v := .tuple #[emV ⟨D, c, d, false, noM⟩, .int .i64 q]) (by simp [results, Tryz.results85, go_sem, r0, r1, r2, r3, emV, emC, noM]) rfl ⟨⟨D, c, d, false, noM⟩, by rw [HV.out.1], HV.out.2, by rw [← HD.out]; exact HBD.out, HF.out.1, HF.out.2⟩
  · have HB := hideP (show rdB s.data.toList = if (rdM (s.data.toList.drop 4)).1 = 0 then (0, ⟨true, [], (rdM (s.data.toList.drop 4)).2.1, (rdM (s.data.toList.drop 4)).2.2⟩) else ((rdM (s.data.toList.drop 4)).1, ent0) by unfold rdB; rw [if_pos hp])
    have htp : (ByteArray.mk (trimPrefix s.data.toList (ByteArray.mk #[109, 97, 112, 32]).data.toList).toArray) = bs (s.data.toList.drop 4) := by
      show bs (trimPrefix s.data.toList mapW) = _
      rw [trim_map hp]
    rw [htp]
    have hsz : (bs (s.data.toList.drop 4)).size < 4294967281 := by
      rw [bs_size, List.length_drop]
      have : s.data.toList.length = s.size := by simp
      omega
    have HR := hideP (rdmap_any (bs (s.data.toList.drop 4)) w1 hg1 hsz)
    rw [bs_data] at HR
    generalize bs (s.data.toList.drop 4) = tp at HR ⊢
    clear hp htp hsz hHP
    go_wp2_with fail
    refine HR.out.mono ?_
    clear HR
    rintro e w3 ⟨n, rfl, hn, hmo, hb3⟩
    have b3 := b0.trans (hb3.mono b0.size)
    have al := (Below.refl w3.heap.size w3).alloc (Nat.le_refl _) (.cells #[.slice n.A n.cs.length n.ca, .slice n.O n.os.length n.co] 28)
    have b4 := b3.trans (al.mono b3.size)
    have x4 := (x0.below hb3).below al
    have hmo4 := (hmo.below al).mono b0.size
    have xn0 := (Box.new w3 28 #[.slice n.A n.cs.length n.ca, .slice n.O n.os.length n.co]).cell 0 rfl
    have xn1 := (Box.new w3 28 #[.slice n.A n.cs.length n.ca, .slice n.O n.os.length n.co]).cell 1 rfl
    obtain ⟨⟨c0, c1, c2, c3⟩, ⟨f0, f1, f2, f3⟩, R⟩ := box_four x4 (.slice none 0 0) (.bool true) (.slice n.A n.cs.length n.ca) (.slice n.O n.os.length n.co)
    have r0 := R.cell 0 rfl
    have r1 := R.cell 1 rfl
    have r2 := R.cell 2 rfl
    have r3 := R.cell 3 rfl
    have HF := hideP (eo_four (w := w) (x := ⟨none, 0, [], true, n⟩) x4 (Nat.le_refl _) ⟨OO.nil _ _, hmo4⟩ b4 (.slice none 0 0) (.bool true) (.slice n.A n.cs.length n.ca) (.slice n.O n.os.length n.co))
    have HV := hideP (show (rdB s.data.toList).1 = (rdM (s.data.toList.drop 4)).1 ∧ ((rdB s.data.toList).1 = 0 → (rdB s.data.toList).2 = entOf ⟨none, 0, [], true, n⟩) by
      rw [HB.out]
      by_cases hz : (rdM (s.data.toList.drop 4)).1 = 0
      · rw [if_pos hz]; exact ⟨hz.symm, fun _ => by rw [hn]; rfl⟩
      · rw [if_neg hz]; exact ⟨rfl, fun h => absurd h hz⟩)
    clear hn hmo hmo4 b3 b4 x4 R al hb3 x0 b0 hg1 HB
    generalize hq : (rdM (s.data.toList.drop 4)).1 = q at HV ⊢
    clear hq
    obtain ⟨nA, nca, ncs, nO, nco, nos⟩ := n
    simp only at *
    go_wp2_with fail
    exact bodyPost_ret (v := .tuple #[emV ⟨none, 0, [], true, ⟨nA, nca, ncs, nO, nco, nos⟩⟩, .int .i64 q]) (by simp [results, Tryz.results85, go_sem, r0, r1, r2, r3, emV, emC]) rfl ⟨⟨none, 0, [], true, ⟨nA, nca, ncs, nO, nco, nos⟩⟩, by rw [HV.out.1], HV.out.2, by simp, HF.out.1, HF.out.2⟩
end Go.Proofs.YtmepmiokpcddbabGreatDoor

set_option linter.unusedVariables false
set_option linter.unusedSimpArgs false
namespace Go.Proofs.YtmepmiokpcddbabGreatDoor
open Go.RowKit
open Go.Lib hiding intOf

/-- what ReadEntry hands back -/
def RetRe (w : World) (l : List UInt8) (e : Ending) (w' : World) : Prop :=
  ∃ x : Em, e = .returned (.tuple #[emV x, .int .i64 ((rdE l).2.2 : Nat), .int .i64 (rdE l).1]) ∧ (rdE l).2.1 = entOf x ∧ (∀ o ∈ x.d, -9223372036854775808 ≤ o.n ∧ o.n ≤ 9223372036854775807) ∧ EO w' w.heap.size x ∧ Below w.heap.size w w'
theorem last_cases (l : List UInt8) : lastIndex l [32] = -1 ∨ ∃ n : Nat, n < l.length ∧ lastIndex l [32] = n := by
  rcases at_last 32 l with h | ⟨a, r, rfl, h⟩
  · exact .inl (last_no h)
  · exact .inr ⟨a.length, by simp, last_hit h⟩
theorem ext_take1 (s : ByteArray) (n : Nat) : (s.extract 0 n).data.toList = s.data.toList.take n := extract_from_zero s n
theorem ext_drop1 (s : ByteArray) (n : Nat) : (s.extract n s.size).data.toList = s.data.toList.drop n := by rw [extract_to_end]
set_option maxHeartbeats 4000000 in
set_option maxRecDepth 100000 in
theorem rdentry_any (s : ByteArray) (w : World) (hg : Gl w) (hs : s.size < 4294967281) :
    Calls Tryz.prog 19 #[.string s] w (RetRe w s.data.toList) := by
  have b0 := (Below.refl w.heap.size w).alloc (Nat.le_refl _) (.cells #[.slice none 0 0, .bool false, .slice none 0 0, .slice none 0 0] 45)
  have x0 := Box.new w 45 #[.slice none 0 0, .bool false, .slice none 0 0, .slice none 0 0]
  have hg1 := hg.below b0
  have HC := hideP (cut_any s 10 (w.alloc (.cells #[.slice none 0 0, .bool false, .slice none 0 0, .slice none 0 0] 45)) (by omega))
  have HE := hideP (show rdE s.data.toList = if (cut s.data.toList [10]).2.2 = false then (7, ent0, 0) else if (prL (cut s.data.toList [10]).1).1 = 0 then (0, (prL (cut s.data.toList [10]).1).2, (cut s.data.toList [10]).1.length + 1) else ((prL (cut s.data.toList [10]).1).1, ent0, 0) from rfl)
  have hll : (cut s.data.toList [10]).1.length ≤ s.size := by
    have hsl : s.data.toList.length = s.size := by simp
    rcases cut_cases 10 s.data.toList with ⟨_, e⟩ | ⟨a, r, e1, _, e⟩
    · rw [e]; simp only; omega
    · rw [e]; simp only; have := congrArg List.length e1; simp at this; omega
  generalize cut s.data.toList [10] = ct at HC HE hll
  obtain ⟨l, rest, ended⟩ := ct
  simp only at HC HE hll
  go_enter Tryz.func19, Tryz.ntmps19
  go_wp2_with fail
  refine HC.out.mono ?_
  clear HC
  generalize w.alloc _ = w1 at b0 x0 hg1 ⊢
  rintro e w2 ⟨rfl, hb2⟩
  have b2 := b0.trans (hb2.mono b0.size)
  have x2 := x0.below hb2
  have hg2 := hg1.below hb2
  clear b0 x0 hg1 hb2 hg
  have hlz : (bs l).size ≤ s.size := by rw [bs_size]; exact hll
  have HLD := hideP (bs_data l)
  have HLN := hideP (bs_size l)
  generalize bs l = li at hlz HLD HLN ⊢
  generalize bs rest = re at ⊢
  cases ended
  · have HV := hideP (show rdE s.data.toList = (7, ent0, 0) by rw [HE.out]; rfl)
    clear HE
    obtain ⟨⟨c0, c1, c2, c3⟩, ⟨f0, f1, f2, f3⟩, R⟩ := box_four x2 (.slice none 0 0) (.bool false) (.slice none 0 0) (.slice none 0 0)
    have r0 := R.cell 0 rfl
    have r1 := R.cell 1 rfl
    have r2 := R.cell 2 rfl
    have r3 := R.cell 3 rfl
    have HF := hideP (eo_four (w := w) (x := em0) x2 (Nat.le_refl _) (em0_eo _ _) b2 (.slice none 0 0) (.bool false) (.slice none 0 0) (.slice none 0 0))
    clear R x2 b2
    go_wp2_with fail
    exact bodyPost_ret (v := .tuple #[emV em0, .int .i64 0, .int .i64 7]) (by simp [results, Tryz.results19, go_sem, r0, r1, r2, r3, emV, emC, em0, noM]) rfl ⟨em0, by rw [HV.out]; rfl, by rw [HV.out]; rfl, by simp [em0], HF.out.1, HF.out.2⟩
  · have HE2 := hideP (show rdE s.data.toList = if (prL l).1 = 0 then (0, (prL l).2, l.length + 1) else ((prL l).1, ent0, 0) by rw [HE.out]; rfl)
    clear HE
    have HL := hideP (Any.strings_LastIndex (P := Tryz.prog) (ρ := Tryz.lastL_ren) Tryz.lastL li ⟨#[32]⟩ (by omega) w2)
    rw [HLD.out] at HL
    have HL' := hideP (show Calls Tryz.prog 84 #[.string li, .string ⟨#[32]⟩] w2 fun e w' => e = .returned (.int .i64 (lastIndex l [32])) ∧ w' = w2 from HL.out)
    clear HL
    have HP := hideP (show prL l = if lastIndex l [32] < 0 then (9, ent0) else match rdN (l.drop ((lastIndex l [32]).toNat + 1)) with
      | none => (9, ent0)
      | some n => if n ≠ (sm (l.take (lastIndex l [32]).toNat) : Int) then (8, ent0) else rdB (l.take (lastIndex l [32]).toNat) from rfl)
    rcases last_cases l with hz | ⟨n, hn, hz⟩
    · rw [hz] at HL' HP
      have HV := hideP (show rdE s.data.toList = (9, ent0, 0) by rw [HE2.out, HP.out]; rfl)
      clear HE2 HP hz
      go_wp2_with fail
      refine HL'.out.mono ?_
      rintro e w3 ⟨rfl, hw⟩
      rw [hw]
      clear hw HL'
      obtain ⟨⟨c0, c1, c2, c3⟩, ⟨f0, f1, f2, f3⟩, R⟩ := box_four x2 (.slice none 0 0) (.bool false) (.slice none 0 0) (.slice none 0 0)
      have r0 := R.cell 0 rfl
      have r1 := R.cell 1 rfl
      have r2 := R.cell 2 rfl
      have r3 := R.cell 3 rfl
      have HF := hideP (eo_four (w := w) (x := em0) x2 (Nat.le_refl _) (em0_eo _ _) b2 (.slice none 0 0) (.bool false) (.slice none 0 0) (.slice none 0 0))
      clear R x2 b2
      go_wp2_with fail
      exact bodyPost_ret (v := .tuple #[emV em0, .int .i64 0, .int .i64 9]) (by simp [results, Tryz.results19, go_sem, r0, r1, r2, r3, emV, emC, em0, noM]) rfl ⟨em0, by rw [HV.out]; rfl, by rw [HV.out]; rfl, by simp [em0], HF.out.1, HF.out.2⟩
    · rw [hz] at HL' HP
      have hnz : ((n : Int)).toNat = n := by omega
      rw [if_neg (by omega), hnz] at HP
      have hnl : n < li.size := by rw [HLN.out]; exact hn
      have K1 := hideP (show (li.extract 0 n).data.toList = l.take n by rw [ext_take1, HLD.out])
      have K2 := hideP (show (li.extract (n + 1) li.size).data.toList = l.drop (n + 1) by rw [ext_drop1, HLD.out])
      have K3 : (li.extract 0 n).size ≤ s.size := by
        have : (li.extract 0 n).data.toList.length = (li.extract 0 n).size := by simp
        rw [K1.out, List.length_take] at this
        omega
      have g0 : ¬ (n : Int) < 0 := by omega
      have g1 : (0 : Int) ≤ (n : Int) := by omega
      have g2 : (n : Int) ≤ (li.size : Int) := by omega
      have g3 : (0 : Int) ≤ (n : Int) + 1 := by omega
      have g4 : (n : Int) + 1 ≤ (li.size : Int) := by omega
      have pw : IntKind.i64.wrap ((n : Int) + 1) = (n : Int) + 1 := by simp only [IntKind.wrap_i64]; omega
      have pl : IntKind.i64.wrap ((li.size : Int) + 1) = (li.size : Int) + 1 := by simp only [IntKind.wrap_i64]; omega
      have tn : ((n : Int) + 1).toNat = n + 1 := by omega
      have HN := hideP (rdnum_any (li.extract (n + 1) li.size) w2 hg2)
      rw [K2.out] at HN
      have HSU := hideP (fun W => sum_any (li.extract 0 n) W (by omega))
      rw [K1.out] at HSU
      have HRB := hideP (fun W (h : Gl W) => rdbody_any (li.extract 0 n) W h (by omega))
      rw [K1.out] at HRB
      clear hz hn
      go_wp2_with fail
      refine HL'.out.mono ?_
      rintro e w3 ⟨rfl, hw⟩
      rw [hw]
      clear hw HL'
      go_wp2_with fail
      refine HN.out.mono ?_
      clear HN
      rintro e w4 ⟨⟨z, rfl, hzz⟩, hb4⟩
      have b4 := b2.trans (hb4.mono b2.size)
      have x4 := x2.below hb4
      have hg4 := hg2.below hb4
      clear b2 x2 hg2 hb4
      cases hrn : rdN (l.drop (n + 1)) with
      | none =>
        rw [hrn] at HP
        have HV := hideP (show rdE s.data.toList = (9, ent0, 0) by rw [HE2.out, HP.out]; rfl)
        clear HE2 HP hrn hzz
        obtain ⟨⟨c0, c1, c2, c3⟩, ⟨f0, f1, f2, f3⟩, R⟩ := box_four x4 (.slice none 0 0) (.bool false) (.slice none 0 0) (.slice none 0 0)
        have r0 := R.cell 0 rfl
        have r1 := R.cell 1 rfl
        have r2 := R.cell 2 rfl
        have r3 := R.cell 3 rfl
        have HF := hideP (eo_four (w := w) (x := em0) x4 (Nat.le_refl _) (em0_eo _ _) b4 (.slice none 0 0) (.bool false) (.slice none 0 0) (.slice none 0 0))
        clear R x4 b4
        go_wp2_with fail
        exact bodyPost_ret (v := .tuple #[emV em0, .int .i64 0, .int .i64 9]) (by simp [results, Tryz.results19, go_sem, r0, r1, r2, r3, emV, emC, em0, noM]) rfl ⟨em0, by rw [HV.out]; rfl, by rw [HV.out]; rfl, by simp [em0], HF.out.1, HF.out.2⟩
      | some y =>
        have hzy := hzz y hrn
        subst hzy
        rw [hrn] at HP
        clear hzz hrn
        have HSU2 := hideP (HSU.out w4)
        have HRB2 := hideP (HRB.out w4 hg4)
        clear HSU HRB
        by_cases hsm : z = (sm (l.take n) : Int)
        · have HP2 := hideP (show prL l = rdB (l.take n) by rw [HP.out]; simp only; rw [if_neg (by simpa using hsm)])
          have dz : (z != (sm (l.take n) : Int)) = false := by simpa using hsm
          clear HP hsm
          generalize (sm (l.take n) : Int) = zs at dz HSU2
          go_wp2_with fail
          refine HSU2.out.mono ?_
          rintro e w5 ⟨rfl, rfl⟩
          clear HSU2
          go_wp2_with fail
          refine HRB2.out.mono ?_
          clear HRB2
          rintro e w6 ⟨x, rfl, hx, hbd, heo, hb6⟩
          have b6 := b4.trans (hb6.mono b4.size)
          have al := (Below.refl w6.heap.size w6).alloc (Nat.le_refl _) (.cells (emC x) 45)
          have b7 := b6.trans (al.mono b6.size)
          have x7 := (x4.below hb6).below al
          have heo7 := (heo.below al).mono b4.size
          have xe := Box.new w6 45 (emC x)
          rw [← HP2.out] at hx ⊢
          clear heo b6 hb6 al x4 b4 hg4
          by_cases hq : (prL l).1 = 0
          · have HV := hideP (show rdE s.data.toList = (0, (prL l).2, l.length + 1) by rw [HE2.out, if_pos hq])
            have HX := hideP (hx hq)
            have HBD := hideP hbd
            rw [hq]
            clear hq hx hbd HE2 HP2
            obtain ⟨D, c, d, isM, ⟨A, ca, cs, O, co, os⟩⟩ := x
            unfold emV
            unfold emC at b7 x7 heo7 xe ⊢
            simp only at b7 x7 heo7 xe ⊢
            have e0 := xe.cell 0 (v := .slice D d.length c) rfl
            have e1 := xe.cell 1 (v := .bool isM) rfl
            have e2 := xe.cell 2 (v := .slice A cs.length ca) rfl
            have e3 := xe.cell 3 (v := .slice O os.length co) rfl
            obtain ⟨⟨c0, c1, c2, c3⟩, ⟨f0, f1, f2, f3⟩, R⟩ := box_four x7 (.slice D d.length c) (.bool isM) (.slice A cs.length ca) (.slice O os.length co)
            have r0 := R.cell 0 rfl
            have r1 := R.cell 1 rfl
            have r2 := R.cell 2 rfl
            have r3 := R.cell 3 rfl
            have HF := hideP (eo_four (w := w) (x := ⟨D, c, d, isM, ⟨A, ca, cs, O, co, os⟩⟩) x7 (Nat.le_refl _) heo7 b7 (.slice D d.length c) (.bool isM) (.slice A cs.length ca) (.slice O os.length co))
            clear R x7 b7 heo7 xe
            go_wp2_with fail
            exact bodyPost_ret (v := .tuple #[emV ⟨D, c, d, isM, ⟨A, ca, cs, O, co, os⟩⟩, .int .i64 ((li.size : Int) + 1), .int .i64 0]) (by simp [results, Tryz.results19, go_sem, r0, r1, r2, r3, emV, emC]) rfl ⟨⟨D, c, d, isM, ⟨A, ca, cs, O, co, os⟩⟩, by rw [HV.out, HLN.out]; rfl, by rw [HV.out]; exact HX.out, HBD.out, HF.out.1, HF.out.2⟩
          · have HV := hideP (show rdE s.data.toList = ((prL l).1, ent0, 0) by rw [HE2.out, if_neg hq])
            have dq : ((prL l).1 != 0) = true := by simpa using hq
            clear hq hx hbd HE2 HP2 heo7
            generalize (prL l).1 = q at dq HV ⊢
            obtain ⟨D, c, d, isM, ⟨A, ca, cs, O, co, os⟩⟩ := x
            unfold emV
            unfold emC at b7 x7 xe ⊢
            simp only at b7 x7 xe ⊢
            clear xe
            obtain ⟨⟨c0, c1, c2, c3⟩, ⟨f0, f1, f2, f3⟩, R⟩ := box_four x7 (.slice none 0 0) (.bool false) (.slice none 0 0) (.slice none 0 0)
            have r0 := R.cell 0 rfl
            have r1 := R.cell 1 rfl
            have r2 := R.cell 2 rfl
            have r3 := R.cell 3 rfl
            have HF := hideP (eo_four (w := w) (x := em0) x7 (Nat.le_refl _) (em0_eo _ _) b7 (.slice none 0 0) (.bool false) (.slice none 0 0) (.slice none 0 0))
            clear R x7 b7
            go_wp2_with fail
            exact bodyPost_ret (v := .tuple #[emV em0, .int .i64 0, .int .i64 q]) (by simp [results, Tryz.results19, go_sem, r0, r1, r2, r3, emV, emC, em0, noM]) rfl ⟨em0, by rw [HV.out]; rfl, by rw [HV.out]; rfl, by simp [em0], HF.out.1, HF.out.2⟩
        · have hp8 : prL l = (8, ent0) := by rw [HP.out]; simp only; rw [if_pos (by simpa using hsm)]
          have HV := hideP (show rdE s.data.toList = (8, ent0, 0) by rw [HE2.out, hp8]; rfl)
          clear hp8
          have dz : (z != (sm (l.take n) : Int)) = true := by simpa using hsm
          clear HP hsm HE2 HRB2
          generalize (sm (l.take n) : Int) = zs at dz HSU2
          go_wp2_with fail
          refine HSU2.out.mono ?_
          rintro e w5 ⟨rfl, rfl⟩
          clear HSU2
          obtain ⟨⟨c0, c1, c2, c3⟩, ⟨f0, f1, f2, f3⟩, R⟩ := box_four x4 (.slice none 0 0) (.bool false) (.slice none 0 0) (.slice none 0 0)
          have r0 := R.cell 0 rfl
          have r1 := R.cell 1 rfl
          have r2 := R.cell 2 rfl
          have r3 := R.cell 3 rfl
          have HF := hideP (eo_four (w := w) (x := em0) x4 (Nat.le_refl _) (em0_eo _ _) b4 (.slice none 0 0) (.bool false) (.slice none 0 0) (.slice none 0 0))
          clear R x4 b4
          go_wp2_with fail
          exact bodyPost_ret (v := .tuple #[emV em0, .int .i64 0, .int .i64 8]) (by simp [results, Tryz.results19, go_sem, r0, r1, r2, r3, emV, emC, em0, noM]) rfl ⟨em0, by rw [HV.out]; rfl, by rw [HV.out]; rfl, by simp [em0], HF.out.1, HF.out.2⟩
end Go.Proofs.YtmepmiokpcddbabGreatDoor
