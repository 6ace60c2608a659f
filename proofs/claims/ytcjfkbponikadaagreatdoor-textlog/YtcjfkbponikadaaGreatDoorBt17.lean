/-
  text.readBody and text.ReadEntry: what they read.
-/
import Derived.Test.YtcjfkbponikadaaGreatDoorBt12
import Derived.Test.YtcjfkbponikadaaGreatDoorBt15
import Derived.Test.YtcjfkbponikadaaGreatDoorBt16
set_option linter.unusedVariables false
set_option linter.unusedSimpArgs false
namespace Go.Proofs.YtcjfkbponikadaaGreatDoor
open Go.RowKit
open Go.Lib hiding intOf

theorem EO.set {w : World} {B g i : Nat} {x : Em} {v : Value} (h : EO w B x) (ht : Ty w g 45) : EO (w.setCell ⟨g, i, none⟩ v) B x :=
  ⟨h.ops.set1 ht (by decide), ⟨h.map.cuts.set ht (by decide), h.map.own.set ht (by decide)⟩⟩
/-- the result's box is written -/
theorem eo_four {w wr : World} {g : Nat} {a b c d : Value} {x : Em} (hr : Box wr g 45 #[a, b, c, d]) (hl : w.heap.size ≤ g) (hn : EO wr w.heap.size x) (hb : Below w.heap.size w wr) (p q r s : Value) :
    EO ((((wr.setCell ⟨g, 0, none⟩ p).setCell ⟨g, 1, none⟩ q).setCell ⟨g, 2, none⟩ r).setCell ⟨g, 3, none⟩ s) w.heap.size x ∧ Below w.heap.size w ((((wr.setCell ⟨g, 0, none⟩ p).setCell ⟨g, 1, none⟩ q).setCell ⟨g, 2, none⟩ r).setCell ⟨g, 3, none⟩ s) := by
  have h1 := hr.set 0 p
  have h2 := h1.set 1 q
  have h3 := h2.set 2 r
  exact ⟨(((hn.set hr.ty).set h1.ty).set h2.ty).set h3.ty, below_four hb hl p q r s⟩
theorem read_bd1 {d : List Opr} (h : chkD d = 0) (hb : d.map bare = d) : ∀ o ∈ d, -9223372036854775808 ≤ o.n ∧ o.n ≤ 9223372036854775807 := fun o ho => by
  have h1 := chkO_zero.1 ((chkD_zero.1 h).2.2 o ho)
  by_cases h3 : o.kind = 3
  · obtain ⟨i, hi, he⟩ := List.mem_iff_getElem.1 ho
    have h4 : (d.map bare)[i]? = d[i]? := by rw [hb]
    rw [List.getElem?_map, List.getElem?_eq_getElem hi, he] at h4
    injection h4 with h4
    unfold bare at h4
    rw [if_pos h3] at h4
    have : o.n = 0 := by rw [← h4]
    omega
  · have := h1.2.2.2.2.1 h3
    simp [valB] at this
    omega
theorem rdD_bad1 {l : List UInt8} (h : (rdD l).1 ≠ 0) : (rdD l).2 = [] := by
  unfold rdD at h ⊢
  split
  · rfl
  · next d e =>
    rw [e] at h
    simp only at h ⊢
    split at h
    · exact absurd rfl h
    · next hc => rw [if_neg hc]
/-- the numbers of what is read are numbers -/
theorem rdD_bd (l : List UInt8) : ∀ o ∈ (rdD l).2, -9223372036854775808 ≤ o.n ∧ o.n ≤ 9223372036854775807 := by
  by_cases h : (rdD l).1 = 0
  · obtain ⟨_, h2, h3⟩ := tD_rdD (l := l) (d := (rdD l).2) (by rw [← h])
    exact read_bd1 h2 h3
  · rw [rdD_bad1 h]; simp
/-- what readBody hands back -/
def RetRb (w : World) (l : List UInt8) (e : Ending) (w' : World) : Prop :=
  ∃ x : Em, e = .returned (.tuple #[emV x, .int .i64 (rdB l).1]) ∧ ((rdB l).1 = 0 → (rdB l).2 = entOf x) ∧ (∀ o ∈ x.d, -9223372036854775808 ≤ o.n ∧ o.n ≤ 9223372036854775807) ∧ EO w' w.heap.size x ∧ Below w.heap.size w w'
theorem trim_map {l : List UInt8} (h : mapW.isPrefixOf l = true) : trimPrefix l mapW = l.drop 4 := by unfold trimPrefix hasPrefix; rw [if_pos h]; rfl
def mapS4 : ByteArray := ⟨#[109, 97, 112, 32]⟩
set_option maxHeartbeats 2000000 in
set_option maxRecDepth 100000 in
theorem rdbody_any (s : ByteArray) (w : World) (hg : Gl w) (hs : s.size < 4294967281) :
    Calls Tryz.prog 88 #[.string s] w (RetRb w s.data.toList) := by
  have b0 := (Below.refl w.heap.size w).alloc (Nat.le_refl _) (.cells #[.slice none 0 0, .bool false, .slice none 0 0, .slice none 0 0] 45)
  have x0 := Box.new w 45 #[.slice none 0 0, .bool false, .slice none 0 0, .slice none 0 0]
  have hg1 := hg.below b0
  have HC := hideP (fun W => Any.strings_CutPrefix (P := Tryz.prog) (ρ := Tryz.cutpL_ren) Tryz.cutpL s mapS4 W)
  unfold mapS4 at HC
  go_enter Tryz.func88, Tryz.ntmps88
  go_wp2_with fail
  refine (HC.out _).mono ?_
  clear HC
  generalize w.alloc _ = w1 at b0 x0 hg1 ⊢
  rintro e w2 ⟨rfl, hw⟩
  rw [hw]
  clear hw hg
  have hHP : hasPrefix s.data.toList (ByteArray.mk #[109, 97, 112, 32]).data.toList = mapW.isPrefixOf s.data.toList := rfl
  rw [hHP]
  cases hp : mapW.isPrefixOf s.data.toList
  · have HB := hideP (show rdB s.data.toList = if (rdD s.data.toList).1 = 0 then (0, ⟨false, (rdD s.data.toList).2, [], []⟩) else ((rdD s.data.toList).1, ent0) by unfold rdB; rw [hp]; rfl)
    have HR := hideP (rddeed_any s w1 hg1 hs)
    have HBD := hideP (rdD_bd s.data.toList)
    generalize bs (trimPrefix s.data.toList _) = tp
    generalize (ByteArray.mk (trimPrefix s.data.toList (ByteArray.mk #[109, 97, 112, 32]).data.toList).toArray) = tp2
    clear hp
    go_wp2_with fail
    refine HR.out.mono ?_
    clear HR
    rintro e w3 ⟨D, c, d, rfl, hd, hoo, hb3⟩
    have b3 := b0.trans (hb3.mono b0.size)
    have al := (Below.refl w3.heap.size w3).alloc (Nat.le_refl _) (.cells #[.slice D d.length c] 24)
    have b4 := b3.trans (al.mono b3.size)
    have x4 := (x0.below hb3).below al
    have hoo4 := (hoo.below al).mono b0.size
    have xn := (Box.new w3 24 #[.slice D d.length c]).cell 0 rfl
    obtain ⟨⟨c0, c1, c2, c3⟩, ⟨f0, f1, f2, f3⟩, R⟩ := box_four x4 (.slice D d.length c) (.bool false) (.slice none 0 0) (.slice none 0 0)
    have r0 := R.cell 0 rfl
    have r1 := R.cell 1 rfl
    have r2 := R.cell 2 rfl
    have r3 := R.cell 3 rfl
    have HF := hideP (eo_four (w := w) (x := ⟨D, c, d, false, noM⟩) x4 (Nat.le_refl _) ⟨hoo4, noM_mo _ _⟩ b4 (.slice D d.length c) (.bool false) (.slice none 0 0) (.slice none 0 0))
    have HV := hideP (show (rdB s.data.toList).1 = (rdD s.data.toList).1 ∧ ((rdB s.data.toList).1 = 0 → (rdB s.data.toList).2 = entOf ⟨D, c, d, false, noM⟩) by
      rw [HB.out]
      by_cases hz : (rdD s.data.toList).1 = 0
      · rw [if_pos hz]; exact ⟨hz.symm, fun _ => by rw [hd]; rfl⟩
      · rw [if_neg hz]; exact ⟨rfl, fun h => absurd h hz⟩)
    have HD := hideP hd
    clear hd hoo hoo4 b3 b4 x4 R al hb3 x0 b0 hg1 HB
    generalize hq : (rdD s.data.toList).1 = q at HV ⊢
    clear hq
    go_wp2_with fail
    exact bodyPost_ret (v := .tuple #[emV ⟨D, c, d, false, noM⟩, .int .i64 q]) (by simp [results, Tryz.results88, go_sem, r0, r1, r2, r3, emV, emC, noM]) rfl ⟨⟨D, c, d, false, noM⟩, by rw [HV.out.1], HV.out.2, by rw [← HD.out]; exact HBD.out, HF.out.1, HF.out.2⟩
  · have HB := hideP (show rdB s.data.toList = if (rdM (s.data.toList.drop 4)).1 = 0 then (0, ⟨true, [], (rdM (s.data.toList.drop 4)).2.1, (rdM (s.data.toList.drop 4)).2.2⟩) else ((rdM (s.data.toList.drop 4)).1, ent0) by unfold rdB; rw [if_pos hp])
    have htp : (ByteArray.mk (trimPrefix s.data.toList (ByteArray.mk #[109, 97, 112, 32]).data.toList).toArray) = bs (s.data.toList.drop 4) := by
      show bs (trimPrefix s.data.toList mapW) = _
      rw [trim_map hp]
    rw [htp]
    have hsz : (bs (s.data.toList.drop 4)).size < 4294967281 := by
      rw [bs_size, List.length_drop]
      have : s.data.toList.length = s.size := by simp
      omega
    have HR := hideP (rdmap_any (bs (s.data.toList.drop 4)) w1 hg1 hsz)
    rw [bs_data] at HR
    generalize bs (s.data.toList.drop 4) = tp at HR ⊢
    clear hp htp hsz hHP
    go_wp2_with fail
    refine HR.out.mono ?_
    clear HR
    rintro e w3 ⟨n, rfl, hn, hmo, hb3⟩
    have b3 := b0.trans (hb3.mono b0.size)
    have al := (Below.refl w3.heap.size w3).alloc (Nat.le_refl _) (.cells #[.slice n.A n.cs.length n.ca, .slice n.O n.os.length n.co] 28)
    have b4 := b3.trans (al.mono b3.size)
    have x4 := (x0.below hb3).below al
    have hmo4 := (hmo.below al).mono b0.size
    have xn0 := (Box.new w3 28 #[.slice n.A n.cs.length n.ca, .slice n.O n.os.length n.co]).cell 0 rfl
    have xn1 := (Box.new w3 28 #[.slice n.A n.cs.length n.ca, .slice n.O n.os.length n.co]).cell 1 rfl
    obtain ⟨⟨c0, c1, c2, c3⟩, ⟨f0, f1, f2, f3⟩, R⟩ := box_four x4 (.slice none 0 0) (.bool true) (.slice n.A n.cs.length n.ca) (.slice n.O n.os.length n.co)
    have r0 := R.cell 0 rfl
    have r1 := R.cell 1 rfl
    have r2 := R.cell 2 rfl
    have r3 := R.cell 3 rfl
    have HF := hideP (eo_four (w := w) (x := ⟨none, 0, [], true, n⟩) x4 (Nat.le_refl _) ⟨OO.nil _ _, hmo4⟩ b4 (.slice none 0 0) (.bool true) (.slice n.A n.cs.length n.ca) (.slice n.O n.os.length n.co))
    have HV := hideP (show (rdB s.data.toList).1 = (rdM (s.data.toList.drop 4)).1 ∧ ((rdB s.data.toList).1 = 0 → (rdB s.data.toList).2 = entOf ⟨none, 0, [], true, n⟩) by
      rw [HB.out]
      by_cases hz : (rdM (s.data.toList.drop 4)).1 = 0
      · rw [if_pos hz]; exact ⟨hz.symm, fun _ => by rw [hn]; rfl⟩
      · rw [if_neg hz]; exact ⟨rfl, fun h => absurd h hz⟩)
    clear hn hmo hmo4 b3 b4 x4 R al hb3 x0 b0 hg1 HB
    generalize hq : (rdM (s.data.toList.drop 4)).1 = q at HV ⊢
    clear hq
    obtain ⟨nA, nca, ncs, nO, nco, nos⟩ := n
    simp only at *
    go_wp2_with fail
    exact bodyPost_ret (v := .tuple #[emV ⟨none, 0, [], true, ⟨nA, nca, ncs, nO, nco, nos⟩⟩, .int .i64 q]) (by simp [results, Tryz.results88, go_sem, r0, r1, r2, r3, emV, emC]) rfl ⟨⟨none, 0, [], true, ⟨nA, nca, ncs, nO, nco, nos⟩⟩, by rw [HV.out.1], HV.out.2, by simp, HF.out.1, HF.out.2⟩
end Go.Proofs.YtcjfkbponikadaaGreatDoor
