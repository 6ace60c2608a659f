/-
  shard.Same.
-/
import Derived.Test.YtoelnhnbefkfoaaDoorShPlainW
set_option linter.unusedVariables false
set_option linter.unusedSimpArgs false
namespace Go.Proofs.YtoelnhnbefkfoaaDoor
open Go.RowKit

/-- what Same answers -/
def sameV (cs : List ByteArray) (os : List Int) (ds : List ByteArray) (ps : List Int) : Bool × Int :=
  if chkM cs os ≠ 0 then (false, chkM cs os) else if chkM ds ps ≠ 0 then (false, chkM ds ps) else (decide ((plN cs os cs.length).1 = (plN ds ps ds.length).1) && decide ((plN cs os cs.length).2 = (plN ds ps ds.length).2), 0)
section
variable {cs ds : List ByteArray} {os ps : List Int}
theorem sameV_bad1 (h : chkM cs os ≠ 0) : sameV cs os ds ps = (false, chkM cs os) := by unfold sameV; rw [if_pos h]
theorem sameV_bad2 (h : chkM cs os = 0) (k : chkM ds ps ≠ 0) : sameV cs os ds ps = (false, chkM ds ps) := by unfold sameV; rw [if_neg (by simp [h]), if_pos k]
theorem sameV_ok (h : chkM cs os = 0) (k : chkM ds ps = 0) : sameV cs os ds ps = (decide ((plN cs os cs.length).1 = (plN ds ps ds.length).1) && decide ((plN cs os cs.length).2 = (plN ds ps ds.length).2), 0) := by unfold sameV; rw [if_neg (by simp [h]), if_neg (by simp [k])]
end
theorem ret_bi {a c : Bool} {b d : Int} (h : a = c) (k : b = d) : Ending.returned (.tuple #[.bool a, .int .i64 b]) = .returned (.tuple #[.bool c, .int .i64 d]) := by rw [h, k]
/-- while Same runs: the boxes of its two maps -/
structure SH (w : World) (g : Nat) (a b : Mp) (wr : World) : Prop where
  xb : Box wr (g + 1) 25 #[.slice b.A b.cs.length b.ca, .slice b.O b.os.length b.co]
  sb : MS wr b
  be : Below w.heap.size w wr
theorem SH.below {w wr w' : World} {g : Nat} {a b : Mp} (h : SH w g a b wr) (hb : Below wr.heap.size wr w') : SH w g a b w' := ⟨h.xb.below hb, h.sb.below hb, h.be.trans (hb.mono h.be.size)⟩
theorem SH.c {w wr : World} {g : Nat} {a b : Mp} (h : SH w g a b wr) : wr.cell? ⟨g + 1, 0, none⟩ = some (.slice b.A b.cs.length b.ca) ∧ wr.cell? ⟨g + 1, 1, none⟩ = some (.slice b.O b.os.length b.co) := ⟨h.xb.cell 0 rfl, h.xb.cell 1 rfl⟩

set_option maxHeartbeats 1000000 in
set_option maxRecDepth 100000 in
theorem shsame_any (a b : Mp) (w : World) (ha : MS w a) (hb : MS w b) (l1 : a.os.length ≤ 9223372036854775807) (l2 : b.os.length ≤ 9223372036854775807) :
    Calls Tryd.prog 18 #[.agg #[.slice a.A a.cs.length a.ca, .slice a.O a.os.length a.co], .agg #[.slice b.A b.cs.length b.ca, .slice b.O b.os.length b.co]] w fun e w' => e = .returned (.tuple #[.bool (sameV a.cs a.os b.cs b.os).1, .int .i64 (sameV a.cs a.os b.cs b.os).2]) ∧ Below w.heap.size w w' := by
  have b0 := ((Below.refl w.heap.size w).alloc (Nat.le_refl _) (.cells #[.slice a.A a.cs.length a.ca, .slice a.O a.os.length a.co] 25)).alloc (by simp) (.cells #[.slice b.A b.cs.length b.ca, .slice b.O b.os.length b.co] 25)
  have x0 := (Box.new w 25 #[.slice a.A a.cs.length a.ca, .slice a.O a.os.length a.co]).alloc (.cells #[.slice b.A b.cs.length b.ca, .slice b.O b.os.length b.co] 25)
  have x1 := Box.new (w.alloc (.cells #[.slice a.A a.cs.length a.ca, .slice a.O a.os.length a.co] 25)) 25 #[.slice b.A b.cs.length b.ca, .slice b.O b.os.length b.co]
  simp only [World.size_alloc] at x1
  have hH : SH w w.heap.size a b _ := ⟨x1, hb.below b0, b0⟩
  have ha0 := ha.below b0
  have c0 := x0.cell 0 (v := .slice a.A a.cs.length a.ca) rfl
  have c1 := x0.cell 1 (v := .slice a.O a.os.length a.co) rfl
  clear b0 x0 x1 ha hb
  go_enter Tryd.func18, Tryd.ntmps18
  go_wp2_with fail
  generalize (w.alloc _).alloc _ = w1 at hH ha0 c0 c1 ⊢
  generalize w.heap.size = g at hH c0 c1 ⊢
  refine (shplain_any a _ ha0 l1).mono ?_
  rintro e w2 ⟨n, rfl, hn1, hn2, hmo, hb2⟩
  replace hH := hH.below hb2
  clear hb2 c0 c1 ha0
  by_cases hc : chkM a.cs a.os = 0
  · have hv := plainV_ok hc
    have HC := hideP hc
    rw [hv] at hn1 hn2 ⊢
    have HN1 := hideP hn1
    have HN2 := hideP hn2
    clear hv hn1 hn2 hc
    have bx := (Below.refl w2.heap.size w2).alloc (Nat.le_refl _) (.cells #[.slice n.A n.cs.length n.ca, .slice n.O n.os.length n.co] 25)
    have y1 := Box.new w2 25 #[.slice n.A n.cs.length n.ca, .slice n.O n.os.length n.co]
    replace hH := hH.below bx
    replace hmo := hmo.below bx
    clear bx
    obtain ⟨z1, z2⟩ := hH.c
    go_wp2_with fail
    generalize w2.alloc _ = w3 at hH hmo y1 z1 z2 ⊢
    generalize w2.heap.size = gn at y1 ⊢
    refine (shplain_any b _ hH.sb l2).mono ?_
    rintro e w4 ⟨k, rfl, hk1, hk2, hmk, hb4⟩
    replace hH := hH.below hb4
    replace hmo := hmo.below hb4
    replace y1 := y1.below hb4
    clear hb4 z1 z2
    by_cases hd : chkM b.cs b.os = 0
    · have hv := plainV_ok hd
      have HV := hideP (sameV_ok HC.out hd)
      rw [hv] at hk1 hk2 ⊢
      have HK1 := hideP hk1
      have HK2 := hideP hk2
      clear hv hk1 hk2 hd
      have bx := (Below.refl w4.heap.size w4).alloc (Nat.le_refl _) (.cells #[.slice k.A k.cs.length k.ca, .slice k.O k.os.length k.co] 25)
      have y2 := Box.new w4 25 #[.slice k.A k.cs.length k.ca, .slice k.O k.os.length k.co]
      replace hH := hH.below bx
      have sn := (hmo.below bx).ms
      have sk := (hmk.below bx).ms
      replace y1 := y1.below bx
      clear bx hmo hmk
      have u0 := y1.cell 0 (v := .slice n.A n.cs.length n.ca) rfl
      have u1 := y2.cell 0 (v := .slice k.A k.cs.length k.ca) rfl
      go_wp2_with fail
      generalize w4.alloc _ = w5 at hH sn sk y1 y2 u0 u1 ⊢
      generalize w4.heap.size = gk at y2 u1 ⊢
      have m1 := sn.lc
      have m2 := sn.mc
      have m3 := sk.lc
      have m4 := sk.mc
      have m5 := sn.lo
      have m6 := sn.mo
      have m7 := sk.lo
      have m8 := sk.mo
      unfold maxLen at m2 m4 m6 m8
      refine (sequal_any n.A k.A n.ca k.ca n.cs k.cs _ sn.cuts sk.cuts (by omega) (by omega)).mono ?_
      rintro e w6 ⟨rfl, hb6⟩
      replace hH := hH.below hb6
      replace y1 := y1.below hb6
      replace y2 := y2.below hb6
      have HQ := hideP (ieq_any n.O k.O n.co k.co n.os k.os w6 (sn.own.below hb6) (sk.own.below hb6) (by omega) (by omega))
      clear hb6 u0 u1 sn sk m1 m2 m3 m4 m5 m6 m7 m8
      have u0 := y1.cell 1 (v := .slice n.O n.os.length n.co) rfl
      have u1 := y2.cell 1 (v := .slice k.O k.os.length k.co) rfl
      have hbe := hH.be
      generalize hp1 : decide (n.cs = k.cs) = p1
      generalize hp2 : decide (n.os = k.os) = p2 at HQ
      have HP1 := hideP (show decide ((plN a.cs a.os a.cs.length).1 = (plN b.cs b.os b.cs.length).1) = p1 by rw [← hp1, HN1.out, HK1.out])
      have HP2 := hideP (show decide ((plN a.cs a.os a.cs.length).2 = (plN b.cs b.os b.cs.length).2) = p2 by rw [← hp2, HN2.out, HK2.out])
      clear hp1 hp2
      cases p1
      · go_wp2_with fail
        go_ret2
        exact ⟨ret_bi (by rw [HV.out, HP1.out]; rfl) (by rw [HV.out]), hbe⟩
      · go_wp2_with fail
        refine HQ.out.mono ?_
        rintro e w7 ⟨rfl, hb7⟩
        have hbe := (hH.below hb7).be
        go_wp2_with fail
        go_ret2
        exact ⟨ret_bi (by rw [HV.out, HP1.out, HP2.out]; rfl) (by rw [HV.out]), hbe⟩
    · have hv := plainV_bad hd
      have HV := hideP (sameV_bad2 HC.out hd)
      have d : (chkM b.cs b.os != 0) = true := by simp [hd]
      rw [hv]
      have hbe := (hH.below ((Below.refl w4.heap.size w4).alloc (Nat.le_refl _) (.cells #[.slice k.A k.cs.length k.ca, .slice k.O k.os.length k.co] 25))).be
      clear hv hd hk1 hk2
      generalize chkM b.cs b.os = q at d HV
      go_wp2_with fail
      go_ret2
      exact ⟨ret_bi (by rw [HV.out]) (by rw [HV.out]), hbe⟩
  · have hv := plainV_bad hc
    have HV := hideP (sameV_bad1 (ds := b.cs) (ps := b.os) hc)
    have d : (chkM a.cs a.os != 0) = true := by simp [hc]
    rw [hv]
    have hbe := (hH.below ((Below.refl w2.heap.size w2).alloc (Nat.le_refl _) (.cells #[.slice n.A n.cs.length n.ca, .slice n.O n.os.length n.co] 25))).be
    clear hv hc hn1 hn2
    generalize chkM a.cs a.os = q at d HV
    go_wp2_with fail
    go_ret2
    exact ⟨ret_bi (by rw [HV.out]) (by rw [HV.out]), hbe⟩
end Go.Proofs.YtoelnhnbefkfoaaDoor
