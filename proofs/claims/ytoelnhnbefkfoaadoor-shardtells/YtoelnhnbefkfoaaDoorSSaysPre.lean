/-
  The walk of ShardSays.
-/
import Derived.Test.YtoelnhnbefkfoaaDoorShMX
import Derived.Test.YtoelnhnbefkfoaaDoorShCutW
import Derived.Test.YtoelnhnbefkfoaaDoorShCat3
import Derived.Test.YtoelnhnbefkfoaaDoorRMap
import Derived.Test.YtoelnhnbefkfoaaDoorRWhose
import Derived.Deep.DeepCutAuto
import Derived.Deep.CutBlock
set_option linter.unusedVariables false
set_option linter.unusedSimpArgs false
namespace Go.Proofs.YtoelnhnbefkfoaaDoor
open Go.RowKit

/-- while the law runs: the map and two more, each in its box -/
structure SA (w : World) (g : Nat) (m : Mp) (gc : Nat) (c : Mp) (gg : Nat) (n : Mp) (wr : World) : Prop where
  mh : MH w g m wr
  mc : MX w gc c wr
  mg : MX w gg n wr
section
variable {w wr w' : World} {g gc gg : Nat} {m c n : Mp}
theorem SA.below (h : SA w g m gc c gg n wr) (hb : Below wr.heap.size wr w') : SA w g m gc c gg n w' := ⟨h.mh.below hb, h.mc.below hb, h.mg.below hb⟩
theorem SA.alloc {o : Obj} (h : SA w g m gc c gg n wr) : SA w g m gc c gg n (wr.alloc o) := h.below ((Below.refl _ _).alloc (Nat.le_refl _) _)
theorem SA.drew (h : SA w g m gc c gg n wr) : SA w g m gc c gg n wr.drew := h.below (Below.refl _ _).drew
end
theorem check_none (W : World) : Calls Tryd.prog 10 #[.agg #[.slice none 0 0, .slice none 0 0]] W fun e w' => e = .returned (.int .i64 3) ∧ Below W.heap.size W w' := shcheck_any noM W (noM_mo W 0).ms (by simp [noM])
theorem same_none (c : Mp) (W : World) (h : MS W c) (h1 : c.cs = []) (h2 : c.os = []) : Calls Tryd.prog 11 #[.agg #[.slice c.A c.cs.length c.ca, .slice c.O c.os.length c.co], .agg #[.slice none 0 0, .slice none 0 0]] W fun e w' => e = .returned (.bool true) ∧ Below W.heap.size W w' := by
  have := samemap_any c noM W h (noM_mo W 0).ms
  rw [h1, h2] at this
  rw [h1, h2]
  exact this
theorem same_eq (a b : Mp) (W : World) (ha : MS W a) (hb : MS W b) (h1 : a.cs = b.cs) (h2 : a.os = b.os) : Calls Tryd.prog 11 #[.agg #[.slice a.A a.cs.length a.ca, .slice a.O a.os.length a.co], .agg #[.slice b.A b.cs.length b.ca, .slice b.O b.os.length b.co]] W fun e w' => e = .returned (.bool true) ∧ Below W.heap.size W w' := by
  have := samemap_any a b W ha hb
  rw [show (decide (a.cs = b.cs) && decide (a.os = b.os)) = true by rw [h1, h2]; simp] at this
  exact this
def argB (os : List Int) (i n : Int) : Bool := decide (i < 0) || decide ((os.length : Int) ≤ i) || decide (n < 0) || decide (3 < n)
theorem argB_yes {os : List Int} {i n : Int} (h : argB os i n = true) : i < 0 ∨ (os.length : Int) ≤ i ∨ ownB n = false := by
  simp only [argB, Bool.or_eq_true, decide_eq_true_eq] at h
  rcases h with ((h | h) | h) | h
  · exact .inl h
  · exact .inr (.inl h)
  · exact .inr (.inr (by simp [ownB]; omega))
  · exact .inr (.inr (by simp [ownB]; omega))
theorem argB_no {os : List Int} {i n : Int} (h : argB os i n = false) : ¬ (i < 0 ∨ (os.length : Int) ≤ i ∨ ownB n = false) ∧ 0 ≤ i ∧ i < (os.length : Int) ∧ 0 ≤ n ∧ n ≤ 3 := by
  simp only [argB, Bool.or_eq_false_iff, decide_eq_false_iff_not] at h
  obtain ⟨⟨⟨h1, h2⟩, h3⟩, h4⟩ := h
  have ho : ownB n = true := ownB_iff.2 (by omega)
  exact ⟨by rw [ho]; simp; omega, by omega, by omega, by omega, by omega⟩

set_option maxHeartbeats 4000000 in
set_option maxRecDepth 100000 in
theorem ssays_bad (m : Mp) (key : ByteArray) (i n : Int) (w : World) (hm : MS w m) (hc : chkM m.cs m.os ≠ 0) :
    Calls Tryd.prog 3 #[.agg #[.slice m.A m.cs.length m.ca, .slice m.O m.os.length m.co], .string key, .int .i64 i, .int .i64 n] w fun e w' => e = .returned (.bool true) ∧ Below w.heap.size w w' := by
  have hl2 : m.os.length ≤ 9223372036854775807 := by have := hm.lo; have := hm.mo; unfold maxLen at this; omega
  have hM := MH.new hm
  have HF := hideP (fun (W : World) (h : MS W m) => shfind_any m key W h hl2)
  have HC := hideP (fun (W : World) (h : MS W m) => shcut_any m key W h hl2)
  have HG := hideP (fun (W : World) (h : MS W m) => shgive_any m i n W h hl2)
  have HR := hideP (fun (W : World) (h : MS W m) => rmap_any m W h hl2)
  have HK := hideP (fun (W : World) (h : MS W m) => shcheck_any m W h hl2)
  rw [findV_bad hc] at HF
  rw [cutV_bad hc] at HC
  rw [giveV_bad hc] at HG
  have d0 : (chkM m.cs m.os != 0) = true := by simp [hc]
  have d1 : (chkM m.cs m.os == 0) = false := by simp [hc]
  clear hc
  generalize chkM m.cs m.os = q at HF HC HG HR HK d0 d1
  have dq : (q != q) = false := by simp
  have dq' : (q == q) = true := by simp
  go_enter Tryd.func3, Tryd.ntmps3
  obtain ⟨z1, z2⟩ := hM.c
  go_wp2_with fail
  generalize w.alloc _ = w1 at hM z1 z2 ⊢
  generalize hg : w.heap.size = g at hM z1 z2 ⊢
  clear hg
  refine (HF.out _ hM.ms).mono ?_
  rintro e w2 ⟨rfl, hb2⟩
  replace hM := hM.below hb2
  clear hb2 z1 z2
  obtain ⟨z1, z2⟩ := hM.c
  go_wp2_with fail
  refine (HC.out _ hM.ms).mono ?_
  rintro e w3 ⟨c, rfl, hc1, hc2, hco, hb3⟩
  simp only at hc1 hc2
  have hX := MX.mk_ (hco.mono hM.be.size) (hM.below hb3).be
  replace hM := (hM.below hb3).below ((Below.refl _ _).alloc (Nat.le_refl _) (.cells #[.slice c.A c.cs.length c.ca, .slice c.O c.os.length c.co] 25))
  have HSC := hideP (fun (W : World) (h : MS W c) => same_none c W h hc1 hc2)
  clear hb3 z1 z2 hc1 hc2 hco
  obtain ⟨z1, z2⟩ := hM.c
  go_wp2_with fail
  generalize w3.alloc _ = w4 at hM hX z1 z2 ⊢
  generalize w3.heap.size = gc at hX ⊢
  refine (HG.out _ hM.ms).mono ?_
  rintro e w5 ⟨v, rfl, hv1, hv2, hvo, hb5⟩
  simp only at hv1 hv2
  have hV := MX.mk_ (hvo.mono hM.be.size) (hM.below hb5).be
  have hS : SA w g m gc c w5.heap.size v _ := ⟨(hM.below hb5).below ((Below.refl _ _).alloc (Nat.le_refl _) _), (hX.below hb5).alloc, hV⟩
  have HSV := hideP (fun (W : World) (h : MS W v) => same_none v W h hv1 hv2)
  clear hb5 z1 z2 hv1 hv2 hvo hV hX hM
  obtain ⟨z1, z2⟩ := hS.mh.c
  go_wp2_with fail
  generalize w5.alloc _ = w6 at hS z1 z2 ⊢
  generalize w5.heap.size = gg at hS ⊢
  refine (HR.out _ hS.mh.ms).mono ?_
  rintro e w7 ⟨rfl, hb7⟩
  replace hS := hS.below hb7
  clear z1 z2 hb7
  obtain ⟨z1, z2⟩ := hS.mh.c
  go_wp2_with fail
  refine (HK.out _ hS.mh.ms).mono ?_
  rintro e w8 ⟨rfl, hb8⟩
  replace hS := hS.below hb8
  clear z1 z2 hb8
  go_wp2_with fail
  refine (check_none _).mono ?_
  rintro e w9 ⟨rfl, hb9⟩
  replace hS := hS.below hb9
  clear hb9
  obtain ⟨y1, y2⟩ := hS.mc.c
  go_wp2_with fail
  refine (HSC.out _ hS.mc.ms).mono ?_
  rintro e w10 ⟨rfl, hb10⟩
  replace hS := hS.below hb10
  clear y1 y2 hb10
  obtain ⟨y1, y2⟩ := hS.mg.c
  go_wp2_with fail
  refine (HSV.out _ hS.mg.ms).mono ?_
  rintro e w11 ⟨rfl, hb11⟩
  have hbe := (hS.below hb11).mh.be
  go_wp2_with fail
  go_ret
  exact ⟨rfl, hbe⟩
end Go.Proofs.YtoelnhnbefkfoaaDoor
