/-
  shard.Give.
-/
import Derived.Test.YtoelnhnbefkfoaaDoorShPlainW
import Derived.Test.YtoelnhnbefkfoaaDoorShCat
import Derived.Test.YtoelnhnbefkfoaaDoorORSet
set_option linter.unusedVariables false
set_option linter.unusedSimpArgs false
namespace Go.Proofs.YtoelnhnbefkfoaaDoor
open Go.RowKit

/-- what Give answers -/
def giveV (cs : List ByteArray) (os : List Int) (i n : Int) : (List ByteArray × List Int) × Int :=
  if chkM cs os ≠ 0 then (([], []), chkM cs os) else if i < 0 ∨ (os.length : Int) ≤ i ∨ ownB n = false then (([], []), 1) else ((cs, os.set i.toNat n), 0)
theorem giveV_bad {cs : List ByteArray} {os : List Int} {i n : Int} (h : chkM cs os ≠ 0) : giveV cs os i n = (([], []), chkM cs os) := by unfold giveV; rw [if_pos h]
theorem giveV_arg {cs : List ByteArray} {os : List Int} {i n : Int} (h : chkM cs os = 0) (k : i < 0 ∨ (os.length : Int) ≤ i ∨ ownB n = false) : giveV cs os i n = (([], []), 1) := by unfold giveV; rw [if_neg (by simp [h]), if_pos k]
theorem giveV_ok {cs : List ByteArray} {os : List Int} {i n : Int} (h : chkM cs os = 0) (k : ¬ (i < 0 ∨ (os.length : Int) ≤ i ∨ ownB n = false)) : giveV cs os i n = ((cs, os.set i.toNat n), 0) := by unfold giveV; rw [if_neg (by simp [h]), if_neg k]
/-- while a function runs that makes a map of a map -/
structure RH (w : World) (g : Nat) (m : Mp) (wr : World) : Prop where
  mh : MH w g m wr
  ms0 : MS w m
  res : Box wr (g + 1) 25 #[.slice none 0 0, .slice none 0 0]
  low : w.heap.size ≤ g
theorem RH.below {w wr w' : World} {g : Nat} {m : Mp} (h : RH w g m wr) (hb : Below wr.heap.size wr w') : RH w g m w' := ⟨h.mh.below hb, h.ms0, h.res.below hb, h.low⟩
theorem RH.alloc {w wr : World} {g : Nat} {m : Mp} {o : Obj} (h : RH w g m wr) : RH w g m (wr.alloc o) := h.below ((Below.refl _ _).alloc (Nat.le_refl _) _)
theorem RH.drew {w wr : World} {g : Nat} {m : Mp} (h : RH w g m wr) : RH w g m wr.drew := h.below (Below.refl _ _).drew
theorem RH.new {w : World} {m : Mp} (hm : MS w m) : RH w w.heap.size m ((w.alloc (.cells #[.slice m.A m.cs.length m.ca, .slice m.O m.os.length m.co] 25)).alloc (.cells #[.slice none 0 0, .slice none 0 0] 25)) := by
  have x1 := Box.new (w.alloc (.cells #[.slice m.A m.cs.length m.ca, .slice m.O m.os.length m.co] 25)) 25 #[.slice none 0 0, .slice none 0 0]
  simp only [World.size_alloc] at x1
  exact ⟨(MH.new hm).below ((Below.refl _ _).alloc (Nat.le_refl _) _), hm, x1, Nat.le_refl _⟩
/-- another block is written -/
theorem RH.other {w wr : World} {g : Nat} {m : Mp} (h : RH w g m wr) {b i : Nat} {v : Value} (hb : g + 1 < b) : RH w g m (wr.setCell ⟨b, i, none⟩ v) := by
  have hl := h.low
  have hbe : Below w.heap.size w (wr.setCell ⟨b, i, none⟩ v) := below_set h.mh.be (by omega)
  exact ⟨⟨h.mh.x0.other (by show b ≠ g; omega) _, h.ms0.below hbe, hbe⟩, h.ms0, h.res.other (by show b ≠ g + 1; omega) _, h.low⟩
/-- the end where an error is handed back -/
structure RE (w : World) (g : Nat) (wr : World) : Prop where
  f0 : wr.frozen? ⟨g + 1, 0, none⟩ = false
  f1 : (wr.setCell ⟨g + 1, 0, none⟩ (.slice none 0 0)).frozen? ⟨g + 1, 1, none⟩ = false
  d0 : wr.cell? ⟨g + 1, 0, none⟩ = some (.slice none 0 0)
  d1 : (wr.setCell ⟨g + 1, 0, none⟩ (.slice none 0 0)).cell? ⟨g + 1, 1, none⟩ = some (.slice none 0 0)
  q0 : ((wr.setCell ⟨g + 1, 0, none⟩ (.slice none 0 0)).setCell ⟨g + 1, 1, none⟩ (.slice none 0 0)).cell? ⟨g + 1, 0, none⟩ = some (.slice none 0 0)
  q1 : ((wr.setCell ⟨g + 1, 0, none⟩ (.slice none 0 0)).setCell ⟨g + 1, 1, none⟩ (.slice none 0 0)).cell? ⟨g + 1, 1, none⟩ = some (.slice none 0 0)
  fin : MO ((wr.setCell ⟨g + 1, 0, none⟩ (.slice none 0 0)).setCell ⟨g + 1, 1, none⟩ (.slice none 0 0)) w.heap.size noM ∧ Below w.heap.size w ((wr.setCell ⟨g + 1, 0, none⟩ (.slice none 0 0)).setCell ⟨g + 1, 1, none⟩ (.slice none 0 0))
theorem RH.re {w wr : World} {g : Nat} {m : Mp} (h : RH w g m wr) : RE w g wr :=
  have r := (h.res.set 0 (.slice none 0 0)).set 1 (.slice none 0 0)
  ⟨h.res.frozen 0, (h.res.set 0 (.slice none 0 0)).frozen 1, h.res.cell 0 rfl, (h.res.set 0 (.slice none 0 0)).cell 1 rfl, r.cell 0 rfl, r.cell 1 rfl, res_set (n := noM) h.res (by have := h.low; omega) (noM_mo _ _) h.mh.be _ _⟩
/-- the end where a map is handed back -/
structure RF (w : World) (g : Nat) (n : Mp) (wr : World) : Prop where
  f0 : wr.frozen? ⟨g + 1, 0, none⟩ = false
  f1 : (wr.setCell ⟨g + 1, 0, none⟩ (.slice n.A n.cs.length n.ca)).frozen? ⟨g + 1, 1, none⟩ = false
  d0 : wr.cell? ⟨g + 1, 0, none⟩ = some (.slice none 0 0)
  d1 : (wr.setCell ⟨g + 1, 0, none⟩ (.slice n.A n.cs.length n.ca)).cell? ⟨g + 1, 1, none⟩ = some (.slice none 0 0)
  q0 : ((wr.setCell ⟨g + 1, 0, none⟩ (.slice n.A n.cs.length n.ca)).setCell ⟨g + 1, 1, none⟩ (.slice n.O n.os.length n.co)).cell? ⟨g + 1, 0, none⟩ = some (.slice n.A n.cs.length n.ca)
  q1 : ((wr.setCell ⟨g + 1, 0, none⟩ (.slice n.A n.cs.length n.ca)).setCell ⟨g + 1, 1, none⟩ (.slice n.O n.os.length n.co)).cell? ⟨g + 1, 1, none⟩ = some (.slice n.O n.os.length n.co)
  fin : MO ((wr.setCell ⟨g + 1, 0, none⟩ (.slice n.A n.cs.length n.ca)).setCell ⟨g + 1, 1, none⟩ (.slice n.O n.os.length n.co)) w.heap.size n ∧ Below w.heap.size w ((wr.setCell ⟨g + 1, 0, none⟩ (.slice n.A n.cs.length n.ca)).setCell ⟨g + 1, 1, none⟩ (.slice n.O n.os.length n.co))
theorem RH.rf {w wr : World} {g : Nat} {m n : Mp} (h : RH w g m wr) (hn : MO wr w.heap.size n) : RF w g n wr :=
  have r := (h.res.set 0 (.slice n.A n.cs.length n.ca)).set 1 (.slice n.O n.os.length n.co)
  ⟨h.res.frozen 0, (h.res.set 0 (.slice n.A n.cs.length n.ca)).frozen 1, h.res.cell 0 rfl, (h.res.set 0 (.slice n.A n.cs.length n.ca)).cell 1 rfl, r.cell 0 rfl, r.cell 1 rfl, res_set h.res (by have := h.low; omega) hn h.mh.be _ _⟩

set_option maxHeartbeats 2000000 in
set_option maxRecDepth 100000 in
theorem shgive_any (m : Mp) (i n : Int) (w : World) (hm : MS w m) (l2 : m.os.length ≤ 9223372036854775807) :
    Calls Tryd.prog 8 #[.agg #[.slice m.A m.cs.length m.ca, .slice m.O m.os.length m.co], .int .i64 i, .int .i64 n] w (RetMr w (giveV m.cs m.os i n)) := by
  have hH := RH.new hm
  go_enter Tryd.func8, Tryd.ntmps8
  obtain ⟨z1, z2⟩ := hH.mh.c
  go_wp2_with fail
  generalize (w.alloc _).alloc _ = w1 at hH z1 z2 ⊢
  generalize hg : w.heap.size = g at hH z1 z2 ⊢
  clear hg
  refine (shcheck_any m _ hH.mh.ms l2).mono ?_
  rintro e w2 ⟨rfl, hb2⟩
  replace hH := hH.below hb2
  clear hb2 z1 z2
  by_cases hc : chkM m.cs m.os = 0
  · have hok := chkM_ok.1 hc
    have hfew := hok.few
    have hlen := hok.len
    have HC := hideP hc
    have HL := hideP hlen
    rw [hc]
    clear hc hok
    obtain ⟨z1, z2⟩ := hH.mh.c
    by_cases hi : i < 0
    · have HV := hideP (giveV_arg (n := n) HC.out (.inl hi))
      obtain ⟨f0, f1, d0, d1, q0, q1, hfin⟩ := hH.re
      have HF := hideP hfin
      clear hfin hlen
      go_wp2_with fail
      exact bodyPost_ret (v := .tuple #[.agg #[.slice none 0 0, .slice none 0 0], .int .i64 1]) (by simp [results, Tryd.results8, go_sem, q0, q1]) rfl ⟨noM, by rw [HV.out]; rfl, by rw [HV.out]; rfl, by rw [HV.out]; rfl, HF.out.1, HF.out.2⟩
    have gi : (decide (i < 0)) = false := by simp; omega
    by_cases hj : (m.os.length : Int) ≤ i
    · have HV := hideP (giveV_arg (n := n) HC.out (.inr (.inl hj)))
      obtain ⟨f0, f1, d0, d1, q0, q1, hfin⟩ := hH.re
      have HF := hideP hfin
      clear hfin hlen
      go_wp2_with fail
      exact bodyPost_ret (v := .tuple #[.agg #[.slice none 0 0, .slice none 0 0], .int .i64 1]) (by simp [results, Tryd.results8, go_sem, q0, q1]) rfl ⟨noM, by rw [HV.out]; rfl, by rw [HV.out]; rfl, by rw [HV.out]; rfl, HF.out.1, HF.out.2⟩
    have gj : (decide ((m.os.length : Int) ≤ i)) = false := by simp; omega
    clear hlen
    go_wp2_with fail
    refine (isown_any n _).mono ?_
    rintro e w3 ⟨rfl, rfl⟩
    cases hn : ownB n
    · have HV := hideP (giveV_arg (i := i) HC.out (.inr (.inr hn)))
      obtain ⟨f0, f1, d0, d1, q0, q1, hfin⟩ := hH.re
      have HF := hideP hfin
      clear hfin hn
      go_wp2_with fail
      exact bodyPost_ret (v := .tuple #[.agg #[.slice none 0 0, .slice none 0 0], .int .i64 1]) (by simp [results, Tryd.results8, go_sem, q0, q1]) rfl ⟨noM, by rw [HV.out]; rfl, by rw [HV.out]; rfl, by rw [HV.out]; rfl, HF.out.1, HF.out.2⟩
    · have HV := hideP (giveV_ok HC.out (show ¬ (i < 0 ∨ (m.os.length : Int) ≤ i ∨ ownB n = false) by rw [hn]; simp; omega))
      clear hn
      obtain ⟨k, rfl⟩ : ∃ k : Nat, i = (k : Int) := ⟨i.toNat, by omega⟩
      have hkl : k < m.os.length := by omega
      rw [Int.toNat_natCast] at HV
      have hcat := iconcat1 w2 w2.heap.size rfl m.O m.os.length m.co m.os rfl hH.mh.ms.own.vs (by have := HL.out; omega)
      have HCAT := hideP hcat
      clear hcat hi hj gi gj
      go_wp2_with fail
      refine HCAT.out.mono ?_
      rintro e w3 ⟨O', co', rfl, ho, hb3⟩
      have hls := hH.res.lt
      replace hH := hH.below hb3
      have hsz := hH.mh.be.size
      obtain ⟨cc1, cc2, cc3, cc4⟩ := ho.caps
      rw [List.length_map] at cc1
      have hOn : ∃ a, O' = some a := by
        cases O' with
        | none => have := cc3 rfl; omega
        | some a => exact ⟨a, rfl⟩
      obtain ⟨a, rfl⟩ := hOn
      obtain ⟨gO, rfl, hgO1, hgO2⟩ := cc4 a rfl
      have fO := ho.frozen_ k
      obtain ⟨bz, oz, ez, _, cz⟩ := ho.vs k (.int .i64 m.os[k]) (by simp [hkl])
      injection ez with ez
      injection ez with ez1 ez2
      subst ez1; subst ez2
      have hset := ho.set_ (k := k) (by rw [List.length_map]; exact hkl) (.int .i64 n)
      rw [← List.map_set] at hset
      have hH4 := hH.other (b := gO) (i := k) (v := .int .i64 n) (by omega)
      have g1 : (0 : Int) ≤ (k : Int) := by omega
      have g2 : (k : Int) < (m.os.length : Int) := by omega
      rw [Nat.zero_add] at cz
      obtain ⟨z1', z2'⟩ := hH4.mh.c
      have hb34 : w2.heap.size ≤ w3.heap.size := hb3.size
      have hlo := hH.low
      have hset' : OR (w3.setCell ⟨gO, k, none⟩ (.int .i64 n)) w.heap.size 3 (some ⟨gO, 0, none⟩) co' ((m.os.set k n).map (Value.int .i64)) := hset.mono (by omega)
      clear HCAT z1 z2 hb3 ho cc1 cc2 cc3 cc4 hset hls hH
      generalize m.os[k] = old at cz
      have HCAT := hideP (sconcat1 (w3.setCell ⟨gO, k, none⟩ (.int .i64 n)) w3.heap.size (by simp [World.setCell]) m.A m.cs.length m.ca m.cs rfl hH4.mh.ms.cuts (by omega))
      go_wp2_with fail
      generalize w3.setCell _ _ = w4 at hH4 z1' z2' hset' HCAT ⊢
      refine HCAT.out.mono ?_
      rintro e w5 ⟨A', ca', rfl, hA, hb5⟩
      have hmo : MO w5 w.heap.size ⟨A', ca', m.cs, some ⟨gO, 0, none⟩, co', m.os.set k n⟩ := ⟨hA.mono hH4.mh.be.size, hset'.below hb5⟩
      replace hH4 := hH4.below hb5
      obtain ⟨f0, f1, d0, d1, q0, q1, hfin⟩ := hH4.rf hmo
      have HF := hideP hfin
      clear hfin hmo hA hset' hb5 HCAT z1' z2'
      simp only [List.length_set] at f0 f1 d0 d1 q0 q1 HF
      go_wp2_with fail
      exact bodyPost_ret (v := .tuple #[.agg #[.slice A' m.cs.length ca', .slice (some ⟨gO, 0, none⟩) m.os.length co'], .int .i64 0]) (by simp [results, Tryd.results8, go_sem, q0, q1]) rfl ⟨⟨A', ca', m.cs, some ⟨gO, 0, none⟩, co', m.os.set k n⟩, by rw [HV.out]; simp, by rw [HV.out], by rw [HV.out], HF.out.1, HF.out.2⟩
  · have d : (chkM m.cs m.os != 0) = true := by simp [hc]
    have HV := hideP (giveV_bad (i := i) (n := n) hc)
    clear hc
    obtain ⟨f0, f1, d0, d1, q0, q1, hfin⟩ := hH.re
    have HF := hideP hfin
    clear hfin
    generalize hq : chkM m.cs m.os = q at d HV
    clear hq
    go_wp2_with fail
    exact bodyPost_ret (v := .tuple #[.agg #[.slice none 0 0, .slice none 0 0], .int .i64 q]) (by simp [results, Tryd.results8, go_sem, q0, q1]) rfl ⟨noM, by rw [HV.out]; rfl, by rw [HV.out]; rfl, by rw [HV.out]; rfl, HF.out.1, HF.out.2⟩
end Go.Proofs.YtoelnhnbefkfoaaDoor
