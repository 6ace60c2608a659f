/-
  deed.checkOp: what it answers.
  deed.Check: what it answers.
  merge's small functions: closed, has, check.
  (*merge.Merge).Rounds.
-/
import Derived.Test.YtefdipjhjgmokaaGreatBv6
import Derived.Test.YtefdipjhjgmokaaGreatBv1
import Derived.Lib.MinMax
set_option linter.unusedVariables false
set_option linter.unusedSimpArgs false
namespace Go.Proofs.YtefdipjhjgmokaaGreat
open Go.RowKit

set_option maxHeartbeats 1000000 in
theorem checkOp_any (o : Opr) (w : World) :
    Calls Tryz.prog 79 #[opV o] w fun e w' => e = .returned (.int .i64 (chkO o)) ∧ Below w.heap.size w w' := by
  obtain ⟨kd, key, src, n⟩ := o
  unfold opV
  have HB := (Below.refl w.heap.size w).alloc (Nat.le_refl _) (.cells #[.int .i64 kd, .string key, .string src, .int .i64 n] 106)
  by_cases h1 : kd < 1
  · go_enter Tryz.func79, Tryz.ntmps79
    go_wp2_with fail
    go_ret
    exact ⟨ret_int (by simp [chkO, h1]), HB⟩
  by_cases h2 : 5 < kd
  · go_enter Tryz.func79, Tryz.ntmps79
    go_wp2_with fail
    go_ret
    exact ⟨ret_int (by simp [chkO, h1, h2]), HB⟩
  cases hK : keyB key
  · go_enter Tryz.func79, Tryz.ntmps79
    go_wp2_with fail
    refine (key_any _ _).mono ?_
    rintro e w' ⟨rfl, rfl⟩
    go_wp2_with fail
    go_ret
    exact ⟨ret_int (by simp [chkO, h1, h2, hK]), HB⟩
  by_cases h3 : kd = 3 ∨ kd = 5
  · cases hS : keyB src
    · have hc : chkO ⟨kd, key, src, n⟩ = 3 := by simp [chkO, h1, h2, hK, hS, h3]
      have HC := hideP hc
      clear hc
      rcases h3 with rfl | rfl
      all_goals
        go_enter Tryz.func79, Tryz.ntmps79
        go_wp2_with fail
        refine (key_any _ _).mono ?_
        rintro e w' ⟨rfl, rfl⟩
        go_wp2_with fail
        refine (key_any _ _).mono ?_
        rintro e w' ⟨rfl, rfl⟩
        go_wp2_with fail
        go_ret
        exact ⟨ret_int HC.out.symm, HB⟩
    by_cases hE : src = key
    · have hc : chkO ⟨kd, key, src, n⟩ = 3 := by simp [chkO, h1, h2, hK, h3, hE]
      have HC := hideP hc
      clear hc
      have d1 : (src.toList == key.toList) = true := by simp [hE]
      clear hE
      rcases h3 with rfl | rfl
      all_goals
        go_enter Tryz.func79, Tryz.ntmps79
        go_wp2_with fail
        refine (key_any _ _).mono ?_
        rintro e w' ⟨rfl, rfl⟩
        go_wp2_with fail
        refine (key_any _ _).mono ?_
        rintro e w' ⟨rfl, rfl⟩
        go_wp2_with fail
        go_ret
        exact ⟨ret_int HC.out.symm, HB⟩
    have d1 := bytes_ne hE
    rcases h3 with rfl | rfl
    · have HC := hideP (show chkO ⟨3, key, src, n⟩ = 0 by simp [chkO, hK, hS, hE])
      clear hE
      go_enter Tryz.func79, Tryz.ntmps79
      go_wp2_with fail
      refine (key_any _ _).mono ?_
      rintro e w' ⟨rfl, rfl⟩
      go_wp2_with fail
      refine (key_any _ _).mono ?_
      rintro e w' ⟨rfl, rfl⟩
      go_wp2_with fail
      go_ret
      exact ⟨ret_int HC.out.symm, HB⟩
    cases hV : valB n
    · have HC := hideP (show chkO ⟨5, key, src, n⟩ = 1 by simp [chkO, hK, hS, hE, hV])
      clear hE
      go_enter Tryz.func79, Tryz.ntmps79
      go_wp2_with fail
      refine (key_any _ _).mono ?_
      rintro e w' ⟨rfl, rfl⟩
      go_wp2_with fail
      refine (key_any _ _).mono ?_
      rintro e w' ⟨rfl, rfl⟩
      go_wp2_with fail
      refine (value_any _ _).mono ?_
      rintro e w' ⟨rfl, rfl⟩
      go_wp2_with fail
      go_ret
      exact ⟨ret_int HC.out.symm, HB⟩
    by_cases hN : n < 0
    · have HC := hideP (show chkO ⟨5, key, src, n⟩ = 1 by simp [chkO, hK, hS, hE, hV, hN])
      clear hE
      go_enter Tryz.func79, Tryz.ntmps79
      go_wp2_with fail
      refine (key_any _ _).mono ?_
      rintro e w' ⟨rfl, rfl⟩
      go_wp2_with fail
      refine (key_any _ _).mono ?_
      rintro e w' ⟨rfl, rfl⟩
      go_wp2_with fail
      refine (value_any _ _).mono ?_
      rintro e w' ⟨rfl, rfl⟩
      go_wp2_with fail
      go_ret
      exact ⟨ret_int HC.out.symm, HB⟩
    · have HC := hideP (show chkO ⟨5, key, src, n⟩ = 0 by simp [chkO, hK, hS, hE, hV, hN])
      clear hE
      go_enter Tryz.func79, Tryz.ntmps79
      go_wp2_with fail
      refine (key_any _ _).mono ?_
      rintro e w' ⟨rfl, rfl⟩
      go_wp2_with fail
      refine (key_any _ _).mono ?_
      rintro e w' ⟨rfl, rfl⟩
      go_wp2_with fail
      refine (value_any _ _).mono ?_
      rintro e w' ⟨rfl, rfl⟩
      go_wp2_with fail
      go_ret
      exact ⟨ret_int HC.out.symm, HB⟩
  · have h4 : kd = 1 ∨ kd = 2 ∨ kd = 4 := by omega
    cases hV : valB n
    · have HC := hideP (show chkO ⟨kd, key, src, n⟩ = 1 by simp [chkO, h1, h2, hK, hV]; omega)
      clear h3
      rcases h4 with rfl | rfl | rfl
      all_goals
        go_enter Tryz.func79, Tryz.ntmps79
        go_wp2_with fail
        refine (key_any _ _).mono ?_
        rintro e w' ⟨rfl, rfl⟩
        go_wp2_with fail
        refine (value_any _ _).mono ?_
        rintro e w' ⟨rfl, rfl⟩
        go_wp2_with fail
        go_ret
        exact ⟨ret_int HC.out.symm, HB⟩
    · have HC := hideP (show chkO ⟨kd, key, src, n⟩ = 0 by simp [chkO, h1, h2, hK, hV]; omega)
      clear h3
      rcases h4 with rfl | rfl | rfl
      all_goals
        go_enter Tryz.func79, Tryz.ntmps79
        go_wp2_with fail
        refine (key_any _ _).mono ?_
        rintro e w' ⟨rfl, rfl⟩
        go_wp2_with fail
        refine (value_any _ _).mono ?_
        rintro e w' ⟨rfl, rfl⟩
        go_wp2_with fail
        go_ret
        exact ⟨ret_int HC.out.symm, HB⟩

end Go.Proofs.YtefdipjhjgmokaaGreat

set_option linter.unusedVariables false
set_option linter.unusedSimpArgs false
namespace Go.Proofs.YtefdipjhjgmokaaGreat
open Go.RowKit

set_option maxHeartbeats 400000 in
theorem dcheck_any (A : Option Addr) (c : Nat) (l : List Opr) (w : World) (hA : OS w w.heap.size A l) :
    Calls Tryz.prog 52 #[.agg #[.slice A l.length c]] w fun e w' => e = .returned (.int .i64 (chkD l)) ∧ Below w.heap.size w w' := by
  have HB := (Below.refl w.heap.size w).alloc (Nat.le_refl _) (.cells #[.slice A l.length c] 32)
  by_cases h1 : l.length < 1
  · have HC := hideP (show chkD l = 2 by simp [chkD, h1])
    have h1' : (l.length : Int) < 1 := by omega
    go_enter Tryz.func52, Tryz.ntmps52
    go_wp2_with fail
    go_ret
    exact ⟨ret_int HC.out.symm, HB⟩
  have h1' : ¬ (l.length : Int) < 1 := by omega
  by_cases h2 : 8 < l.length
  · have HC := hideP (show chkD l = 2 by simp [chkD, h1, h2])
    have h2' : (8 : Int) < (l.length : Int) := by omega
    go_enter Tryz.func52, Tryz.ntmps52
    go_wp2_with fail
    go_ret
    exact ⟨ret_int HC.out.symm, HB⟩
  have h2' : ¬ (8 : Int) < (l.length : Int) := by omega
  have HC := hideP (show chkD l = chkOs l by simp [chkD, h1, h2])
  go_enter Tryz.func52, Tryz.ntmps52
  go_wp2_with fail
  go_loopw [19] (fun i wr => ∃ k : Nat, k ≤ l.length ∧ i = .int .i64 k ∧ chkOs l = chkOs (l.drop k) ∧ Below w.heap.size w wr) (fun i _ => l.length - (intOf i).toNat)
  case atStart => exact ⟨0, Nat.zero_le _, rfl, rfl, HB⟩
  case round =>
    obtain ⟨k, hk, rfl, hchk, hb⟩ := hrel
    by_cases hlt : k < l.length
    · rw [chkOs_next hlt] at hchk
      obtain ⟨b, o, rfl, hbl, c1, c2, c3, c4⟩ := hA.below hb k _ (List.getElem?_eq_getElem hlt)
      clear hA HB
      generalize l[k] = p at c1 c2 c3 c4 hchk
      have HK := hideP hchk
      clear hchk
      have hb2 := (hb.alloc hb.size (.cells #[.int .i64 p.kind, .string p.key, .string p.src, .int .i64 p.n] 106))
      go_wp2_with fail
      refine (checkOp_any p _).mono ?_
      rintro e w3 ⟨rfl, hb3⟩
      have hb4 := hb2.trans (hb3.mono hb2.size)
      clear hb hb2 hb3
      by_cases h0 : chkO p = 0
      · have H0 := hideP h0
        rw [h0]
        clear h0
        go_wp2_with fail
        go_roundw
        case rel => exact ⟨k + 1, by omega, by go_num, by rw [HK.out, if_pos H0.out], hb4⟩
        case measure => simp [intOf]; omega
      · have H0 := hideP h0
        have d0 : (chkO p != 0) = true := by simp [h0]
        clear h0
        generalize hq : chkO p = q at d0
        have HQ := hideP hq
        clear hq
        go_wp2_with fail
        go_ret
        exact ⟨ret_int (by rw [HC.out, HK.out, if_neg H0.out, HQ.out]), hb4⟩
    · go_wp2_with fail
      go_ret
      exact ⟨ret_int (by rw [HC.out, hchk, List.drop_of_length_le (by omega)]; rfl), hb⟩
end Go.Proofs.YtefdipjhjgmokaaGreat

set_option linter.unusedVariables false
set_option linter.unusedSimpArgs false
namespace Go.Proofs.YtefdipjhjgmokaaGreat
open Go.RowKit

set_option maxRecDepth 100000 in
theorem closed_any (A : Option Addr) (n c k : Nat) (hk : n = k + 1) (hl : n ≤ 9223372036854775807) (w : World) :
    Calls Tryz.prog 45 #[.slice A n c] w fun e w' => e = .returned (.int .i64 (k : Int)) ∧ w = w' := by
  have g1 : IntKind.i64.wrap ((n : Int) - 1) = (k : Int) := by simp only [IntKind.wrap_i64]; omega
  go_enter Tryz.func45, Tryz.ntmps45
  go_wp2
  go_ret
  exact ⟨ret_int (by omega), rfl⟩
set_option maxRecDepth 100000 in
theorem has_any (B g : Nat) (tx : Tx) (AI : Option Addr) (cI : Nat) (ins : List In) (added : Nat) (i : Int) (w : World) (h : MG w B g tx AI cI ins added) :
    Calls Tryz.prog 43 #[.pointer (some ⟨g, 0, none⟩), .int .i64 i] w fun e w' => e = .returned (.bool (decide (0 ≤ i ∧ i < (ins.length : Int)))) ∧ w = w' := by
  have c0 := h.c0
  clear h
  by_cases h1 : 0 ≤ i
  · by_cases h2 : i < (ins.length : Int)
    · have HD := hideP (show decide (0 ≤ i ∧ i < (ins.length : Int)) = true from decide_eq_true ⟨h1, h2⟩)
      go_enter Tryz.func43, Tryz.ntmps43
      go_wp2_with fail
      go_ret
      first | exact ⟨rfl, rfl⟩ | exact ⟨by rw [HD.out]; rfl, rfl⟩
    · have HD := hideP (show decide (0 ≤ i ∧ i < (ins.length : Int)) = false from decide_eq_false fun e => h2 e.2)
      have h3 : decide (i < (ins.length : Int)) = false := decide_eq_false h2
      go_enter Tryz.func43, Tryz.ntmps43
      go_wp2_with fail
      go_ret
      first | exact ⟨rfl, rfl⟩ | exact ⟨by rw [HD.out]; rfl, rfl⟩
  · have HD := hideP (show decide (0 ≤ i ∧ i < (ins.length : Int)) = false from decide_eq_false fun e => h1 e.1)
    have h3 : decide (0 ≤ i) = false := decide_eq_false h1
    go_enter Tryz.func43, Tryz.ntmps43
    go_wp2_with fail
    go_ret
    first | exact ⟨rfl, rfl⟩ | exact ⟨by rw [HD.out]; rfl, rfl⟩
set_option maxHeartbeats 1000000 in
set_option maxRecDepth 100000 in
theorem mcheck_any (x : Em) (w : World) (hx : ES w x) :
    Calls Tryz.prog 44 #[emV x] w fun e w' => e = .returned (.int .i64 (chkE (entOf x))) ∧ Below w.heap.size w w' := by
  have b0 := (Below.refl w.heap.size w).alloc (Nat.le_refl _) (.cells (emC x) 37)
  have x0 := Box.new w 37 (emC x)
  have hx1 := hx.below b0
  obtain ⟨D, c, d, isM, ⟨A, ca, cs, O, co, os⟩⟩ := x
  unfold emV
  unfold emC at b0 x0 hx1 ⊢
  simp only at b0 x0 hx1 ⊢
  have c0 := x0.cell 0 (v := .slice D d.length c) rfl
  have c1 := x0.cell 1 (v := .bool isM) rfl
  have c2 := x0.cell 2 (v := .slice A cs.length ca) rfl
  have c3 := x0.cell 3 (v := .slice O os.length co) rfl
  have hle : os.length ≤ 9223372036854775807 := by have := hx1.map.lo; have := hx1.map.mo; simp only [maxLen] at *; omega
  have HD := hideP (dcheck_any D c d _ hx1.ops)
  have HM := hideP (shcheck_any _ _ hx1.map hle)
  simp only at HM
  clear hx hx1 x0
  cases isM
  · have HK := hideP (show chkE (entOf ⟨D, c, d, false, ⟨A, ca, cs, O, co, os⟩⟩) = chkD d from rfl)
    go_enter Tryz.func44, Tryz.ntmps44
    go_wp2_with fail
    refine HD.out.mono ?_
    clear HD HM
    generalize w.alloc _ = w1 at b0 ⊢
    rintro e w2 ⟨rfl, hb2⟩
    have b2 := b0.trans (hb2.mono b0.size)
    go_wp2_with fail
    go_ret
    exact ⟨by rw [HK.out]; rfl, b2⟩
  · have HK := hideP (show chkE (entOf ⟨D, c, d, true, ⟨A, ca, cs, O, co, os⟩⟩) = chkM cs os from rfl)
    go_enter Tryz.func44, Tryz.ntmps44
    go_wp2_with fail
    refine HM.out.mono ?_
    clear HD HM
    generalize w.alloc _ = w1 at b0 ⊢
    rintro e w2 ⟨rfl, hb2⟩
    have b2 := b0.trans (hb2.mono b0.size)
    go_wp2_with fail
    go_ret
    exact ⟨by rw [HK.out]; rfl, b2⟩
end Go.Proofs.YtefdipjhjgmokaaGreat

set_option linter.unusedVariables false
set_option linter.unusedSimpArgs false
namespace Go.Proofs.YtefdipjhjgmokaaGreat
open Go.RowKit

/-- all entries of a Merge -/
def totM {α : Type} (ins : List (List (List α))) : Nat := (ins.map fun b => (b.map List.length).sum).sum
/-- bounds of what a Merge holds -/
structure Gm (ins : List In) (added : Nat) : Prop where
  ne : ins ≠ []
  few : ins.length ≤ 4
  bs : ∀ (i : Nat) (x : In), ins[i]? = some x → x.bs.length ≤ 61
  cnt : added = totM (ctM ins)
  most : added ≤ 60
theorem mem_sum {l : List Nat} {n : Nat} (h : n ∈ l) : n ≤ l.sum := by
  induction l with
  | nil => simp at h
  | cons a l ih =>
    rcases List.mem_cons.1 h with rfl | h
    · simp
    · have := ih h; simp; omega
theorem tot_ge {α : Type} {ins : List (List (List α))} {i k : Nat} {b : List (List α)} {l : List α} (hi : ins[i]? = some b) (hk : b[k]? = some l) : l.length ≤ totM ins := by
  have h1 : l.length ≤ (b.map List.length).sum := mem_sum (List.mem_map_of_mem (List.mem_of_getElem? hk))
  have h2 : (b.map List.length).sum ≤ totM ins := mem_sum (List.mem_map_of_mem (f := fun b => (b.map List.length).sum) (List.mem_of_getElem? hi))
  omega
theorem Gm.es {ins : List In} {added : Nat} (h : Gm ins added) {i k : Nat} {x : In} {b : Bt} (hi : ins[i]? = some x) (hk : x.bs[k]? = some b) : b.es.length ≤ 60 := by
  have h1 := tot_ge (ins := ctM ins) (i := i) (k := k) (b := ctI x) (l := b.es.map entOf) (by simp [ctM, hi]) (by simp [ctI, hk])
  rw [← h.cnt, List.length_map] at h1
  have := h.most
  omega
section
variable {w : World} {B g : Nat} {tx : Tx} {AI : Option Addr} {cI : Nat} {ins : List In} {added : Nat}
/-- an input's cell -/
theorem MG.cell_ (h : MG w B g tx AI cI ins added) {i : Nat} {x : In} (hi : ins[i]? = some x) : ∃ gi, AI = some ⟨gi, 0, none⟩ ∧ w.cell? ⟨gi, i, none⟩ = some (.slice x.A x.bs.length x.c) := by
  obtain ⟨gi, hAI, _, _⟩ := h.row_ (by intro e; rw [e] at hi; simp at hi)
  subst hAI
  obtain ⟨b', o', e, _, hc⟩ := h.row.vs i (inV x) (by rw [List.getElem?_map, hi]; rfl)
  injection e with e
  injection e with e1 e2 _
  subst e1; subst e2
  rw [Nat.zero_add] at hc
  exact ⟨gi, rfl, hc⟩
theorem MG.pos (h : MG w B g tx AI cI ins added) {i : Nat} {x : In} (hi : ins[i]? = some x) : ∃ k, x.bs.length = k + 1 := by
  cases e : x.bs with
  | nil => exact absurd e (h.ne i x hi)
  | cons b r => exact ⟨r.length, by simp⟩
end
section
variable {w : World} {B g : Nat} {tx : Tx} {AI : Option Addr} {cI : Nat} {ins : List In} {added : Nat}
/-- a batch's cell -/
theorem MG.bcell (h : MG w B g tx AI cI ins added) {i k : Nat} {x : In} {b : Bt} (hi : ins[i]? = some x) (hk : x.bs[k]? = some b) : ∃ gx, x.A = some ⟨gx, 0, none⟩ ∧ w.cell? ⟨gx, k, none⟩ = some (.slice b.A b.es.length b.c) := by
  obtain ⟨gx, hA, _, _⟩ := h.at_ hi
  have hr := h.inp i x hi
  rw [hA] at hr
  obtain ⟨b', o', e, _, hc⟩ := hr.vs k (btV b) (by rw [List.getElem?_map, hk]; rfl)
  injection e with e
  injection e with e1 e2 _
  subst e1; subst e2
  rw [Nat.zero_add] at hc
  exact ⟨gx, hA, hc⟩
end
theorem clo_ct (ins : List In) : cloL (ctM ins) = ins.map fun x => x.bs.length - 1 := by simp [cloL, ctM, ctI]
theorem slice_tail (b o n ct n1 : Nat) (hn : n = n1 + 1) (hc : n ≤ ct) (w : World) : (Instr.slice 62 (.slice (some ⟨b, o, none⟩) n ct) (some (.int .i64 1)) none none).run Tryz.prog w = .ok (.slice (if ct = 1 then some ⟨b, o, none⟩ else some ⟨b, o + 1, none⟩) n1 (ct - 1)) w := by
  have g1 : (1 : Int) ≤ (n : Int) := by omega
  have g2 : (n : Int) ≤ (ct : Int) := by omega
  obtain rfl : n1 = n - 1 := by omega
  by_cases e : ct = 1
  · subst e
    obtain rfl : n = 1 := by omega
    clear hc hn
    go_simp
  · rw [if_neg e]
    clear hn
    go_simp
set_option maxHeartbeats 1000000 in
set_option maxRecDepth 100000 in
theorem mrounds_any (B g : Nat) (tx : Tx) (AI : Option Addr) (cI : Nat) (ins : List In) (added : Nat) (w : World) (h : MG w B g tx AI cI ins added) (hG : Gm ins added) :
    Calls Tryz.prog 48 #[.pointer (some ⟨g, 0, none⟩)] w fun e w' => e = .returned (.int .i64 (rndM (ctM ins) : Nat)) ∧ w = w' := by
  have c0 := h.c0
  obtain ⟨n1, hn1⟩ : ∃ n1, ins.length = n1 + 1 := by
    cases e : ins with
    | nil => exact absurd e hG.ne
    | cons a r => exact ⟨r.length, by simp⟩
  have hcap := h.row.caps.1
  rw [List.length_map] at hcap
  obtain ⟨x0, hx0⟩ : ∃ x, ins[0]? = some x := ⟨_, List.getElem?_eq_getElem (by omega)⟩
  obtain ⟨gi, hAI, p0⟩ := h.cell_ hx0
  subst hAI
  have hsl := fun w => slice_tail gi 0 ins.length cI n1 hn1 hcap w
  obtain ⟨k0, hk0⟩ := h.pos hx0
  have hb0 := hG.bs 0 x0 hx0
  have HC0 := hideP (fun W => closed_any x0.A x0.bs.length x0.c k0 hk0 (by omega) W)
  have HST := hideP (show (((cloL (ctM ins)).take 1).foldl min 60 : Nat) = k0 by
    have : (cloL (ctM ins))[0]? = some k0 := by rw [clo_ct, List.getElem?_map, hx0]; simp [hk0]
    rw [List.take_one, List.head?_eq_getElem?, this]
    simp; omega)
  have HEND := hideP (show ((cloL (ctM ins)).take (n1 + 1)).foldl min 60 = rndM (ctM ins) by
    unfold rndM; rw [List.take_of_length_le (by rw [clo_ct, List.length_map]; omega)])
  have HCE := hideP (fun (k : Nat) (hk : k < n1) => show ∃ (A : Option Addr) (n c q : Nat), w.cell? ⟨gi, 1 + k, none⟩ = some (.slice A n c) ∧ n = q + 1 ∧ n ≤ 61 ∧ ((cloL (ctM ins)).take (k + 1 + 1)).foldl min 60 = min (((cloL (ctM ins)).take (k + 1)).foldl min 60) q from by
    obtain ⟨x, hx⟩ : ∃ x, ins[1 + k]? = some x := ⟨_, List.getElem?_eq_getElem (by omega)⟩
    obtain ⟨gi', e, hc⟩ := h.cell_ hx
    injection e with e
    injection e with e
    subst e
    obtain ⟨q, hq⟩ := h.pos hx
    have hcl : (cloL (ctM ins))[k + 1]? = some q := by rw [clo_ct, List.getElem?_map, Nat.add_comm k 1, hx]; simp [hq]
    refine ⟨_, _, _, q, hc, hq, hG.bs _ x hx, ?_⟩
    have hl : k + 1 < (cloL (ctM ins)).length := (List.getElem?_eq_some_iff.1 hcl).1
    rw [List.take_succ_eq_append_getElem hl, List.foldl_append]
    rw [List.getElem?_eq_getElem hl] at hcl
    injection hcl with hcl
    rw [hcl]
    rfl)
  have d0 : ((ins.length : Int) == 0) = false := beq_eq_false_iff_ne.2 (by omega)
  have g1 : (0 : Int) < (ins.length : Int) := by omega
  have HN1 := hideP hn1
  have hct : cI = 1 → n1 = 0 := fun e => by omega
  have hn4 : n1 ≤ 4 := by have := hG.few; omega
  generalize cloL (ctM ins) = cl at HST HEND HCE
  generalize rndM (ctM ins) = rr at HEND ⊢
  generalize x0.bs.length = m0 at p0 HC0 hk0 hb0
  clear h hcap hG hx0 hn1 hk0 hb0
  go_enter Tryz.func48, Tryz.ntmps48
  go_wp2_with fail
  refine (HC0.out _).mono ?_
  rintro e w' ⟨rfl, rfl⟩
  clear HC0
  obtain ⟨T, hT⟩ : ∃ T, (if cI = 1 then some (⟨gi, 0, none⟩ : Addr) else some ⟨gi, 0 + 1, none⟩) = T := ⟨_, rfl⟩
  rw [hT] at hsl
  have HT := hideP hT
  clear hT
  go_wp2_with fail
  go_loop [3, 25] (fun v i => ∃ k : Nat, k ≤ n1 ∧ i = .int .i64 k ∧ v = .int .i64 ((cl.take (k + 1)).foldl min 60 : Nat)) (fun _ i => n1 - (intOf i).toNat)
  case atStart => exact ⟨0, Nat.zero_le _, rfl, by rw [HST.out]⟩
  case round =>
    obtain ⟨k, hk, rfl, rfl⟩ := hrel
    by_cases hlt : k < n1
    · obtain ⟨A, n, c, q, hc, hq, hn, hst⟩ := HCE.out k hlt
      have hT2 : T = some ⟨gi, 1, none⟩ := by
        rw [← HT.out, if_neg (fun e => by have := hct e; omega)]
      subst hT2
      have HC := hideP (fun W => closed_any A n c q hq (by omega) W)
      have HS := hideP hst
      clear hst hq hn
      generalize (cl.take (k + 1)).foldl min 60 = z at HS ⊢
      have g2 : (0 : Int) ≤ (k : Int) := by omega
      have g3 : (k : Int) < (n1 : Int) := by omega
      go_wp2_with fail
      refine (HC.out _).mono ?_
      rintro e w' ⟨rfl, rfl⟩
      go_wp2_with fail
      go_round
      case rel => exact ⟨k + 1, by omega, by go_num, by rw [HS.out]; congr 1; omega⟩
      case measure => simp [intOf]; omega
    · obtain rfl : k = n1 := by omega
      rw [HEND.out]
      go_wp2_with fail
      go_ret
      exact ⟨rfl, rfl⟩
end Go.Proofs.YtefdipjhjgmokaaGreat
