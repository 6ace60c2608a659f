/-
  The document's Add: how much is held, and what is written (no body of the program in it).
  Plain maps, plainly (no program in it).
-/
import Derived.Test.YtcjfkbponikadaaDoorBp12
import Derived.Test.YtcjfkbponikadaaDoorBp17
import Derived.Test.YtcjfkbponikadaaDoorBp18
import Derived.Test.YtcjfkbponikadaaDoorBp1
set_option linter.unusedVariables false
set_option linter.unusedSimpArgs false
namespace Go.Proofs.YtcjfkbponikadaaDoor
open Go.RowKit

theorem ent_be (x : Em) : entOf (beM x) = dropE (entOf x) := by
  obtain ⟨D, c, d, isM, m⟩ := x
  cases isM <;> rfl
/-- how much the first inputs hold -/
def totK (ct : List (List (List Ent))) (k : Nat) : Nat := ((ct.take k).map totB).sum
theorem totK_next {ct : List (List (List Ent))} {k : Nat} {b : List (List Ent)} (h : ct[k]? = some b) : totK ct (k + 1) = totK ct k + totB b := by
  obtain ⟨hk, rfl⟩ := List.getElem?_eq_some_iff.1 h
  unfold totK
  rw [List.take_succ_eq_append_getElem hk, List.map_append, List.sum_append]
  simp
theorem totK_all (ct : List (List (List Ent))) : totK ct ct.length = totM ct := by unfold totK; rw [List.take_length]; rfl
theorem totB_le {ct : List (List (List Ent))} {k : Nat} {b : List (List Ent)} (h : ct[k]? = some b) : totB b ≤ totM ct := mem_sum (List.mem_map_of_mem (f := totB) (List.mem_of_getElem? h))
theorem totK_le (ct : List (List (List Ent))) (k : Nat) : totK ct k ≤ totM ct := by
  have e : totM ct = ((ct.take k ++ ct.drop k).map totB).sum := by rw [List.take_append_drop]; rfl
  rw [List.map_append, List.sum_append] at e
  unfold totK
  omega
/-- an input's batches, as slices -/
def elOf (x : In) : List El := x.bs.map fun b => ⟨b.A, b.c, b.es⟩
theorem elOf_len (x : In) : (catE (elOf x)).length = totB (ctI x) := by
  unfold elOf catE totB ctI
  rw [List.length_flatMap, List.map_map, List.map_map]
  congr 1
  refine List.map_congr_left fun b _ => ?_
  simp
set_option maxRecDepth 100000 in
/-- append of one entry that lies elsewhere onto a row of the call's own -/
theorem app_one (w : World) (base : Nat) (ty : TypeId) (A : Option Addr) (c : Nat) (l : List Em) (hown : w.ownsRow base 41 4 (.slice A l.length c) l.length (emCells l)) (x : Em) (hl : l.length ≤ 1000000000000) (hbase : base ≤ w.heap.size) :
    ∃ A' c' w', (Builtin.append_ #[23, 23] ty #[.slice A l.length c, .slice (some ⟨w.heap.size, 0, none⟩) 1 1]).run Tryd.prog (w.alloc (.cells (emC x) 41)) = .ok (.slice A' (l ++ [x]).length c') w' ∧ w'.ownsRow base 41 4 (.slice A' (l ++ [x]).length c') (l ++ [x]).length (emCells (l ++ [x])) ∧
      (∀ B a, B ≤ base → Below B a w → Below B a w') := by
  obtain ⟨i0, hi, hz0, hz1, hz2⟩ := info_parts entInfo
  rw [← emCells_one]
  have hc : ∀ j u, (emCells [x])[j]? = some u → (w.alloc (.cells (emCells [x]).toArray 41)).cell? ((⟨w.heap.size, 0, none⟩ : Addr).add j) = some u := by
    intro j u hu
    rw [Addr.add_lit]
    simp only [World.cell?]
    rw [heap_alloc_new]
    simp [hu]
  have hown' : (w.alloc (.cells (emCells [x]).toArray 41)).ownsRow base 41 4 (.slice A l.length c) l.length (emCells l) := World.ownsRow.alloc hown _
  obtain ⟨v', w', hrun, h2, h3, _, h5⟩ := run_append_own_at (P := Tryd.prog) (w.alloc (.cells (emCells [x]).toArray 41)) base 23 ty 41 i0 _ 4 80 Tryd.underlying23 hi hz0 hz1 hz2 rfl (by decide) _ l.length (emCells l) hown' ⟨w.heap.size, 0, none⟩ 1 1 (emCells [x]) (by simp [emCells]) hc
    (by intro u hu; simp [emCells] at hu; rcases hu with rfl | rfl | rfl | rfl <;> rfl) (by unfold maxLen; omega) (by omega) (by simp; omega)
  rw [← emCells_append, show l.length + 1 = (l ++ [x]).length by simp] at h2
  obtain ⟨A', c', rfl⟩ := erow_parts h2
  refine ⟨A', c', w', hrun, h2, fun B a hB hb => ?_⟩
  have hb' := hb.alloc (Nat.le_trans hB hbase) (.cells (emCells [x]).toArray 41)
  exact hb'.grown h3 (by simp; omega) fun k hk => Nat.le_trans hB (World.ownsRow.lt hown' k hk).1
theorem Gm.radd {ins : List In} {i k : Nat} {x : In} {b : Bt} (h : Gm ins (totM (ctM ins))) (hi : ins[i]? = some x) (hk : x.bs[k]? = some b) (hkl : k = x.bs.length - 1) (ha : totM (ctM ins) < 60) (A : Option Addr) (c : Nat) (y : Em) : Gm (ins.set i ⟨x.A, x.c, x.bs.set k ⟨A, c, b.es ++ [y]⟩⟩) (totM (ctM (ins.set i ⟨x.A, x.c, x.bs.set k ⟨A, c, b.es ++ [y]⟩⟩))) := by
  have h2 := h.add hi hk hkl ha A c y
  have e := h2.cnt
  rw [← e]
  exact h2
/-- what Add writes at its end -/
theorem radd_end {s : Rs} {w0 wr w5 : World} {B n k : Nat} {x : Em} {xi : In} {b : Bt} {A1 : Option Addr} {c1 : Nat} (h : s.Ok w0 wr B) (hx : ES w0 x) (hi : s.ins[n]? = some xi) (hk : xi.bs[k]? = some b) (hkl : k = xi.bs.length - 1) (ha : totM s.ct < 60)
    (hb5 : Below wr.heap.size wr w5) (hrow : w5.ownsRow wr.heap.size 41 4 (.slice A1 b.es.length c1) b.es.length (emCells b.es)) :
    ∃ A' c' w7 m1 gx, xi.A = some ⟨gx, 0, none⟩ ∧ (Builtin.append_ #[23, 23] 23 #[.slice A1 b.es.length c1, .slice (some ⟨w5.heap.size, 0, none⟩) 1 1]).run Tryd.prog (w5.alloc (.cells (emC (beM x)) 41)) = .ok (.slice A' m1 c') w7 ∧ Below wr.heap.size wr w7 ∧
      w7.cell? ⟨gx, k, none⟩ = some (.slice b.A b.es.length b.c) ∧ w7.frozen? ⟨gx, k, none⟩ = false ∧ ∃ s', s.To w0 wr B s' (w7.setCell ⟨gx, k, none⟩ (.slice A' m1 c')) (addM s.ct n (dropE (entOf x))) := by
  have hes := h.gm.es hi hk
  obtain ⟨A', c', w7, hrun, hr7, hbel⟩ := app_one w5 wr.heap.size 23 A1 c1 b.es hrow (beM x) (by omega) hb5.size
  have hb7 : Below wr.heap.size wr w7 := hbel _ _ (Nat.le_refl _) hb5
  have h7 := h.below hb7
  have hnew : ER w0 w7 B A' c' (b.es ++ [beM x]) := ⟨own_mono hr7 h.size, fun y hy => by
    rcases List.mem_append.1 hy with hy | hy
    · exact (h.rg.bat n xi k b hi hk).es y hy
    · rw [List.mem_singleton] at hy; subst hy; exact hx.bare⟩
  obtain ⟨gx, hA, q0, q1, hRG, hFr, hF⟩ := h7.rg.add hi hk A' c' (beM x) hnew
  have hG := h.gm.radd hi hk hkl (by unfold Rs.ct at ha; exact ha) A' c' (beM x)
  have hct : ctM (s.ins.set n ⟨xi.A, xi.c, xi.bs.set k ⟨A', c', b.es ++ [beM x]⟩⟩) = addM s.ct n (dropE (entOf x)) := by rw [← ent_be]; exact ct_add hi hk hkl A' c' (beM x)
  refine ⟨A', c', w7, _, gx, hA, hrun, hb7, q0, q1, ⟨s.g, s.AI, s.cI, s.ins.set n ⟨xi.A, xi.c, xi.bs.set k ⟨A', c', b.es ++ [beM x]⟩⟩⟩, rfl, ⟨hRG, hG, hFr.below (fun q hq => Nat.le_trans h.lb (h7.lo hq).1) (Nat.le_trans h.lb h7.size) h7.be, h.lb⟩, hct, (Fr.of_below hb7).comp hFr, fun q hq => (hF q hq).imp id fun e => ?_⟩
  exact (World.ownsRow.lt hr7 q (bo _ _ e)).1
/-- what the last statement reads -/
def SA (g gi gx gb n k : Nat) (v0 v1 v2 a0 a1 a2 a3 : Value) (W : World) : Prop :=
  W.cell? ⟨g, 0, none⟩ = some v0 ∧ W.cell? ⟨gi, n, none⟩ = some v1 ∧ W.cell? ⟨gx, k, none⟩ = some v2 ∧ W.cell? ⟨gb, 0, none⟩ = some a0 ∧ W.cell? ⟨gb, 1, none⟩ = some a1 ∧ W.cell? ⟨gb, 2, none⟩ = some a2 ∧ W.cell? ⟨gb, 3, none⟩ = some a3
end Go.Proofs.YtcjfkbponikadaaDoor

set_option linter.unusedVariables false
set_option linter.unusedSimpArgs false
namespace Go.Proofs.YtcjfkbponikadaaDoor

/-- the plain map of the first k cuts -/
def plN (cs : List ByteArray) (os : List Int) : Nat → List ByteArray × List Int
  | 0 => ([], [os.getD 0 0])
  | k + 1 => if os.getD (k + 1) 0 = os.getD k 0 then plN cs os k else ((plN cs os k).1 ++ [cs.getD k ByteArray.empty], (plN cs os k).2 ++ [os.getD (k + 1) 0])
section
variable {cs : List ByteArray} {os : List Int}
theorem plN_len (cs : List ByteArray) (os : List Int) (k : Nat) : (plN cs os k).2.length = (plN cs os k).1.length + 1 := by
  induction k with
  | zero => rfl
  | succ k ih => simp only [plN]; split <;> simp [ih]
theorem plN_last (cs : List ByteArray) (os : List Int) (k : Nat) : (plN cs os k).2.getD (plN cs os k).1.length 0 = os.getD k 0 := by
  induction k with
  | zero => rfl
  | succ k ih =>
    simp only [plN]
    split
    · rename_i h; rw [ih, h]
    · simp only [List.length_append, List.length_singleton, List.getD_eq_getElem?_getD]
      rw [List.getElem?_append_right (by rw [plN_len]; exact Nat.le_refl _), plN_len]
      simp
theorem take_snoc_ {k : Nat} (h : k < cs.length) : cs.take (k + 1) = cs.take k ++ [cs.getD k ByteArray.empty] := by
  rw [List.take_succ_eq_append_getElem h]
  simp [List.getD_eq_getElem?_getD, h]
theorem plN_sub (os : List Int) {k : Nat} (hk : k ≤ cs.length) : (plN cs os k).1.Sublist (cs.take k) := by
  induction k with
  | zero => simp [plN]
  | succ k ih =>
    rw [take_snoc_ (by omega)]
    simp only [plN]
    split
    · exact (ih (by omega)).trans (List.sublist_append_left _ _)
    · exact (ih (by omega)).append (List.Sublist.refl _)
theorem plN_own {k : Nat} (hk : k < os.length) (h : ∀ n ∈ os, 0 ≤ n ∧ n ≤ 3) : ∀ n ∈ (plN cs os k).2, 0 ≤ n ∧ n ≤ 3 := by
  have hm : ∀ i, i < os.length → os.getD i 0 ∈ os := fun i hi => by rw [List.getD_eq_getElem?_getD, List.getElem?_eq_getElem hi]; exact List.getElem_mem hi
  induction k with
  | zero => intro n hn; simp [plN] at hn; subst hn; have := h _ (hm 0 hk); simpa [List.getD_eq_getElem?_getD] using this
  | succ k ih =>
    simp only [plN]
    split
    · exact ih (by omega)
    · intro n hn
      rcases List.mem_append.1 hn with hn | hn
      · exact ih (by omega) n hn
      · rw [List.mem_singleton.1 hn]; exact h _ (hm _ hk)
/-- no neighbours have one owner -/
theorem plN_adj (cs : List ByteArray) (os : List Int) (k : Nat) : ∀ i, i + 1 < (plN cs os k).2.length → (plN cs os k).2.getD (i + 1) 0 ≠ (plN cs os k).2.getD i 0 := by
  induction k with
  | zero => intro i hi; simp [plN] at hi
  | succ k ih =>
    simp only [plN]
    split
    · exact ih
    · rename_i h
      intro i hi
      simp only [List.length_append, List.length_singleton] at hi
      have hl := plN_len cs os k
      by_cases hlt : i + 1 < (plN cs os k).2.length
      · simp only [List.getD_eq_getElem?_getD]
        rw [List.getElem?_append_left hlt, List.getElem?_append_left (by omega)]
        have := ih i hlt
        simpa only [List.getD_eq_getElem?_getD] using this
      · have e : i + 1 = (plN cs os k).2.length := by omega
        have h1 := plN_last cs os k
        have e2 : i = (plN cs os k).1.length := by omega
        simp only [List.getD_eq_getElem?_getD] at h1 h ⊢
        rw [List.getElem?_append_right (by omega), List.getElem?_append_left (by omega), e, Nat.sub_self, e2, h1]
        simpa using h
theorem plN_valid (h : OkM cs os) : OkM (plN cs os cs.length).1 (plN cs os cs.length).2 := by
  have hs := plN_sub (cs := cs) os (Nat.le_refl _)
  rw [List.take_length] at hs
  obtain ⟨h1, h2⟩ := cutsB_iff.1 h.cuts
  exact ⟨Nat.le_trans hs.length_le h.few, plN_len _ _ _, cutsB_iff.2 ⟨fun k hk => h1 k (hs.subset hk), h2.sublist hs⟩, plN_own (by rw [h.len]; omega) h.own⟩
/-- a plain map's plain map is itself -/
theorem plN_same {k : Nat} (hk : k ≤ cs.length) (hl : os.length = cs.length + 1) (h : ∀ i, i < k → os.getD (i + 1) 0 ≠ os.getD i 0) : plN cs os k = (cs.take k, os.take (k + 1)) := by
  induction k with
  | zero =>
    have : 0 < os.length := by omega
    cases os with
    | nil => simp at this
    | cons x r => simp [plN]
  | succ k ih =>
    simp only [plN]
    rw [if_neg (h k (by omega)), ih (by omega) (fun i hi => h i (by omega)), take_snoc_ (by omega)]
    have e : os.take (k + 1 + 1) = os.take (k + 1) ++ [os.getD (k + 1) 0] := by
      rw [List.take_succ_eq_append_getElem (show k + 1 < os.length by omega)]
      simp [List.getD_eq_getElem?_getD, show k + 1 < os.length by omega]
    rw [e]
theorem plN_twice (h : OkM cs os) : plN (plN cs os cs.length).1 (plN cs os cs.length).2 (plN cs os cs.length).1.length = plN cs os cs.length := by
  have hl := plN_len cs os cs.length
  rw [plN_same (Nat.le_refl _) hl (fun i hi => plN_adj cs os cs.length i (by omega)), List.take_length, ← hl, List.take_length]
theorem atC_snoc (l : List ByteArray) (c key : ByteArray) : atC (l ++ [c]) key = if atC l key = l.length ∧ leB c key = true then l.length + 1 else atC l key := by
  unfold atC
  rw [List.takeWhile_append]
  by_cases h : (l.takeWhile fun k => leB k key).length = l.length
  · rw [if_pos h]
    cases hc : leB c key <;> simp [List.takeWhile_cons, hc, h]
  · rw [if_neg h, if_neg (fun e => h e.1)]
theorem atC_all {l : List ByteArray} {key : ByteArray} (h : ∀ k ∈ l, leB k key = true) : atC l key = l.length := by
  unfold atC
  induction l with
  | nil => rfl
  | cons c r ih => simp [List.takeWhile_cons, h c (by simp), ih fun k hk => h k (by simp [hk])]
/-- plain, all keys are whose they were -/
theorem plN_whose (hs : cs.Pairwise (fun a b => ltB a b = true)) (key : ByteArray) {k : Nat} (hk : k ≤ cs.length) : whV (plN cs os k).1 (plN cs os k).2 key = os.getD (atC (cs.take k) key) 0 := by
  induction k with
  | zero => simp [plN, whV, atC]
  | succ k ih =>
    have ih := ih (by omega)
    have hkl : k < cs.length := by omega
    have hck : cs.getD k ByteArray.empty = cs[k] := by simp [List.getD_eq_getElem?_getD, hkl]
    have hsub := plN_sub (cs := cs) os (show k ≤ cs.length by omega)
    rw [take_snoc_ hkl, atC_snoc, hck]
    have htl : (cs.take k).length = k := by rw [List.length_take]; omega
    cases hc : leB cs[k] key with
    | true =>
      have hall : ∀ x ∈ cs.take k, leB x key = true := fun x hx => by
        obtain ⟨i, hi, e⟩ := List.getElem_of_mem hx
        rw [List.getElem_take] at e
        rw [← e]
        exact leB_trans_ (List.pairwise_iff_getElem.1 hs i k (by omega) hkl (by omega)) hc
      have ha := atC_all hall
      rw [if_pos ⟨ha, rfl⟩, htl]
      rw [ha, htl] at ih
      simp only [plN]
      split
      · rename_i h; rw [ih, h]
      · unfold whV
        rw [hck, atC_snoc, if_pos ⟨atC_all fun x hx => hall x (hsub.subset hx), hc⟩]
        simp only [List.getD_eq_getElem?_getD]
        rw [List.getElem?_append_right (by rw [plN_len]; exact Nat.le_refl _), plN_len]
        simp
    | false =>
      rw [if_neg (by simp)]
      simp only [plN]
      split
      · exact ih
      · unfold whV at *
        rw [hck, atC_snoc, if_neg (by simp [hc])]
        rw [← ih]
        simp only [List.getD_eq_getElem?_getD]
        rw [List.getElem?_append_left (by rw [plN_len]; have := atC_le (plN cs os k).1 key; omega)]
end
end Go.Proofs.YtcjfkbponikadaaDoor
