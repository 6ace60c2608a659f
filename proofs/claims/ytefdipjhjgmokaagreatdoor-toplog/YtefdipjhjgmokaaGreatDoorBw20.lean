/-
  parts.clone.
  Lists of keys: read and write sets, sorted and without duplicates (no program in it).
  What transactions leave alone, what they hang on, and which of them commute (no program in it).
-/
import Derived.Test.YtefdipjhjgmokaaGreatDoorBw19
import Derived.Test.YtefdipjhjgmokaaGreatDoorBw15
import Derived.Deep.RegionHeld3
import Derived.Test.YtefdipjhjgmokaaGreatDoorBw1
import Derived.Lib.SlicesCompact
import Derived.Test.YtefdipjhjgmokaaGreatDoorBw11
set_option linter.unusedVariables false
set_option linter.unusedSimpArgs false
namespace Go.Proofs.YtefdipjhjgmokaaGreatDoor
open Go.RowKit

set_option maxHeartbeats 2000000 in
set_option maxRecDepth 100000 in
theorem clone_any (m : Mp) (w : World) (hm : MS w m) (h1 : m.cs.length ≤ 1000) (h2 : m.os.length ≤ 1000) :
    Calls Tryz.prog 136 #[.agg #[.slice m.A m.cs.length m.ca, .slice m.O m.os.length m.co]] w
      fun e w' => ∃ A ca O co, e = .returned (.agg #[.slice A m.cs.length ca, .slice O m.os.length co]) ∧ MO w' w.heap.size ⟨A, ca, m.cs, O, co, m.os⟩ ∧ Below w.heap.size w w' := by
  have hH := RH.new hm
  have HP1 := hideP (fun (W : World) (h : RH w w.heap.size m W) (o : Nat) (ho : o < W.heap.size) (c0 : W.cell? ⟨o, 0, none⟩ = some (.slice m.A m.cs.length m.ca)) =>
    show Calls Tryz.prog 139 #[.slice (some ⟨o, 0, none⟩) 1 1] W fun e w' => ∃ A c, e = .returned (.slice A m.cs.length c) ∧ OR w' w.heap.size 9 A c (m.cs.map Value.string) ∧ RH w w.heap.size m w' ∧ Below W.heap.size W w' from by
      have := sconcat_any o 0 1 [⟨m.A, m.ca, m.cs⟩] W ⟨ho, fun j s hj => by
        match j with
        | 0 => simp at hj; subst hj; simpa using c0
        | j + 1 => simp at hj, fun s hs => by
        simp at hs
        subst hs
        exact h.mh.ms.cuts⟩ (by simp [catS]; omega) (by simp)
      have e : catS [⟨m.A, m.ca, m.cs⟩] = m.cs := by simp [catS]
      rw [e] at this
      exact this.mono fun e w' ⟨A, c, h1, h2, h3⟩ => ⟨A, c, h1, h2.mono h.mh.be.size, h.below h3, h3⟩)
  have HP2 := hideP (fun (W : World) (h : RH w w.heap.size m W) (o : Nat) (ho : o < W.heap.size) (c0 : W.cell? ⟨o, 0, none⟩ = some (.slice m.O m.os.length m.co)) =>
    show Calls Tryz.prog 140 #[.slice (some ⟨o, 0, none⟩) 1 1] W fun e w' => ∃ A c, e = .returned (.slice A m.os.length c) ∧ OR w' w.heap.size 3 A c (m.os.map (Value.int .i64)) ∧ RH w w.heap.size m w' ∧ Below W.heap.size W w' from by
      have := iconcat_any o 0 1 [⟨m.O, m.co, m.os⟩] W ⟨ho, fun j s hj => by
        match j with
        | 0 => simp at hj; subst hj; simpa using c0
        | j + 1 => simp at hj, fun s hs => by
        simp at hs
        subst hs
        exact h.mh.ms.own.vs⟩ (by simp [catI]; omega) (by simp)
      have e : catI [⟨m.O, m.co, m.os⟩] = m.os := by simp [catI]
      rw [e] at this
      exact this.mono fun e w' ⟨A, c, h1, h2, h3⟩ => ⟨A, c, h1, h2.mono h.mh.be.size, h.below h3, h3⟩)
  have HS := hideP (fun (W : World) (h : RH w w.heap.size m W) => h.mh.c)
  have HS3 := hideP (fun (W : World) (h : Box W w.heap.size 34 #[.slice m.A m.cs.length m.ca, .slice m.O m.os.length m.co]) => show W.cell? ⟨w.heap.size, 0, none⟩ = some (.slice m.A m.cs.length m.ca) ∧ W.cell? ⟨w.heap.size, 1, none⟩ = some (.slice m.O m.os.length m.co) from ⟨h.cell 0 rfl, h.cell 1 rfl⟩)
  have HFIN := hideP (fun (W : World) (h : RH w w.heap.size m W) (A O : Option Addr) (ca co : Nat) (hA : OR W w.heap.size 9 A ca (m.cs.map Value.string)) (hO : OR W w.heap.size 3 O co (m.os.map (Value.int .i64))) => show RF w w.heap.size ⟨A, ca, m.cs, O, co, m.os⟩ W from h.rf ⟨hA, hO⟩)
  clear h1 h2
  go_enter Tryz.func136, Tryz.ntmps136
  go_wp2_with fail
  generalize (w.alloc _).alloc _ = w3 at hH ⊢
  generalize hg : w.heap.size = g at hH HP1 HP2 HS HS3 HFIN ⊢
  have hlt := hH.res.lt
  go_region_held3 (fun w' => w'.cell? ⟨g, 0, none⟩ = some (.slice m.A m.cs.length m.ca) ∧ w'.cell? ⟨g, 1, none⟩ = some (.slice m.O m.os.length m.co)) (first | with_reducible exact hS3 | (refine HS.out _ ?_; (repeat first | with_reducible exact hH2 | with_reducible exact hH1 | with_reducible exact hH | with_reducible apply RH.alloc | with_reducible apply RH.drew))) (first
    | (go_at_call 139
       refine (HP1.out _ (by repeat first | with_reducible exact hH | with_reducible apply RH.alloc | with_reducible apply RH.drew) _ (by simp <;> omega) (by first | exact cell_dr (cell_nw (by simp) rfl) | exact cell_dr (cell_ol (by simp <;> omega) (cell_nw (by simp) rfl)) | exact cell_nw (by simp) rfl)).mono ?_
       rintro e w4 ⟨A', ca', rfl, hA, hH1, hb4⟩)
    | (go_at_call 140
       first
         | (refine (HP2.out _ (by repeat first | with_reducible exact hH1 | with_reducible apply RH.alloc | with_reducible apply RH.drew) _ (by simp <;> omega) (by first | exact cell_dr (cell_nw (by simp) rfl) | exact cell_dr (cell_ol (by simp <;> omega) (cell_nw (by simp) rfl)) | exact cell_nw (by simp) rfl)).mono ?_)
         | (refine (HP2.out _ hH1 _ ?_ ((hb4.cell (by simp <;> omega)).trans (by first | exact cell_dr (cell_nw (by simp) rfl) | exact cell_dr (cell_ol (by simp <;> omega) (cell_nw (by simp) rfl)) | exact cell_nw (by simp) rfl))).mono ?_
            · refine Nat.lt_of_lt_of_le ?_ hb4.size; (simp <;> omega))
       rintro e w5 ⟨O', co', rfl, hO, hH2, hb5⟩
       have hb5' : Below w4.heap.size w4 w5 := by first | exact hb5 | exact ((Below.refl _ _).alloc (Nat.le_refl _) _).trans (hb5.mono (by simp))
       obtain ⟨f0, f1, d0, d1, q0, q1, hfin⟩ := HFIN.out w5 hH2 A' O' ca' co' (hA.below hb5') hO
       simp only at f1 d1 q0 q1 hfin
       have HF := hideP hfin
       have hx := ((hH2.mh.x0.other (a := ⟨g + 1, 0, none⟩) (by show g + 1 ≠ g; omega) (.slice A' m.cs.length ca')).other (a := ⟨g + 1, 1, none⟩) (by show g + 1 ≠ g; omega) (.slice O' m.os.length co'))
       have hS3 := HS3.out _ hx
       clear hfin hx))
  all_goals
    go_wp2_with fail
    exact bodyPost_ret (v := .agg #[.slice A' m.cs.length ca', .slice O' m.os.length co']) (by simp [results, Tryz.results136, go_sem, q0, q1]) rfl ⟨A', ca', O', co', rfl, HF.out.1, HF.out.2⟩
end Go.Proofs.YtefdipjhjgmokaaGreatDoor

set_option linter.unusedVariables false
set_option linter.unusedSimpArgs false
namespace Go.Proofs.YtefdipjhjgmokaaGreatDoor
open Go.RowKit

/-- what an operation reads, and writes -/
def rdO (o : Opr) : List ByteArray := if o.kind = 2 then [o.key] else if o.kind = 3 then [o.src] else if o.kind = 4 then [o.key] else if o.kind = 5 then [o.src, o.key] else []
def wrO (o : Opr) : List ByteArray := if o.kind = 4 then [] else if o.kind = 5 then [o.src, o.key] else [o.key]
def rdL (d : List Opr) : List ByteArray := d.flatMap rdO
def wrL (d : List Opr) : List ByteArray := d.flatMap wrO
theorem rdL_take {d : List Opr} {k : Nat} (h : k < d.length) : rdL (d.take (k + 1)) = rdL (d.take k) ++ rdO d[k] := by
  unfold rdL; rw [List.take_succ_eq_append_getElem h, List.flatMap_append]; simp
theorem wrL_take {d : List Opr} {k : Nat} (h : k < d.length) : wrL (d.take (k + 1)) = wrL (d.take k) ++ wrO d[k] := by
  unfold wrL; rw [List.take_succ_eq_append_getElem h, List.flatMap_append]; simp
theorem rdO_len (o : Opr) : (rdO o).length ≤ 2 := by
  unfold rdO
  split
  · simp
  · split
    · simp
    · split
      · simp
      · split <;> simp
theorem wrO_len (o : Opr) : (wrO o).length ≤ 2 := by
  unfold wrO
  split
  · simp
  · split <;> simp
theorem flat_len {f : Opr → List ByteArray} (hf : ∀ o, (f o).length ≤ 2) : ∀ d : List Opr, (d.flatMap f).length ≤ 2 * d.length
  | [] => by simp
  | o :: r => by have := flat_len hf r; have := hf o; simp [List.flatMap_cons] at *; omega
theorem rdL_len (d : List Opr) : (rdL d).length ≤ 2 * d.length := flat_len rdO_len d
theorem wrL_len (d : List Opr) : (wrL d).length ≤ 2 * d.length := flat_len wrO_len d

section
theorem get_bang {α : Type} [Inhabited α] (zs : List α) {m : Nat} (h : m < zs.length) : zs.toArray[m]! = zs[m] := by simp [getElem!_pos, h]
variable {α : Type} [Inhabited α] [DecidableEq α]
theorem upTo_mem (zs : List α) (m : Nat) (hm : m ≤ zs.length) (x : α) : x ∈ Lib.compactUpTo zs.toArray m ↔ x ∈ zs.take m := by
  induction m with
  | zero => simp [Lib.compactUpTo]
  | succ m ih =>
    have hlt : m < zs.length := by omega
    rw [Lib.compactUpTo_succ, List.take_succ_eq_append_getElem hlt, List.mem_append, List.mem_append, ih (by omega), get_bang zs hlt]
    cases hk : Lib.keeps zs.toArray m with
    | true => simp
    | false =>
      simp only [Lib.keeps, decide_eq_false_iff_not, not_or, Decidable.not_not] at hk
      have hp : m - 1 < zs.length := by omega
      rw [get_bang zs hlt, get_bang zs hp] at hk
      constructor
      · rintro (h | h)
        · exact .inl h
        · simp at h
      · rintro (h | h)
        · exact .inl h
        · simp at h
          refine .inl ?_
          rw [h, hk.2]
          exact List.mem_take_iff_getElem.2 ⟨m - 1, by omega, rfl⟩
end
theorem upTo_sorted (zs : List (List UInt8)) (hs : zs.Pairwise (fun a b => ¬ b < a)) (m : Nat) (hm : m ≤ zs.length) : (Lib.compactUpTo zs.toArray m).Pairwise (fun a b => a < b) := by
  induction m with
  | zero => simp [Lib.compactUpTo]
  | succ m ih =>
    have hlt : m < zs.length := by omega
    rw [Lib.compactUpTo_succ, get_bang zs hlt]
    refine List.pairwise_append.2 ⟨ih (by omega), ?_, ?_⟩
    · split <;> simp
    · intro a ha b hb
      cases hk : Lib.keeps zs.toArray m with
      | false => simp [hk] at hb
      | true =>
        simp [hk] at hb
        subst hb
        rw [upTo_mem zs m (by omega)] at ha
        obtain ⟨j, hj, rfl⟩ := List.mem_take_iff_getElem.1 ha
        simp only [Lib.keeps, decide_eq_true_eq] at hk
        rcases hk with h0 | hne
        · omega
        · rw [get_bang zs hlt, get_bang zs (by omega)] at hne
          have hp : m - 1 < zs.length := by omega
          have h1 : ¬ zs[m] < zs[m - 1] := List.pairwise_iff_getElem.1 hs (m - 1) m (by omega) hlt (by omega)
          have h2 : ¬ zs[m - 1] < zs[j] := by
            rcases Nat.lt_or_ge j (m - 1) with h | h
            · exact List.pairwise_iff_getElem.1 hs j (m - 1) (by omega) (by omega) h
            · have : j = m - 1 := by omega
              subst this; exact List.lt_irrefl _
          have h3 : zs[m - 1] < zs[m] := by
            by_cases h : zs[m - 1] < zs[m]
            · exact h
            · exact absurd (List.le_antisymm (show zs[m] ≤ zs[m - 1] from h) (show zs[m - 1] ≤ zs[m] from h1)) hne
          by_cases h4 : zs[j] < zs[m - 1]
          · exact List.lt_trans h4 h3
          · have := List.le_antisymm (show zs[j] ≤ zs[m - 1] from h2) (show zs[m - 1] ≤ zs[j] from h4)
            rw [this]; exact h3
/-- keys in order and without duplicates -/
def keysOf (l : List ByteArray) : List ByteArray := (Lib.compact ((l.map by8).mergeSort fun x y => decide (x ≤ y))).map fun s => ⟨s.toArray⟩
theorem keysOf_mem (l : List ByteArray) (k : ByteArray) : k ∈ keysOf l ↔ k ∈ l := by
  unfold keysOf Lib.compact
  have hl : ((l.map by8).mergeSort fun x y => decide (x ≤ y)).length = l.length := by simp
  constructor
  · intro h
    obtain ⟨s, hs, rfl⟩ := List.mem_map.1 h
    rw [upTo_mem _ _ (Nat.le_refl _), List.take_length, List.mem_mergeSort] at hs
    obtain ⟨x, hx, rfl⟩ := List.mem_map.1 hs
    exact hx
  · intro h
    refine List.mem_map.2 ⟨by8 k, ?_, rfl⟩
    rw [upTo_mem _ _ (Nat.le_refl _), List.take_length, List.mem_mergeSort]
    exact List.mem_map.2 ⟨k, h, rfl⟩
theorem keysOf_sorted (l : List ByteArray) : (keysOf l).Pairwise (fun a b => ltB a b = true) := by
  unfold keysOf Lib.compact
  rw [List.pairwise_map]
  have hs : ((l.map by8).mergeSort fun x y => decide (x ≤ y)).Pairwise (fun a b => ¬ b < a) := by
    have := List.pairwise_mergeSort (le := fun x y : List UInt8 => decide (x ≤ y)) (by intro a b c h1 h2; simp at *; exact List.le_trans h1 h2) (by intro a b; simp; exact List.le_total a b) (l.map by8)
    exact this.imp (by intro a b h; simpa using h)
  exact (upTo_sorted _ hs _ (Nat.le_refl _)).imp (by intro a b h; rw [ltB_iff]; exact h)
theorem keysOf_len (l : List ByteArray) : (keysOf l).length ≤ l.length := by
  unfold keysOf
  rw [List.length_map]
  have h : ∀ (zs : List (List UInt8)), (Lib.compact zs).length ≤ zs.length := fun zs => by
    unfold Lib.compact Lib.compactUpTo
    rw [List.length_map]
    exact Nat.le_trans (List.length_filter_le _ _) (by simp)
  exact Nat.le_trans (h _) (by simp)
/-- two sorted lists with the same keys are one -/
theorem sorted_ext {l m : List ByteArray} (hl : l.Pairwise (fun a b => ltB a b = true)) (hm : m.Pairwise (fun a b => ltB a b = true)) (h : ∀ k, k ∈ l ↔ k ∈ m) : l = m := by
  induction l generalizing m with
  | nil =>
    cases m with
    | nil => rfl
    | cons q s => exact absurd ((h q).2 (by simp)) (by simp)
  | cons p r ih =>
    cases m with
    | nil => exact absurd ((h p).1 (by simp)) (by simp)
    | cons q s =>
      have hl' := List.pairwise_cons.1 hl
      have hm' := List.pairwise_cons.1 hm
      have hpq : p = q := by
        rcases List.mem_cons.1 ((h p).1 (by simp)) with e | e
        · exact e
        · rcases List.mem_cons.1 ((h q).2 (by simp)) with e2 | e2
          · exact e2.symm
          · have a := hl'.1 q e2
            have b := hm'.1 p e
            rw [ltB_asymm a] at b; cases b
      subst hpq
      congr 1
      refine ih hl'.2 hm'.2 fun k => ?_
      constructor
      · intro hk
        rcases List.mem_cons.1 ((h k).1 (by simp [hk])) with e | e
        · exact absurd e.symm (ltB_ne (hl'.1 k hk))
        · exact e
      · intro hk
        rcases List.mem_cons.1 ((h k).2 (by simp [hk])) with e | e
        · exact absurd e.symm (ltB_ne (hm'.1 k hk))
        · exact e
end Go.Proofs.YtefdipjhjgmokaaGreatDoor

set_option linter.unusedVariables false
set_option linter.unusedSimpArgs false
namespace Go.Proofs.YtefdipjhjgmokaaGreatDoor
open Go.RowKit

theorem putV_some {v u : VF} {k : ByteArray} {n : Int} (h : putV v k n = some u) : valB n = true ∧ u = upd v k n := by
  unfold putV at h
  by_cases hn : valB n = true
  · rw [if_pos hn] at h; injection h with h; exact ⟨hn, h.symm⟩
  · rw [if_neg hn] at h; cases h
theorem putV_ok {v : VF} {k : ByteArray} {n : Int} (hn : valB n = true) : putV v k n = some (upd v k n) := by unfold putV; rw [if_pos hn]
theorem putV_no {v : VF} {k : ByteArray} {n : Int} (hn : ¬ valB n = true) : putV v k n = none := by unfold putV; rw [if_neg hn]
/-- the kinds -/
theorem kinds {o : Opr} (h : chkO o = 0) : o.kind = 1 ∨ o.kind = 2 ∨ o.kind = 3 ∨ o.kind = 4 ∨ o.kind = 5 := by
  have := chkO_zero.1 h; omega
/-- an operation changes only what it writes -/
theorem stepV_other {v u : VF} {o : Opr} (ho : chkO o = 0) (h : stepV v o = some u) {k : ByteArray} (hk : k ∉ wrO o) : u k = v k := by
  have hkd := kinds ho
  obtain ⟨kd, key, src, n⟩ := o
  simp only at hkd
  rcases hkd with rfl | rfl | rfl | rfl | rfl <;> simp [stepV, wrO] at h hk
  · rw [(putV_some h).2, upd_other _ _ hk]
  · rw [(putV_some h).2, upd_other _ _ hk]
  · rw [(putV_some h).2, upd_other _ _ hk]
  · rw [h.2]
  · unfold moveV at h
    simp only at h
    by_cases hn : v src < n
    · rw [if_pos hn] at h; cases h
    · rw [if_neg hn] at h
      rw [(putV_some h).2, upd_other _ _ hk.2, upd_other _ _ hk.1]
/-- what it makes of what it writes hangs only on what it reads -/
theorem stepV_reads {v v' : VF} {o : Opr} (ho : chkO o = 0) (h : ∀ k ∈ rdO o, v k = v' k) :
    (stepV v o = none ∧ stepV v' o = none) ∨ ∃ u u', stepV v o = some u ∧ stepV v' o = some u' ∧ ∀ k ∈ wrO o, u k = u' k := by
  have hkd := kinds ho
  have hc := chkO_zero.1 ho
  obtain ⟨kd, key, src, n⟩ := o
  simp only at hkd hc
  rcases hkd with rfl | rfl | rfl | rfl | rfl <;> simp [stepV, wrO, rdO] at h ⊢
  · by_cases hn : valB n = true
    · exact .inr ⟨_, putV_ok hn, _, putV_ok hn, by rw [upd_same, upd_same]⟩
    · exact .inl ⟨putV_no hn, putV_no hn⟩
  · rw [h]
    by_cases hn : valB (v' key + n) = true
    · exact .inr ⟨_, putV_ok hn, _, putV_ok hn, by rw [upd_same, upd_same]⟩
    · exact .inl ⟨putV_no hn, putV_no hn⟩
  · rw [h]
    by_cases hn : valB (v' src) = true
    · exact .inr ⟨_, putV_ok hn, _, putV_ok hn, by rw [upd_same, upd_same]⟩
    · exact .inl ⟨putV_no hn, putV_no hn⟩
  · rw [h]
    by_cases hn : n ≤ v' key
    · exact .inr ⟨hn, hn⟩
    · exact .inl (by omega)
  · have hsk := (hc.2.2.2.1 (by simp)).2
    unfold moveV
    simp only
    rw [h.1, upd_other _ _ (fun e => hsk e.symm), upd_other _ _ (fun e => hsk e.symm), h.2]
    by_cases hn : v' src < n
    · rw [if_pos hn, if_pos hn]; exact .inl ⟨rfl, rfl⟩
    · rw [if_neg hn, if_neg hn]
      by_cases hb : valB (v' key + n) = true
      · refine .inr ⟨_, putV_ok hb, _, putV_ok hb, ?_, ?_⟩
        · rw [upd_other _ _ hsk, upd_other _ _ hsk, upd_same, upd_same]
        · rw [upd_same, upd_same]
      · exact .inl ⟨putV_no hb, putV_no hb⟩
theorem mem_wrL {d : List Opr} {k : ByteArray} : k ∈ wrL d ↔ ∃ o ∈ d, k ∈ wrO o := by unfold wrL; exact List.mem_flatMap
theorem mem_rdL {d : List Opr} {k : ByteArray} : k ∈ rdL d ↔ ∃ o ∈ d, k ∈ rdO o := by unfold rdL; exact List.mem_flatMap
theorem runV_other {d : List Opr} (hd : ∀ o ∈ d, chkO o = 0) {v u : VF} (h : runV v d = some u) {k : ByteArray} (hk : k ∉ wrL d) : u k = v k := by
  induction d generalizing v with
  | nil => injection h with h; rw [h]
  | cons o r ih =>
    rw [runV_cons] at h
    cases hs : stepV v o with
    | none => rw [hs] at h; cases h
    | some x =>
      rw [hs] at h
      have h1 := ih (fun q hq => hd q (by simp [hq])) h (fun e => hk (mem_wrL.2 (by obtain ⟨q, hq, hm⟩ := mem_wrL.1 e; exact ⟨q, by simp [hq], hm⟩)))
      rw [h1]
      exact stepV_other (hd o (by simp)) hs (fun e => hk (mem_wrL.2 ⟨o, by simp, e⟩))
/-- two states that agree on what a transaction reads: it does the same in both -/
theorem runV_reads {d : List Opr} (hd : ∀ o ∈ d, chkO o = 0) (R : ByteArray → Prop) (hR : ∀ k ∈ rdL d, R k) {v v' : VF} (h : ∀ k, R k → v k = v' k) :
    (runV v d = none ∧ runV v' d = none) ∨ ∃ u u', runV v d = some u ∧ runV v' d = some u' ∧ (∀ k, R k → u k = u' k) ∧ ∀ k ∈ wrL d, u k = u' k := by
  induction d generalizing v v' with
  | nil => exact .inr ⟨v, v', rfl, rfl, h, by simp [wrL]⟩
  | cons o r ih =>
    have ho := hd o (by simp)
    have hr : ∀ q ∈ r, chkO q = 0 := fun q hq => hd q (by simp [hq])
    rw [runV_cons, runV_cons]
    rcases stepV_reads ho (v := v) (v' := v') (fun k hk => h k (hR k (mem_rdL.2 ⟨o, by simp, hk⟩))) with ⟨e1, e2⟩ | ⟨x, x', e1, e2, hw⟩
    · rw [e1, e2]; exact .inl ⟨rfl, rfl⟩
    · rw [e1, e2]
      have hag : ∀ k, R k → x k = x' k := fun k hk => by
        by_cases hm : k ∈ wrO o
        · exact hw k hm
        · rw [stepV_other ho e1 hm, stepV_other ho e2 hm, h k hk]
      rcases ih hr (fun k hk => hR k (mem_rdL.2 (by obtain ⟨q, hq, hm⟩ := mem_rdL.1 hk; exact ⟨q, by simp [hq], hm⟩))) hag with ⟨f1, f2⟩ | ⟨u, u', f1, f2, hu, hu2⟩
      · exact .inl ⟨f1, f2⟩
      · refine .inr ⟨u, u', f1, f2, hu, fun k hk => ?_⟩
        by_cases hm : k ∈ wrL r
        · exact hu2 k hm
        · rw [runV_other hr f1 hm, runV_other hr f2 hm]
          obtain ⟨q, hq, hkq⟩ := mem_wrL.1 hk
          rcases List.mem_cons.1 hq with rfl | hq
          · exact hw k hkq
          · exact absurd (mem_wrL.2 ⟨q, hq, hkq⟩) hm
theorem doneV_other {d : List Opr} (hd : ∀ o ∈ d, chkO o = 0) (v : VF) {k : ByteArray} (hk : k ∉ wrL d) : (doneV v d).1 k = v k := by
  cases h : runV v d with
  | none => rw [doneV_none h]
  | some u => rw [doneV_some h]; exact runV_other hd h hk
theorem doneV_agree {d : List Opr} (hd : ∀ o ∈ d, chkO o = 0) {v v' : VF} (hr : ∀ k ∈ rdL d, v k = v' k) (hw : ∀ k ∈ wrL d, v k = v' k) : (doneV v d).2 = (doneV v' d).2 ∧ ∀ k ∈ wrL d, (doneV v d).1 k = (doneV v' d).1 k := by
  rcases runV_reads hd (fun k => k ∈ rdL d) (fun k h => h) hr with ⟨e1, e2⟩ | ⟨u, u', e1, e2, _, h⟩
  · rw [doneV_none e1, doneV_none e2]; exact ⟨rfl, hw⟩
  · rw [doneV_some e1, doneV_some e2]; exact ⟨rfl, h⟩
/-- transactions that do not conflict -/
structure Free (a b : List Opr) : Prop where
  ww : ∀ k ∈ wrL a, k ∉ wrL b
  wr : ∀ k ∈ wrL a, k ∉ rdL b
  rw_ : ∀ k ∈ rdL a, k ∉ wrL b
/-- Bernstein: they commute, with the same outcomes -/
theorem commute {a b : List Opr} (ha : ∀ o ∈ a, chkO o = 0) (hb : ∀ o ∈ b, chkO o = 0) (h : Free a b) (v : VF) :
    (doneV (doneV v a).1 b).1 = (doneV (doneV v b).1 a).1 ∧ (doneV v a).2 = (doneV (doneV v b).1 a).2 ∧ (doneV (doneV v a).1 b).2 = (doneV v b).2 := by
  have hB := doneV_agree hb (v := (doneV v a).1) (v' := v) (fun k hk => doneV_other ha v (fun e => h.wr k e hk)) (fun k hk => doneV_other ha v (fun e => h.ww k e hk))
  have hA := doneV_agree ha (v := (doneV v b).1) (v' := v) (fun k hk => doneV_other hb v (h.rw_ k hk)) (fun k hk => doneV_other hb v (h.ww k hk))
  refine ⟨funext fun k => ?_, hA.1.symm, hB.1⟩
  by_cases h1 : k ∈ wrL b
  · have h2 : k ∉ wrL a := fun e => h.ww k e h1
    rw [hB.2 k h1, doneV_other ha _ h2]
  · rw [doneV_other hb _ h1]
    by_cases h2 : k ∈ wrL a
    · rw [hA.2 k h2]
    · rw [doneV_other ha _ h2, doneV_other ha _ h2, doneV_other hb _ h1]
end Go.Proofs.YtefdipjhjgmokaaGreatDoor
