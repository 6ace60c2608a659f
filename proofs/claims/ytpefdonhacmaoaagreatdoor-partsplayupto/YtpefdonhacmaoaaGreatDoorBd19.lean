/-
  slices.Concat of one and of three; parts of slices (of strings, of ints).
  parts.clone.
-/
import Derived.Test.YtpefdonhacmaoaaGreatDoorBd18
import Derived.Test.YtpefdonhacmaoaaGreatDoorBd3
import Derived.Test.YtpefdonhacmaoaaGreatDoorBd17
import Derived.Deep.RegionHeld3
set_option linter.unusedVariables false
set_option linter.unusedSimpArgs false
namespace Go.Proofs.YtpefdonhacmaoaaGreatDoor
open Go.RowKit

theorem iconcat1 (w : World) (g : Nat) (hg : g = w.heap.size) (A1 : Option Addr) (n1 c1 : Nat) (l1 : List Int) (e1 : n1 = l1.length)
    (p1 : VS w A1 (l1.map (Value.int .i64))) (hn : l1.length ≤ 1000000) :
    Calls Tryz.prog 50 #[.slice (some ⟨g, 0, none⟩) 1 1] (w.alloc (.cells #[.slice A1 n1 c1] 23)) fun e w' => ∃ A c, e = .returned (.slice A l1.length c) ∧ OR w' w.heap.size 3 A c (l1.map (Value.int .i64)) ∧ Below w.heap.size w w' := by
  subst hg e1
  have hb := (Below.refl w.heap.size w).alloc (Nat.le_refl _) (.cells #[.slice A1 l1.length c1] 23)
  have h := iconcat_any w.heap.size 0 1 [⟨A1, c1, l1⟩] (w.alloc (.cells #[.slice A1 l1.length c1] 23))
    ⟨by simp, fun j s hj => by
      match j with
      | 0 => simp at hj; subst hj; simp
      | j + 1 => simp at hj, fun s hs => by
      simp at hs
      subst hs
      exact p1.below hb⟩ (by simp [catI]; omega) (by simp)
  have e : catI [⟨A1, c1, l1⟩] = l1 := by simp [catI]
  rw [e] at h
  exact h.mono fun e w' ⟨A, c, h1, h2, h3⟩ => ⟨A, c, h1, h2.mono hb.size, hb.trans (h3.mono hb.size)⟩
theorem sconcat1 (w : World) (g : Nat) (hg : g = w.heap.size) (A1 : Option Addr) (n1 c1 : Nat) (l1 : List ByteArray) (e1 : n1 = l1.length)
    (p1 : VS w A1 (l1.map Value.string)) (hn : l1.length ≤ 1000000) :
    Calls Tryz.prog 20 #[.slice (some ⟨g, 0, none⟩) 1 1] (w.alloc (.cells #[.slice A1 n1 c1] 22)) fun e w' => ∃ A c, e = .returned (.slice A l1.length c) ∧ OR w' w.heap.size 9 A c (l1.map Value.string) ∧ Below w.heap.size w w' := by
  subst hg e1
  have hb := (Below.refl w.heap.size w).alloc (Nat.le_refl _) (.cells #[.slice A1 l1.length c1] 22)
  have h := sconcat_any w.heap.size 0 1 [⟨A1, c1, l1⟩] (w.alloc (.cells #[.slice A1 l1.length c1] 22))
    ⟨by simp, fun j s hj => by
      match j with
      | 0 => simp at hj; subst hj; simp
      | j + 1 => simp at hj, fun s hs => by
      simp at hs
      subst hs
      exact p1.below hb⟩ (by simp [catS]; omega) (by simp)
  have e : catS [⟨A1, c1, l1⟩] = l1 := by simp [catS]
  rw [e] at h
  exact h.mono fun e w' ⟨A, c, h1, h2, h3⟩ => ⟨A, c, h1, h2.mono hb.size, hb.trans (h3.mono hb.size)⟩
/-- three slices of strings that lie in a slice -/
theorem sconcat3 (w : World) (g : Nat) (A1 A2 A3 : Option Addr) (c1 c2 c3 : Nat) (l1 l2 l3 : List ByteArray) (hlt : g < w.heap.size)
    (k1 : w.cell? ⟨g, 0, none⟩ = some (.slice A1 l1.length c1)) (k2 : w.cell? ⟨g, 1, none⟩ = some (.slice A2 l2.length c2)) (k3 : w.cell? ⟨g, 2, none⟩ = some (.slice A3 l3.length c3))
    (p1 : VS w A1 (l1.map Value.string)) (p2 : VS w A2 (l2.map Value.string)) (p3 : VS w A3 (l3.map Value.string)) (hn : l1.length + (l2.length + l3.length) ≤ 1000000) :
    Calls Tryz.prog 20 #[.slice (some ⟨g, 0, none⟩) 3 3] w fun e w' => ∃ A c, e = .returned (.slice A (l1 ++ (l2 ++ l3)).length c) ∧ OR w' w.heap.size 9 A c ((l1 ++ (l2 ++ l3)).map Value.string) ∧ Below w.heap.size w w' := by
  have h := sconcat_any g 0 3 [⟨A1, c1, l1⟩, ⟨A2, c2, l2⟩, ⟨A3, c3, l3⟩] w
    ⟨hlt, fun j s hj => by
      match j with
      | 0 => simp at hj; subst hj; exact k1
      | 1 => simp at hj; subst hj; exact k2
      | 2 => simp at hj; subst hj; exact k3
      | j + 3 => simp at hj, fun s hs => by
      simp at hs
      rcases hs with rfl | rfl | rfl
      · exact p1
      · exact p2
      · exact p3⟩ (by simp [catS]; omega) (by simp)
  have e : catS [⟨A1, c1, l1⟩, ⟨A2, c2, l2⟩, ⟨A3, c3, l3⟩] = l1 ++ (l2 ++ l3) := by simp [catS]
  rw [e] at h
  exact h
/-- two slices of ints that lie in a slice -/
theorem iconcat2_at (w : World) (g : Nat) (A1 A2 : Option Addr) (c1 c2 : Nat) (l1 l2 : List Int) (hlt : g < w.heap.size)
    (k1 : w.cell? ⟨g, 0, none⟩ = some (.slice A1 l1.length c1)) (k2 : w.cell? ⟨g, 1, none⟩ = some (.slice A2 l2.length c2))
    (p1 : VS w A1 (l1.map (Value.int .i64))) (p2 : VS w A2 (l2.map (Value.int .i64))) (hn : l1.length + l2.length ≤ 1000000) :
    Calls Tryz.prog 50 #[.slice (some ⟨g, 0, none⟩) 2 2] w fun e w' => ∃ A c, e = .returned (.slice A (l1 ++ l2).length c) ∧ OR w' w.heap.size 3 A c ((l1 ++ l2).map (Value.int .i64)) ∧ Below w.heap.size w w' := by
  have h := iconcat_any g 0 2 [⟨A1, c1, l1⟩, ⟨A2, c2, l2⟩] w
    ⟨hlt, fun j s hj => by
      match j with
      | 0 => simp at hj; subst hj; exact k1
      | 1 => simp at hj; subst hj; exact k2
      | j + 2 => simp at hj, fun s hs => by
      simp at hs
      rcases hs with rfl | rfl
      · exact p1
      · exact p2⟩ (by simp [catI]; omega) (by simp)
  have e : catI [⟨A1, c1, l1⟩, ⟨A2, c2, l2⟩] = l1 ++ l2 := by simp [catI]
  rw [e] at h
  exact h
/-- a slice up to a place -/
theorem slice_uptoS (T : Option Addr) (n ct m : Nat) (hm : m ≤ ct) (hn : T = none → ct = 0) (w : World) : (Instr.slice 22 (.slice T n ct) none (some (.int .i64 (m : Int))) none).run Tryz.prog w = .ok (.slice T m ct) w := by
  cases T with
  | none =>
    have := hn rfl
    subst this
    obtain rfl : m = 0 := by omega
    go_simp
  | some a =>
    obtain ⟨b, o, s⟩ := a
    have g0 : (0 : Int) ≤ (m : Int) := by omega
    have g1 : (m : Int) ≤ (ct : Int) := by omega
    go_simp
theorem slice_uptoI (T : Option Addr) (n ct m : Nat) (hm : m ≤ ct) (hn : T = none → ct = 0) (w : World) : (Instr.slice 23 (.slice T n ct) none (some (.int .i64 (m : Int))) none).run Tryz.prog w = .ok (.slice T m ct) w := by
  cases T with
  | none =>
    have := hn rfl
    subst this
    obtain rfl : m = 0 := by omega
    go_simp
  | some a =>
    obtain ⟨b, o, s⟩ := a
    have g0 : (0 : Int) ≤ (m : Int) := by omega
    have g1 : (m : Int) ≤ (ct : Int) := by omega
    go_simp
theorem slice_someS (b o n ct m : Nat) (hm : m ≤ n) (hc : n ≤ ct) (w : World) : (Instr.slice 22 (.slice (some ⟨b, o, none⟩) n ct) (some (.int .i64 (m : Int))) none none).run Tryz.prog w = .ok (.slice (if ct = m then some ⟨b, o, none⟩ else some ⟨b, o + m, none⟩) (n - m) (ct - m)) w := by
  have g0 : (0 : Int) ≤ (m : Int) := by omega
  have g1 : (m : Int) ≤ (n : Int) := by omega
  have g2 : (n : Int) ≤ (ct : Int) := by omega
  by_cases e : ct = m
  · subst e
    obtain rfl : n = ct := by omega
    clear hm hc
    go_simp
  · rw [if_neg e]
    go_simp
/-- a slice from a place on -/
theorem slice_fromS {T : Option Addr} {ct m : Nat} {l : List ByteArray} {w : World} (hI : VS w T (l.map Value.string)) (hm : m ≤ l.length) (hc : l.length ≤ ct) (hn : T = none → ct = 0) :
    ∃ T', (∀ w, (Instr.slice 22 (.slice T l.length ct) (some (.int .i64 (m : Int))) none none).run Tryz.prog w = .ok (.slice T' (l.length - m) (ct - m)) w) ∧ VS w T' ((l.drop m).map Value.string) ∧ (∀ w', VS w' T (l.map Value.string) → VS w' T' ((l.drop m).map Value.string)) := by
  cases T with
  | none =>
    have := hn rfl
    subst this
    have h0 : l = [] := List.length_eq_zero_iff.1 (by omega)
    subst h0
    obtain rfl : m = 0 := by simpa using hm
    exact ⟨none, fun w => by go_simp, by simpa using hI, fun w' h => by simpa using h⟩
  | some a =>
    rcases Nat.eq_zero_or_pos l.length with h0 | h0
    · have h1 : l = [] := List.length_eq_zero_iff.1 h0
      subst h1
      obtain rfl : m = 0 := by simpa using hm
      refine ⟨some a, fun w => ?_, by simpa using hI, fun w' h => by simpa using h⟩
      obtain ⟨b, o, s⟩ := a
      by_cases e : ct = 0
      · subst e; go_simp
      · have : (0 : Int) ≤ (ct : Int) := by omega
        cases s <;> go_simp
    · obtain ⟨b, o, e0, _⟩ := hI 0 (.string l[0]) (by simp [h0])
      injection e0 with e0
      subst e0
      refine ⟨_, fun w => slice_someS b o l.length ct m hm hc w, ?_⟩
      have key : ∀ w', VS w' (some ⟨b, o, none⟩) (l.map Value.string) → VS w' (if ct = m then some ⟨b, o, none⟩ else some ⟨b, o + m, none⟩) ((l.drop m).map Value.string) := fun w' h => by
        by_cases e : ct = m
        · rw [if_pos e, List.drop_of_length_le (by omega)]; exact VS.nil
        · rw [if_neg e, List.map_drop]; exact h.drop_ m
      exact ⟨key _ hI, key⟩
end Go.Proofs.YtpefdonhacmaoaaGreatDoor

set_option linter.unusedVariables false
set_option linter.unusedSimpArgs false
namespace Go.Proofs.YtpefdonhacmaoaaGreatDoor
open Go.RowKit

set_option maxHeartbeats 2000000 in
set_option maxRecDepth 100000 in
theorem clone_any (m : Mp) (w : World) (hm : MS w m) (h1 : m.cs.length ≤ 1000) (h2 : m.os.length ≤ 1000) :
    Calls Tryz.prog 30 #[.agg #[.slice m.A m.cs.length m.ca, .slice m.O m.os.length m.co]] w
      fun e w' => ∃ A ca O co, e = .returned (.agg #[.slice A m.cs.length ca, .slice O m.os.length co]) ∧ MO w' w.heap.size ⟨A, ca, m.cs, O, co, m.os⟩ ∧ Below w.heap.size w w' := by
  have hH := RH.new hm
  have HP1 := hideP (fun (W : World) (h : RH w w.heap.size m W) (o : Nat) (ho : o < W.heap.size) (c0 : W.cell? ⟨o, 0, none⟩ = some (.slice m.A m.cs.length m.ca)) =>
    show Calls Tryz.prog 20 #[.slice (some ⟨o, 0, none⟩) 1 1] W fun e w' => ∃ A c, e = .returned (.slice A m.cs.length c) ∧ OR w' w.heap.size 9 A c (m.cs.map Value.string) ∧ RH w w.heap.size m w' ∧ Below W.heap.size W w' from by
      have := sconcat_any o 0 1 [⟨m.A, m.ca, m.cs⟩] W ⟨ho, fun j s hj => by
        match j with
        | 0 => simp at hj; subst hj; simpa using c0
        | j + 1 => simp at hj, fun s hs => by
        simp at hs
        subst hs
        exact h.mh.ms.cuts⟩ (by simp [catS]; omega) (by simp)
      have e : catS [⟨m.A, m.ca, m.cs⟩] = m.cs := by simp [catS]
      rw [e] at this
      exact this.mono fun e w' ⟨A, c, h1, h2, h3⟩ => ⟨A, c, h1, h2.mono h.mh.be.size, h.below h3, h3⟩)
  have HP2 := hideP (fun (W : World) (h : RH w w.heap.size m W) (o : Nat) (ho : o < W.heap.size) (c0 : W.cell? ⟨o, 0, none⟩ = some (.slice m.O m.os.length m.co)) =>
    show Calls Tryz.prog 50 #[.slice (some ⟨o, 0, none⟩) 1 1] W fun e w' => ∃ A c, e = .returned (.slice A m.os.length c) ∧ OR w' w.heap.size 3 A c (m.os.map (Value.int .i64)) ∧ RH w w.heap.size m w' ∧ Below W.heap.size W w' from by
      have := iconcat_any o 0 1 [⟨m.O, m.co, m.os⟩] W ⟨ho, fun j s hj => by
        match j with
        | 0 => simp at hj; subst hj; simpa using c0
        | j + 1 => simp at hj, fun s hs => by
        simp at hs
        subst hs
        exact h.mh.ms.own.vs⟩ (by simp [catI]; omega) (by simp)
      have e : catI [⟨m.O, m.co, m.os⟩] = m.os := by simp [catI]
      rw [e] at this
      exact this.mono fun e w' ⟨A, c, h1, h2, h3⟩ => ⟨A, c, h1, h2.mono h.mh.be.size, h.below h3, h3⟩)
  have HS := hideP (fun (W : World) (h : RH w w.heap.size m W) => h.mh.c)
  have HS3 := hideP (fun (W : World) (h : Box W w.heap.size 25 #[.slice m.A m.cs.length m.ca, .slice m.O m.os.length m.co]) => show W.cell? ⟨w.heap.size, 0, none⟩ = some (.slice m.A m.cs.length m.ca) ∧ W.cell? ⟨w.heap.size, 1, none⟩ = some (.slice m.O m.os.length m.co) from ⟨h.cell 0 rfl, h.cell 1 rfl⟩)
  have HFIN := hideP (fun (W : World) (h : RH w w.heap.size m W) (A O : Option Addr) (ca co : Nat) (hA : OR W w.heap.size 9 A ca (m.cs.map Value.string)) (hO : OR W w.heap.size 3 O co (m.os.map (Value.int .i64))) => show RF w w.heap.size ⟨A, ca, m.cs, O, co, m.os⟩ W from h.rf ⟨hA, hO⟩)
  clear h1 h2
  go_enter Tryz.func30, Tryz.ntmps30
  go_wp2_with fail
  generalize (w.alloc _).alloc _ = w3 at hH ⊢
  generalize hg : w.heap.size = g at hH HP1 HP2 HS HS3 HFIN ⊢
  have hlt := hH.res.lt
  go_region_held3 (fun w' => w'.cell? ⟨g, 0, none⟩ = some (.slice m.A m.cs.length m.ca) ∧ w'.cell? ⟨g, 1, none⟩ = some (.slice m.O m.os.length m.co)) (first | with_reducible exact hS3 | (refine HS.out _ ?_; (repeat first | with_reducible exact hH2 | with_reducible exact hH1 | with_reducible exact hH | with_reducible apply RH.alloc | with_reducible apply RH.drew))) (first
    | (go_at_call 20
       refine (HP1.out _ (by repeat first | with_reducible exact hH | with_reducible apply RH.alloc | with_reducible apply RH.drew) _ (by simp <;> omega) (by first | exact cell_dr (cell_nw (by simp) rfl) | exact cell_dr (cell_ol (by simp <;> omega) (cell_nw (by simp) rfl)) | exact cell_nw (by simp) rfl)).mono ?_
       rintro e w4 ⟨A', ca', rfl, hA, hH1, hb4⟩)
    | (go_at_call 50
       first
         | (refine (HP2.out _ (by repeat first | with_reducible exact hH1 | with_reducible apply RH.alloc | with_reducible apply RH.drew) _ (by simp <;> omega) (by first | exact cell_dr (cell_nw (by simp) rfl) | exact cell_dr (cell_ol (by simp <;> omega) (cell_nw (by simp) rfl)) | exact cell_nw (by simp) rfl)).mono ?_)
         | (refine (HP2.out _ hH1 _ ?_ ((hb4.cell (by simp <;> omega)).trans (by first | exact cell_dr (cell_nw (by simp) rfl) | exact cell_dr (cell_ol (by simp <;> omega) (cell_nw (by simp) rfl)) | exact cell_nw (by simp) rfl))).mono ?_
            · refine Nat.lt_of_lt_of_le ?_ hb4.size; (simp <;> omega))
       rintro e w5 ⟨O', co', rfl, hO, hH2, hb5⟩
       have hb5' : Below w4.heap.size w4 w5 := by first | exact hb5 | exact ((Below.refl _ _).alloc (Nat.le_refl _) _).trans (hb5.mono (by simp))
       obtain ⟨f0, f1, d0, d1, q0, q1, hfin⟩ := HFIN.out w5 hH2 A' O' ca' co' (hA.below hb5') hO
       simp only at f1 d1 q0 q1 hfin
       have HF := hideP hfin
       have hx := ((hH2.mh.x0.other (a := ⟨g + 1, 0, none⟩) (by show g + 1 ≠ g; omega) (.slice A' m.cs.length ca')).other (a := ⟨g + 1, 1, none⟩) (by show g + 1 ≠ g; omega) (.slice O' m.os.length co'))
       have hS3 := HS3.out _ hx
       clear hfin hx))
  all_goals
    go_wp2_with fail
    exact bodyPost_ret (v := .agg #[.slice A' m.cs.length ca', .slice O' m.os.length co']) (by simp [results, Tryz.results30, go_sem, q0, q1]) rfl ⟨A', ca', O', co', rfl, HF.out.1, HF.out.2⟩
end Go.Proofs.YtpefdonhacmaoaaGreatDoor
