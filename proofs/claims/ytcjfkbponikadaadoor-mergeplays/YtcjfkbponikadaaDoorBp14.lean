/-
  slices.Concat of one and of three; parts of slices (of strings, of ints).
-/
import Derived.Test.YtcjfkbponikadaaDoorBp13
import Derived.Test.YtcjfkbponikadaaDoorBp2
set_option linter.unusedVariables false
set_option linter.unusedSimpArgs false
namespace Go.Proofs.YtcjfkbponikadaaDoor
open Go.RowKit

theorem iconcat1 (w : World) (g : Nat) (hg : g = w.heap.size) (A1 : Option Addr) (n1 c1 : Nat) (l1 : List Int) (e1 : n1 = l1.length)
    (p1 : VS w A1 (l1.map (Value.int .i64))) (hn : l1.length ≤ 1000000) :
    Calls Tryd.prog 35 #[.slice (some ⟨g, 0, none⟩) 1 1] (w.alloc (.cells #[.slice A1 n1 c1] 29)) fun e w' => ∃ A c, e = .returned (.slice A l1.length c) ∧ OR w' w.heap.size 3 A c (l1.map (Value.int .i64)) ∧ Below w.heap.size w w' := by
  subst hg e1
  have hb := (Below.refl w.heap.size w).alloc (Nat.le_refl _) (.cells #[.slice A1 l1.length c1] 29)
  have h := iconcat_any w.heap.size 0 1 [⟨A1, c1, l1⟩] (w.alloc (.cells #[.slice A1 l1.length c1] 29))
    ⟨by simp, fun j s hj => by
      match j with
      | 0 => simp at hj; subst hj; simp
      | j + 1 => simp at hj, fun s hs => by
      simp at hs
      subst hs
      exact p1.below hb⟩ (by simp [catI]; omega) (by simp)
  have e : catI [⟨A1, c1, l1⟩] = l1 := by simp [catI]
  rw [e] at h
  exact h.mono fun e w' ⟨A, c, h1, h2, h3⟩ => ⟨A, c, h1, h2.mono hb.size, hb.trans (h3.mono hb.size)⟩
theorem sconcat1 (w : World) (g : Nat) (hg : g = w.heap.size) (A1 : Option Addr) (n1 c1 : Nat) (l1 : List ByteArray) (e1 : n1 = l1.length)
    (p1 : VS w A1 (l1.map Value.string)) (hn : l1.length ≤ 1000000) :
    Calls Tryd.prog 34 #[.slice (some ⟨g, 0, none⟩) 1 1] (w.alloc (.cells #[.slice A1 n1 c1] 37)) fun e w' => ∃ A c, e = .returned (.slice A l1.length c) ∧ OR w' w.heap.size 9 A c (l1.map Value.string) ∧ Below w.heap.size w w' := by
  subst hg e1
  have hb := (Below.refl w.heap.size w).alloc (Nat.le_refl _) (.cells #[.slice A1 l1.length c1] 37)
  have h := sconcat_any w.heap.size 0 1 [⟨A1, c1, l1⟩] (w.alloc (.cells #[.slice A1 l1.length c1] 37))
    ⟨by simp, fun j s hj => by
      match j with
      | 0 => simp at hj; subst hj; simp
      | j + 1 => simp at hj, fun s hs => by
      simp at hs
      subst hs
      exact p1.below hb⟩ (by simp [catS]; omega) (by simp)
  have e : catS [⟨A1, c1, l1⟩] = l1 := by simp [catS]
  rw [e] at h
  exact h.mono fun e w' ⟨A, c, h1, h2, h3⟩ => ⟨A, c, h1, h2.mono hb.size, hb.trans (h3.mono hb.size)⟩
/-- three slices of strings that lie in a slice -/
theorem sconcat3 (w : World) (g : Nat) (A1 A2 A3 : Option Addr) (c1 c2 c3 : Nat) (l1 l2 l3 : List ByteArray) (hlt : g < w.heap.size)
    (k1 : w.cell? ⟨g, 0, none⟩ = some (.slice A1 l1.length c1)) (k2 : w.cell? ⟨g, 1, none⟩ = some (.slice A2 l2.length c2)) (k3 : w.cell? ⟨g, 2, none⟩ = some (.slice A3 l3.length c3))
    (p1 : VS w A1 (l1.map Value.string)) (p2 : VS w A2 (l2.map Value.string)) (p3 : VS w A3 (l3.map Value.string)) (hn : l1.length + (l2.length + l3.length) ≤ 1000000) :
    Calls Tryd.prog 34 #[.slice (some ⟨g, 0, none⟩) 3 3] w fun e w' => ∃ A c, e = .returned (.slice A (l1 ++ (l2 ++ l3)).length c) ∧ OR w' w.heap.size 9 A c ((l1 ++ (l2 ++ l3)).map Value.string) ∧ Below w.heap.size w w' := by
  have h := sconcat_any g 0 3 [⟨A1, c1, l1⟩, ⟨A2, c2, l2⟩, ⟨A3, c3, l3⟩] w
    ⟨hlt, fun j s hj => by
      match j with
      | 0 => simp at hj; subst hj; exact k1
      | 1 => simp at hj; subst hj; exact k2
      | 2 => simp at hj; subst hj; exact k3
      | j + 3 => simp at hj, fun s hs => by
      simp at hs
      rcases hs with rfl | rfl | rfl
      · exact p1
      · exact p2
      · exact p3⟩ (by simp [catS]; omega) (by simp)
  have e : catS [⟨A1, c1, l1⟩, ⟨A2, c2, l2⟩, ⟨A3, c3, l3⟩] = l1 ++ (l2 ++ l3) := by simp [catS]
  rw [e] at h
  exact h
/-- two slices of ints that lie in a slice -/
theorem iconcat2_at (w : World) (g : Nat) (A1 A2 : Option Addr) (c1 c2 : Nat) (l1 l2 : List Int) (hlt : g < w.heap.size)
    (k1 : w.cell? ⟨g, 0, none⟩ = some (.slice A1 l1.length c1)) (k2 : w.cell? ⟨g, 1, none⟩ = some (.slice A2 l2.length c2))
    (p1 : VS w A1 (l1.map (Value.int .i64))) (p2 : VS w A2 (l2.map (Value.int .i64))) (hn : l1.length + l2.length ≤ 1000000) :
    Calls Tryd.prog 35 #[.slice (some ⟨g, 0, none⟩) 2 2] w fun e w' => ∃ A c, e = .returned (.slice A (l1 ++ l2).length c) ∧ OR w' w.heap.size 3 A c ((l1 ++ l2).map (Value.int .i64)) ∧ Below w.heap.size w w' := by
  have h := iconcat_any g 0 2 [⟨A1, c1, l1⟩, ⟨A2, c2, l2⟩] w
    ⟨hlt, fun j s hj => by
      match j with
      | 0 => simp at hj; subst hj; exact k1
      | 1 => simp at hj; subst hj; exact k2
      | j + 2 => simp at hj, fun s hs => by
      simp at hs
      rcases hs with rfl | rfl
      · exact p1
      · exact p2⟩ (by simp [catI]; omega) (by simp)
  have e : catI [⟨A1, c1, l1⟩, ⟨A2, c2, l2⟩] = l1 ++ l2 := by simp [catI]
  rw [e] at h
  exact h
/-- a slice up to a place -/
theorem slice_uptoS (T : Option Addr) (n ct m : Nat) (hm : m ≤ ct) (hn : T = none → ct = 0) (w : World) : (Instr.slice 37 (.slice T n ct) none (some (.int .i64 (m : Int))) none).run Tryd.prog w = .ok (.slice T m ct) w := by
  cases T with
  | none =>
    have := hn rfl
    subst this
    obtain rfl : m = 0 := by omega
    go_simp
  | some a =>
    obtain ⟨b, o, s⟩ := a
    have g0 : (0 : Int) ≤ (m : Int) := by omega
    have g1 : (m : Int) ≤ (ct : Int) := by omega
    go_simp
theorem slice_uptoI (T : Option Addr) (n ct m : Nat) (hm : m ≤ ct) (hn : T = none → ct = 0) (w : World) : (Instr.slice 29 (.slice T n ct) none (some (.int .i64 (m : Int))) none).run Tryd.prog w = .ok (.slice T m ct) w := by
  cases T with
  | none =>
    have := hn rfl
    subst this
    obtain rfl : m = 0 := by omega
    go_simp
  | some a =>
    obtain ⟨b, o, s⟩ := a
    have g0 : (0 : Int) ≤ (m : Int) := by omega
    have g1 : (m : Int) ≤ (ct : Int) := by omega
    go_simp
theorem slice_someS (b o n ct m : Nat) (hm : m ≤ n) (hc : n ≤ ct) (w : World) : (Instr.slice 37 (.slice (some ⟨b, o, none⟩) n ct) (some (.int .i64 (m : Int))) none none).run Tryd.prog w = .ok (.slice (if ct = m then some ⟨b, o, none⟩ else some ⟨b, o + m, none⟩) (n - m) (ct - m)) w := by
  have g0 : (0 : Int) ≤ (m : Int) := by omega
  have g1 : (m : Int) ≤ (n : Int) := by omega
  have g2 : (n : Int) ≤ (ct : Int) := by omega
  by_cases e : ct = m
  · subst e
    obtain rfl : n = ct := by omega
    clear hm hc
    go_simp
  · rw [if_neg e]
    go_simp
/-- a slice from a place on -/
theorem slice_fromS {T : Option Addr} {ct m : Nat} {l : List ByteArray} {w : World} (hI : VS w T (l.map Value.string)) (hm : m ≤ l.length) (hc : l.length ≤ ct) (hn : T = none → ct = 0) :
    ∃ T', (∀ w, (Instr.slice 37 (.slice T l.length ct) (some (.int .i64 (m : Int))) none none).run Tryd.prog w = .ok (.slice T' (l.length - m) (ct - m)) w) ∧ VS w T' ((l.drop m).map Value.string) ∧ (∀ w', VS w' T (l.map Value.string) → VS w' T' ((l.drop m).map Value.string)) := by
  cases T with
  | none =>
    have := hn rfl
    subst this
    have h0 : l = [] := List.length_eq_zero_iff.1 (by omega)
    subst h0
    obtain rfl : m = 0 := by simpa using hm
    exact ⟨none, fun w => by go_simp, by simpa using hI, fun w' h => by simpa using h⟩
  | some a =>
    rcases Nat.eq_zero_or_pos l.length with h0 | h0
    · have h1 : l = [] := List.length_eq_zero_iff.1 h0
      subst h1
      obtain rfl : m = 0 := by simpa using hm
      refine ⟨some a, fun w => ?_, by simpa using hI, fun w' h => by simpa using h⟩
      obtain ⟨b, o, s⟩ := a
      by_cases e : ct = 0
      · subst e; go_simp
      · have : (0 : Int) ≤ (ct : Int) := by omega
        cases s <;> go_simp
    · obtain ⟨b, o, e0, _⟩ := hI 0 (.string l[0]) (by simp [h0])
      injection e0 with e0
      subst e0
      refine ⟨_, fun w => slice_someS b o l.length ct m hm hc w, ?_⟩
      have key : ∀ w', VS w' (some ⟨b, o, none⟩) (l.map Value.string) → VS w' (if ct = m then some ⟨b, o, none⟩ else some ⟨b, o + m, none⟩) ((l.drop m).map Value.string) := fun w' h => by
        by_cases e : ct = m
        · rw [if_pos e, List.drop_of_length_le (by omega)]; exact VS.nil
        · rw [if_neg e, List.map_drop]; exact h.drop_ m
      exact ⟨key _ hI, key⟩
end Go.Proofs.YtcjfkbponikadaaDoor
