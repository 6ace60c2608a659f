/-
  slices.Concat of one and of three; parts of slices (of strings, of ints).
  slices.Grow of nil, and slices.Concat, at operations.
  Cells of blocks that are made (no program in it).
-/
import Derived.Test.YtefdipjhjgmokaaGreatDoorBy13
import Derived.Test.YtefdipjhjgmokaaGreatDoorBy2
import Derived.WalkKit
import Derived.WalkSpells
import Derived.WalkLawsBesides
set_option linter.unusedVariables false
set_option linter.unusedSimpArgs false
namespace Go.Proofs.YtefdipjhjgmokaaGreatDoor
open Go.RowKit

theorem iconcat1 (w : World) (g : Nat) (hg : g = w.heap.size) (A1 : Option Addr) (n1 c1 : Nat) (l1 : List Int) (e1 : n1 = l1.length)
    (p1 : VS w A1 (l1.map (Value.int .i64))) (hn : l1.length ≤ 1000000) :
    Calls Tryz.prog 140 #[.slice (some ⟨g, 0, none⟩) 1 1] (w.alloc (.cells #[.slice A1 n1 c1] 22)) fun e w' => ∃ A c, e = .returned (.slice A l1.length c) ∧ OR w' w.heap.size 3 A c (l1.map (Value.int .i64)) ∧ Below w.heap.size w w' := by
  subst hg e1
  have hb := (Below.refl w.heap.size w).alloc (Nat.le_refl _) (.cells #[.slice A1 l1.length c1] 22)
  have h := iconcat_any w.heap.size 0 1 [⟨A1, c1, l1⟩] (w.alloc (.cells #[.slice A1 l1.length c1] 22))
    ⟨by simp, fun j s hj => by
      match j with
      | 0 => simp at hj; subst hj; simp
      | j + 1 => simp at hj, fun s hs => by
      simp at hs
      subst hs
      exact p1.below hb⟩ (by simp [catI]; omega) (by simp)
  have e : catI [⟨A1, c1, l1⟩] = l1 := by simp [catI]
  rw [e] at h
  exact h.mono fun e w' ⟨A, c, h1, h2, h3⟩ => ⟨A, c, h1, h2.mono hb.size, hb.trans (h3.mono hb.size)⟩
theorem sconcat1 (w : World) (g : Nat) (hg : g = w.heap.size) (A1 : Option Addr) (n1 c1 : Nat) (l1 : List ByteArray) (e1 : n1 = l1.length)
    (p1 : VS w A1 (l1.map Value.string)) (hn : l1.length ≤ 1000000) :
    Calls Tryz.prog 139 #[.slice (some ⟨g, 0, none⟩) 1 1] (w.alloc (.cells #[.slice A1 n1 c1] 32)) fun e w' => ∃ A c, e = .returned (.slice A l1.length c) ∧ OR w' w.heap.size 9 A c (l1.map Value.string) ∧ Below w.heap.size w w' := by
  subst hg e1
  have hb := (Below.refl w.heap.size w).alloc (Nat.le_refl _) (.cells #[.slice A1 l1.length c1] 32)
  have h := sconcat_any w.heap.size 0 1 [⟨A1, c1, l1⟩] (w.alloc (.cells #[.slice A1 l1.length c1] 32))
    ⟨by simp, fun j s hj => by
      match j with
      | 0 => simp at hj; subst hj; simp
      | j + 1 => simp at hj, fun s hs => by
      simp at hs
      subst hs
      exact p1.below hb⟩ (by simp [catS]; omega) (by simp)
  have e : catS [⟨A1, c1, l1⟩] = l1 := by simp [catS]
  rw [e] at h
  exact h.mono fun e w' ⟨A, c, h1, h2, h3⟩ => ⟨A, c, h1, h2.mono hb.size, hb.trans (h3.mono hb.size)⟩
/-- three slices of strings that lie in a slice -/
theorem sconcat3 (w : World) (g : Nat) (A1 A2 A3 : Option Addr) (c1 c2 c3 : Nat) (l1 l2 l3 : List ByteArray) (hlt : g < w.heap.size)
    (k1 : w.cell? ⟨g, 0, none⟩ = some (.slice A1 l1.length c1)) (k2 : w.cell? ⟨g, 1, none⟩ = some (.slice A2 l2.length c2)) (k3 : w.cell? ⟨g, 2, none⟩ = some (.slice A3 l3.length c3))
    (p1 : VS w A1 (l1.map Value.string)) (p2 : VS w A2 (l2.map Value.string)) (p3 : VS w A3 (l3.map Value.string)) (hn : l1.length + (l2.length + l3.length) ≤ 1000000) :
    Calls Tryz.prog 139 #[.slice (some ⟨g, 0, none⟩) 3 3] w fun e w' => ∃ A c, e = .returned (.slice A (l1 ++ (l2 ++ l3)).length c) ∧ OR w' w.heap.size 9 A c ((l1 ++ (l2 ++ l3)).map Value.string) ∧ Below w.heap.size w w' := by
  have h := sconcat_any g 0 3 [⟨A1, c1, l1⟩, ⟨A2, c2, l2⟩, ⟨A3, c3, l3⟩] w
    ⟨hlt, fun j s hj => by
      match j with
      | 0 => simp at hj; subst hj; exact k1
      | 1 => simp at hj; subst hj; exact k2
      | 2 => simp at hj; subst hj; exact k3
      | j + 3 => simp at hj, fun s hs => by
      simp at hs
      rcases hs with rfl | rfl | rfl
      · exact p1
      · exact p2
      · exact p3⟩ (by simp [catS]; omega) (by simp)
  have e : catS [⟨A1, c1, l1⟩, ⟨A2, c2, l2⟩, ⟨A3, c3, l3⟩] = l1 ++ (l2 ++ l3) := by simp [catS]
  rw [e] at h
  exact h
/-- two slices of ints that lie in a slice -/
theorem iconcat2_at (w : World) (g : Nat) (A1 A2 : Option Addr) (c1 c2 : Nat) (l1 l2 : List Int) (hlt : g < w.heap.size)
    (k1 : w.cell? ⟨g, 0, none⟩ = some (.slice A1 l1.length c1)) (k2 : w.cell? ⟨g, 1, none⟩ = some (.slice A2 l2.length c2))
    (p1 : VS w A1 (l1.map (Value.int .i64))) (p2 : VS w A2 (l2.map (Value.int .i64))) (hn : l1.length + l2.length ≤ 1000000) :
    Calls Tryz.prog 140 #[.slice (some ⟨g, 0, none⟩) 2 2] w fun e w' => ∃ A c, e = .returned (.slice A (l1 ++ l2).length c) ∧ OR w' w.heap.size 3 A c ((l1 ++ l2).map (Value.int .i64)) ∧ Below w.heap.size w w' := by
  have h := iconcat_any g 0 2 [⟨A1, c1, l1⟩, ⟨A2, c2, l2⟩] w
    ⟨hlt, fun j s hj => by
      match j with
      | 0 => simp at hj; subst hj; exact k1
      | 1 => simp at hj; subst hj; exact k2
      | j + 2 => simp at hj, fun s hs => by
      simp at hs
      rcases hs with rfl | rfl
      · exact p1
      · exact p2⟩ (by simp [catI]; omega) (by simp)
  have e : catI [⟨A1, c1, l1⟩, ⟨A2, c2, l2⟩] = l1 ++ l2 := by simp [catI]
  rw [e] at h
  exact h
/-- a slice up to a place -/
theorem slice_uptoS (T : Option Addr) (n ct m : Nat) (hm : m ≤ ct) (hn : T = none → ct = 0) (w : World) : (Instr.slice 32 (.slice T n ct) none (some (.int .i64 (m : Int))) none).run Tryz.prog w = .ok (.slice T m ct) w := by
  cases T with
  | none =>
    have := hn rfl
    subst this
    obtain rfl : m = 0 := by omega
    go_simp
  | some a =>
    obtain ⟨b, o, s⟩ := a
    have g0 : (0 : Int) ≤ (m : Int) := by omega
    have g1 : (m : Int) ≤ (ct : Int) := by omega
    go_simp
theorem slice_uptoI (T : Option Addr) (n ct m : Nat) (hm : m ≤ ct) (hn : T = none → ct = 0) (w : World) : (Instr.slice 22 (.slice T n ct) none (some (.int .i64 (m : Int))) none).run Tryz.prog w = .ok (.slice T m ct) w := by
  cases T with
  | none =>
    have := hn rfl
    subst this
    obtain rfl : m = 0 := by omega
    go_simp
  | some a =>
    obtain ⟨b, o, s⟩ := a
    have g0 : (0 : Int) ≤ (m : Int) := by omega
    have g1 : (m : Int) ≤ (ct : Int) := by omega
    go_simp
theorem slice_someS (b o n ct m : Nat) (hm : m ≤ n) (hc : n ≤ ct) (w : World) : (Instr.slice 32 (.slice (some ⟨b, o, none⟩) n ct) (some (.int .i64 (m : Int))) none none).run Tryz.prog w = .ok (.slice (if ct = m then some ⟨b, o, none⟩ else some ⟨b, o + m, none⟩) (n - m) (ct - m)) w := by
  have g0 : (0 : Int) ≤ (m : Int) := by omega
  have g1 : (m : Int) ≤ (n : Int) := by omega
  have g2 : (n : Int) ≤ (ct : Int) := by omega
  by_cases e : ct = m
  · subst e
    obtain rfl : n = ct := by omega
    clear hm hc
    go_simp
  · rw [if_neg e]
    go_simp
/-- a slice from a place on -/
theorem slice_fromS {T : Option Addr} {ct m : Nat} {l : List ByteArray} {w : World} (hI : VS w T (l.map Value.string)) (hm : m ≤ l.length) (hc : l.length ≤ ct) (hn : T = none → ct = 0) :
    ∃ T', (∀ w, (Instr.slice 32 (.slice T l.length ct) (some (.int .i64 (m : Int))) none none).run Tryz.prog w = .ok (.slice T' (l.length - m) (ct - m)) w) ∧ VS w T' ((l.drop m).map Value.string) ∧ (∀ w', VS w' T (l.map Value.string) → VS w' T' ((l.drop m).map Value.string)) := by
  cases T with
  | none =>
    have := hn rfl
    subst this
    have h0 : l = [] := List.length_eq_zero_iff.1 (by omega)
    subst h0
    obtain rfl : m = 0 := by simpa using hm
    exact ⟨none, fun w => by go_simp, by simpa using hI, fun w' h => by simpa using h⟩
  | some a =>
    rcases Nat.eq_zero_or_pos l.length with h0 | h0
    · have h1 : l = [] := List.length_eq_zero_iff.1 h0
      subst h1
      obtain rfl : m = 0 := by simpa using hm
      refine ⟨some a, fun w => ?_, by simpa using hI, fun w' h => by simpa using h⟩
      obtain ⟨b, o, s⟩ := a
      by_cases e : ct = 0
      · subst e; go_simp
      · have : (0 : Int) ≤ (ct : Int) := by omega
        cases s <;> go_simp
    · obtain ⟨b, o, e0, _⟩ := hI 0 (.string l[0]) (by simp [h0])
      injection e0 with e0
      subst e0
      refine ⟨_, fun w => slice_someS b o l.length ct m hm hc w, ?_⟩
      have key : ∀ w', VS w' (some ⟨b, o, none⟩) (l.map Value.string) → VS w' (if ct = m then some ⟨b, o, none⟩ else some ⟨b, o + m, none⟩) ((l.drop m).map Value.string) := fun w' h => by
        by_cases e : ct = m
        · rw [if_pos e, List.drop_of_length_le (by omega)]; exact VS.nil
        · rw [if_neg e, List.map_drop]; exact h.drop_ m
      exact ⟨key _ hI, key⟩
end Go.Proofs.YtefdipjhjgmokaaGreatDoor

set_option linter.unusedVariables false
set_option linter.unusedSimpArgs false
namespace Go.Proofs.YtefdipjhjgmokaaGreatDoor
open Go.RowKit

theorem opCells_one (l : List Opr) : ∀ u ∈ opCells l, u.oneCell' = true := by
  induction l with
  | nil => simp [opCells]
  | cons p r ih =>
    intro u hu
    simp only [opCells, List.mem_cons] at hu
    rcases hu with rfl | rfl | rfl | rfl | hu
    · rfl
    · rfl
    · rfl
    · rfl
    · exact ih u hu
theorem OS.cells {w : World} {B : Nat} {A : Option Addr} {l : List Opr} (h : OS w B A l) (hl : l ≠ []) : ∃ b o, A = some ⟨b, o, none⟩ ∧ ∀ j u, (opCells l)[j]? = some u → w.cell? ((⟨b, o, none⟩ : Addr).add j) = some u := by
  obtain ⟨p, r, rfl⟩ : ∃ p r, l = p :: r := by
    cases l with
    | nil => exact absurd rfl hl
    | cons p r => exact ⟨p, r, rfl⟩
  obtain ⟨b, o, rfl, _⟩ := h 0 p rfl
  refine ⟨b, o, rfl, fun j u hu => ?_⟩
  have hj : j < (p :: r).length * 4 := by
    rw [← opCells_length]
    rcases Nat.lt_or_ge j (opCells (p :: r)).length with h | h
    · exact h
    · rw [List.getElem?_eq_none h] at hu; cases hu
  have hq : j / 4 < (p :: r).length := by omega
  obtain ⟨b', o', e, _, h0, h1, h2, h3⟩ := h (j / 4) _ (List.getElem?_eq_getElem hq)
  injection e with e
  injection e with e1 e2 _
  subst e1; subst e2
  obtain ⟨g0, g1, g2, g3⟩ := opCells_get (p :: r) (j / 4) _ (List.getElem?_eq_getElem hq)
  rw [Addr.add_lit]
  rcases (show j % 4 = 0 ∨ j % 4 = 1 ∨ j % 4 = 2 ∨ j % 4 = 3 by omega) with hm | hm | hm | hm
  · rw [show j = j / 4 * 4 by omega] at hu
    rw [g0] at hu
    rw [show o + j = o + j / 4 * 4 by omega, h0, hu]
  · rw [show j = j / 4 * 4 + 1 by omega] at hu
    rw [g1] at hu
    rw [show o + j = o + j / 4 * 4 + 1 by omega, h1, hu]
  · rw [show j = j / 4 * 4 + 2 by omega] at hu
    rw [g2] at hu
    rw [show o + j = o + j / 4 * 4 + 2 by omega, h2, hu]
  · rw [show j = j / 4 * 4 + 3 by omega] at hu
    rw [g3] at hu
    rw [show o + j = o + j / 4 * 4 + 3 by omega, h3, hu]
set_option maxRecDepth 100000 in
/-- append of what another slice holds onto a row of the call's own -/
theorem app_ops (w : World) (base : Nat) (ty : TypeId) (v : Value) (xs : List Opr) (hown : w.ownsRow base 71 4 v xs.length (opCells xs)) (B : Nat) (A : Option Addr) (c : Nat) (l : List Opr)
    (hA : OS w B A l) (h63 : (xs.length + l.length) * 48 ≤ 140737488355328) (hbase : base ≤ w.heap.size) :
    ∃ v' w', (Builtin.append_ #[38, 38] ty #[v, .slice A l.length c]).run Tryz.prog w = .ok v' w' ∧ w'.ownsRow base 71 4 v' (xs ++ l).length (opCells (xs ++ l)) ∧ w.grownBy w' v.ownBlock ∧
      (v'.ownBlock = v.ownBlock ∨ v'.ownBlock = some w.heap.size) := by
  obtain ⟨i0, hi, hz0, hz1, hz2⟩ := info_parts opInfo
  have hm : xs.length + l.length ≤ maxLen := by unfold maxLen; omega
  rw [List.length_append, opCells_append]
  cases A with
  | none =>
    have h0 : l = [] := by
      cases l with
      | nil => rfl
      | cons q r => obtain ⟨_, _, e, _⟩ := hA 0 q rfl; cases e
    subst h0
    refine ⟨v, w, ?_, by simpa [opCells] using hown, ⟨rfl, rfl, rfl, Nat.le_refl _, fun _ _ _ => rfl⟩, .inl rfl⟩
    rcases hown.2 with ⟨rfl, h0⟩ | ⟨g, cap, cur, rfl, _, _, hnc, _⟩
    · simp [Builtin.append_, run_underlying Tryz.underlying38, sizeOf, typeInfo, hi, Builtin.lenOf, Builtin.firstCells]
    · simp [Builtin.append_, run_underlying Tryz.underlying38, sizeOf, typeInfo, hi, Builtin.lenOf, Builtin.firstCells, hnc, storeCells]
  | some ad =>
    have hc : ∀ j u, (opCells l)[j]? = some u → w.cell? (ad.add j) = some u := by
      intro j u hu
      have hl : l ≠ [] := by rintro rfl; simp [opCells] at hu
      obtain ⟨b, o, e, hcc⟩ := hA.cells hl
      injection e with e
      subst e
      exact hcc j u hu
    obtain ⟨v', w', hrun, h2, h3, _, h5⟩ := run_append_own_at (P := Tryz.prog) w base 38 ty 71 i0 _ 4 48 Tryz.underlying38 hi hz0 hz1 hz2 rfl (by decide) v xs.length (opCells xs) hown ad l.length c (opCells l)
      (opCells_length l) hc (opCells_one l) hm h63 hbase
    exact ⟨v', w', hrun, h2, h3, h5⟩
set_option maxHeartbeats 400000 in
set_option maxRecDepth 100000 in
theorem ogrow_any (n : Nat) (w : World) (hn : n * 48 ≤ 140737488355328) :
    Calls Tryz.prog 181 #[.slice none 0 0, .int .i64 n] w fun e w' => ∃ v, e = .returned v ∧ w'.ownsRow w.heap.size 71 4 v 0 [] ∧ Below w.heap.size w w' := by
  have h1 : ¬ ((n : Int) < 0) := by omega
  rcases Nat.eq_zero_or_pos n with h0 | h0
  · subst h0
    go_enter Tryz.func181, Tryz.ntmps181
    go_wp2
    go_ret
    exact ⟨_, rfl, World.ownsRow_nil w _ _ _, Below.refl _ _⟩
  · obtain ⟨i0, hi, hz0, hz1, hz2⟩ := info_parts opInfo
    have hrz : ∀ ty, (Builtin.append_ #[38, 3] ty #[.slice none 0 0, .int .i64 n]).run Tryz.prog w = _ := fun ty =>
      Lib.run_append_grow_zeros w 38 3 ty 71 i0 _ .i64 .i64 Tryz.underlying38 Tryz.underlying3 hi hz0 none 0 0 [] (run_firstCells_none w.drew i0.size 0 0 0) n h0 (by omega) (by omega) (by omega) (by rw [hz2]; omega)
        (growslice_fits (by omega) (by rw [hz2]; omega))
    have hGn : 0 + n ≤ grownCap w (0 + n) 0 71 := grownCap_ge w _ _ _
    have hGm := grownCap_le_maxLen w (0 + n) 0 71 (by unfold maxLen; omega)
    generalize grownCap w (0 + n) 0 71 = G at hrz hGn hGm
    obtain ⟨cur, hcur, hcs⟩ : ∃ cur : Array Value, ((([] : List Value).toArray ++ Builtin.zeroCells (Value.agg #[.int .i64 0, .string ByteArray.empty, .string ByteArray.empty, .int .i64 0]).cells n ++ Builtin.zeroCells (Value.agg #[.int .i64 0, .string ByteArray.empty, .string ByteArray.empty, .int .i64 0]).cells (G - (0 + n)))) = cur ∧ cur.size = G * 4 := by
      refine ⟨_, rfl, ?_⟩
      simp only [Array.size_append, size_zeroCells]
      simp [Value.cells]
      omega
    rw [hcur] at hrz
    have hrz' := fun ty => hideP (hrz ty)
    clear hrz hcur
    have hb : Below w.heap.size w (w.drew.alloc (.cells cur 71)) := (Below.refl _ w).drew.alloc (Nat.le_refl _) _
    have hG : G ≤ 9223372036854775807 := by unfold maxLen at hGm; omega
    go_enter Tryz.func181, Tryz.ntmps181
    go_wp2_with (at_builtin; refine Lib.wpList_append_run _ rfl _ _ _ _ rfl _ _ rfl rfl _ _ (hrz' _).out ?_)
    go_ret
    exact ⟨_, rfl, ⟨rfl, .inr ⟨w.heap.size, G, cur, rfl, Nat.le_refl _, heap_alloc_new w.drew _, Nat.zero_le _, hGm, hcs, rfl⟩⟩, hb⟩
/-- a slice of operations: where, its capacity, what it reads as -/
structure Ol where
  A : Option Addr
  c : Nat
  l : List Opr
def catO (ss : List Ol) : List Opr := ss.flatMap (·.l)
theorem catO_take (ss : List Ol) (k : Nat) (h : k < ss.length) : catO (ss.take (k + 1)) = catO (ss.take k) ++ (ss[k]).l := by
  unfold catO; rw [List.take_succ_eq_append_getElem h, List.flatMap_append]; simp
theorem catO_le (ss : List Ol) (k : Nat) : (catO (ss.take k)).length ≤ (catO ss).length := by
  have : catO ss = catO (ss.take k) ++ catO (ss.drop k) := by unfold catO; rw [← List.flatMap_append, List.take_append_drop]
  rw [this, List.length_append]; omega
/-- a new row that holds a list of operations is handed back -/
def RetRowO (w : World) (l : List Opr) (e : Ending) (w' : World) : Prop := ∃ v, e = .returned v ∧ w'.ownsRow w.heap.size 71 4 v l.length (opCells l) ∧ Below w.heap.size w w'
/-- the slices that a slice of slices holds -/
structure Ols (w : World) (g o : Nat) (ss : List Ol) : Prop where
  lt : g < w.heap.size
  cell : ∀ j s, ss[j]? = some s → w.cell? ⟨g, o + j, none⟩ = some (.slice s.A s.l.length s.c)
  os : ∀ s ∈ ss, OS w w.heap.size s.A s.l

set_option maxHeartbeats 400000 in
set_option maxRecDepth 100000 in
theorem oconcat_any (g o c : Nat) (ss : List Ol) (w : World) (hS : Ols w g o ss) (hn : (catO ss).length * 48 ≤ 140737488355328) (hs : ss.length ≤ 1000) :
    Calls Tryz.prog 141 #[.slice (some ⟨g, o, none⟩) ss.length c] w (RetRowO w (catO ss)) := by
  go_enter Tryz.func141, Tryz.ntmps141
  go_wp2_with fail
  go_loop [3, 11] (fun z i => ∃ k : Nat, k ≤ ss.length ∧ i = .int .i64 k ∧ z = .int .i64 ((catO (ss.take k)).length : Nat)) (fun _ i => ss.length - (intOf i).toNat)
  case atStart => exact ⟨0, Nat.zero_le _, rfl, rfl⟩
  case round =>
    obtain ⟨k, hk, rfl, rfl⟩ := hrel
    by_cases hlt : k < ss.length
    · have c1 := hS.cell k _ (List.getElem?_eq_getElem hlt)
      have h1 := catO_le ss (k + 1)
      have h2 := hideP (show (catO (ss.take (k + 1))).length = (catO (ss.take k)).length + (ss[k]).l.length by rw [catO_take ss k hlt, List.length_append])
      rw [catO_take ss k hlt, List.length_append] at h1
      generalize ss[k] = s at c1 h1 h2
      generalize (catO (ss.take k)).length = z at h1 h2 ⊢
      go_wp2_with fail
      go_round
      case rel => exact ⟨k + 1, by omega, by go_num, by rw [h2.out]; go_num⟩
      case measure => simp [intOf]; omega
    · have hz : (catO (ss.take k)).length = (catO ss).length := by rw [List.take_of_length_le (by omega)]
      rw [hz]
      clear hz
      go_wp2_with fail
      refine (ogrow_any _ _ hn).mono ?_
      rintro e w0 ⟨v0, rfl, hown0, hb0⟩
      go_wp2_with fail
      go_loopw [6, 27] (fun v i wr => ∃ k : Nat, k ≤ ss.length ∧ i = .int .i64 k ∧ wr.ownsRow w.heap.size 71 4 v (catO (ss.take k)).length (opCells (catO (ss.take k))) ∧ Below w.heap.size w wr) (fun _ i _ => ss.length - (intOf i).toNat)
      case atStart => exact ⟨0, Nat.zero_le _, rfl, hown0, hb0⟩
      case round =>
        obtain ⟨k, hk, rfl, hown, hb⟩ := hrel
        by_cases hlt : k < ss.length
        · have c1 := (hb.cell (p := ⟨g, o + k, none⟩) hS.lt).trans (hS.cell k _ (List.getElem?_eq_getElem hlt))
          have hps := (hS.os _ (List.getElem_mem hlt)).below hb
          have hle := catO_le ss (k + 1)
          rw [catO_take ss k hlt, List.length_append] at hle
          obtain ⟨v', w1, hrun, hown', hg', _⟩ := app_ops wr w.heap.size 38 _ _ hown _ _ (ss[k]).c _ hps (by omega) hb.size
          have HR := hideP hrun
          have HO := hideP hown'
          have HK := hideP (catO_take ss k hlt)
          have hb1 : Below w.heap.size w w1 := hb.grown hg' hb.size (fun j hj => (hown.lt j hj).1)
          clear hrun hown' hown hps hS
          generalize ss[k] = s at c1 HR HO HK hle
          go_wp2_with (at_builtin; refine Lib.wpList_append_run _ rfl _ _ _ _ rfl _ _ rfl rfl _ _ HR.out ?_)
          go_roundw
          case rel => exact ⟨k + 1, by omega, by go_num, by rw [HK.out]; exact HO.out, hb1⟩
          case measure => simp [intOf]; omega
        · rw [List.take_of_length_le (by omega)] at hown
          go_wp2_with fail
          go_ret
          exact ⟨_, rfl, hown, hb⟩

theorem oconcat1 (w : World) (g : Nat) (hg : g = w.heap.size) (A1 : Option Addr) (n1 c1 : Nat) (l1 : List Opr) (e1 : n1 = l1.length) (p1 : OS w w.heap.size A1 l1) (hn : l1.length * 48 ≤ 140737488355328) :
    Calls Tryz.prog 141 #[.slice (some ⟨g, 0, none⟩) 1 1] (w.alloc (.cells #[.slice A1 n1 c1] 38)) (RetRowO (w.alloc (.cells #[.slice A1 n1 c1] 38)) l1) := by
  subst hg e1
  have h := oconcat_any w.heap.size 0 1 [⟨A1, c1, l1⟩] (w.alloc (.cells #[.slice A1 l1.length c1] 38))
    ⟨by simp, fun j s hj => by
      match j with
      | 0 => simp at hj; subst hj; simp
      | j + 1 => simp at hj, fun s hs => by
      simp at hs
      subst hs
      exact (p1.go ((Below.refl _ w).alloc (Nat.le_refl _) _))⟩ (by simp [catO]; omega) (by simp)
  simpa [catO] using h
end Go.Proofs.YtefdipjhjgmokaaGreatDoor

set_option linter.unusedVariables false
set_option linter.unusedSimpArgs false
namespace Go.Proofs.YtefdipjhjgmokaaGreatDoor
open Go.RowKit

theorem cell_nw {w : World} {cs : Array Value} {t : TypeId} {g i : Nat} {v : Value} (hg : g = w.heap.size) (h : cs[i]? = some v) : (w.alloc (.cells cs t)).cell? ⟨g, i, none⟩ = some v := by
  subst hg; exact (Box.new w t cs).cell i h
theorem cell_ol {w : World} {o : Obj} {p : Addr} {v : Value} (hlt : p.block < w.heap.size) (h : w.cell? p = some v) : (w.alloc o).cell? p = some v := (((Below.refl w.heap.size w).alloc (Nat.le_refl _) o).cell hlt).trans h
theorem cell_dr {w : World} {p : Addr} {v : Value} (h : w.cell? p = some v) : w.drew.cell? p = some v := h
end Go.Proofs.YtefdipjhjgmokaaGreatDoor
