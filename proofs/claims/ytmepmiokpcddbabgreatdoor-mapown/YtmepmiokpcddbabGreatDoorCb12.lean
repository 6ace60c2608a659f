/-
  slices.Grow of nil and slices.Concat of two, at ints.
  slices.Concat of one and of three; parts of slices (of strings, of ints).
  Rows of one-cell values that are written (no body of the program in it).
  While a function makes a map of a map: its argument, its result (no body of the program in it).
-/
import Derived.Test.YtmepmiokpcddbabGreatDoorCb8
import Derived.Test.YtmepmiokpcddbabGreatDoorCb2
import Derived.Test.YtmepmiokpcddbabGreatDoorCb3
set_option linter.unusedVariables false
set_option linter.unusedSimpArgs false
namespace Go.Proofs.YtmepmiokpcddbabGreatDoor
open Go.RowKit

set_option maxHeartbeats 400000 in
set_option maxRecDepth 100000 in
theorem igrow_any (n : Nat) (w : World) (hn : n ≤ 1000000) :
    Calls Tryz.prog 127 #[.slice none 0 0, .int .i64 n] w fun e w' => ∃ v, e = .returned v ∧ w'.ownsRow w.heap.size 3 1 v 0 [] ∧ Below w.heap.size w w' := by
  have h1 : ¬ ((n : Int) < 0) := by omega
  rcases Nat.eq_zero_or_pos n with h0 | h0
  · subst h0
    go_enter Tryz.func127, Tryz.ntmps127
    go_wp2
    go_ret
    exact ⟨_, rfl, World.ownsRow_nil w _ _ _, Below.refl _ _⟩
  · obtain ⟨i0, hi, hz0, hz1, hz2⟩ := info_parts intInfo
    have hrz : ∀ ty, (Builtin.append_ #[26, 3] ty #[.slice none 0 0, .int .i64 n]).run Tryz.prog w = _ := fun ty =>
      Lib.run_append_grow_zeros w 26 3 ty 3 i0 _ .i64 .i64 Tryz.underlying26 Tryz.underlying3 hi hz0 none 0 0 [] (run_firstCells_none w.drew i0.size 0 0 0) n h0 (by omega) (by omega) (by omega) (by rw [hz2]; omega)
        (growslice_fits (by omega) (by rw [hz2]; omega))
    have hGn : 0 + n ≤ grownCap w (0 + n) 0 3 := grownCap_ge w _ _ _
    have hGm := grownCap_le_maxLen w (0 + n) 0 3 (by unfold maxLen; omega)
    generalize grownCap w (0 + n) 0 3 = G at hrz hGn hGm
    obtain ⟨cur, hcur, hcs⟩ : ∃ cur : Array Value, ((([] : List Value).toArray ++ Builtin.zeroCells (Value.int .i64 0).cells n ++ Builtin.zeroCells (Value.int .i64 0).cells (G - (0 + n)))) = cur ∧ cur.size = G * 1 := by
      refine ⟨_, rfl, ?_⟩
      simp only [Array.size_append, size_zeroCells]
      simp [Value.cells]
      omega
    rw [hcur] at hrz
    have hrz' := fun ty => hideP (hrz ty)
    clear hrz hcur
    have hb : Below w.heap.size w (w.drew.alloc (.cells cur 3)) := (Below.refl _ w).drew.alloc (Nat.le_refl _) _
    have hG : G ≤ 9223372036854775807 := by unfold maxLen at hGm; omega
    go_enter Tryz.func127, Tryz.ntmps127
    go_wp2_with (at_builtin; refine Lib.wpList_append_run _ rfl _ _ _ _ rfl _ _ rfl rfl _ _ (hrz' _).out ?_)
    go_ret
    exact ⟨_, rfl, ⟨rfl, .inr ⟨w.heap.size, G, cur, rfl, Nat.le_refl _, heap_alloc_new w.drew _, Nat.zero_le _, hGm, hcs, rfl⟩⟩, hb⟩
/-- a slice of ints: where, its capacity, what it reads as -/
structure Ili where
  A : Option Addr
  c : Nat
  l : List Int
def catI (ss : List Ili) : List Int := ss.flatMap (·.l)
theorem catI_take (ss : List Ili) (k : Nat) (h : k < ss.length) : catI (ss.take (k + 1)) = catI (ss.take k) ++ (ss[k]).l := by
  unfold catI; rw [List.take_succ_eq_append_getElem h, List.flatMap_append]; simp
theorem catI_le (ss : List Ili) (k : Nat) : (catI (ss.take k)).length ≤ (catI ss).length := by
  have : catI ss = catI (ss.take k) ++ catI (ss.drop k) := by unfold catI; rw [← List.flatMap_append, List.take_append_drop]
  rw [this, List.length_append]; omega
structure IlsI (w : World) (g o : Nat) (ss : List Ili) : Prop where
  lt : g < w.heap.size
  cell : ∀ j s, ss[j]? = some s → w.cell? ⟨g, o + j, none⟩ = some (.slice s.A s.l.length s.c)
  vs : ∀ s ∈ ss, VS w s.A (s.l.map (Value.int .i64))
def ICInv (w : World) (ss : List Ili) (v i : Value) (wr : World) : Prop :=
  ∃ (k : Nat) (A : Option Addr) (c : Nat), k ≤ ss.length ∧ i = .int .i64 k ∧ v = .slice A (catI (ss.take k)).length c ∧ OR wr w.heap.size 3 A c ((catI (ss.take k)).map (Value.int .i64)) ∧ Below w.heap.size w wr

set_option maxHeartbeats 400000 in
set_option maxRecDepth 100000 in
theorem iconcat_any (g o c : Nat) (ss : List Ili) (w : World) (hS : IlsI w g o ss) (hn : (catI ss).length ≤ 1000000) (hs : ss.length ≤ 1000) :
    Calls Tryz.prog 92 #[.slice (some ⟨g, o, none⟩) ss.length c] w fun e w' => ∃ A c, e = .returned (.slice A (catI ss).length c) ∧ OR w' w.heap.size 3 A c ((catI ss).map (Value.int .i64)) ∧ Below w.heap.size w w' := by
  go_enter Tryz.func92, Tryz.ntmps92
  go_wp2_with fail
  go_loop [3, 11] (fun z i => ∃ k : Nat, k ≤ ss.length ∧ i = .int .i64 k ∧ z = .int .i64 ((catI (ss.take k)).length : Nat)) (fun _ i => ss.length - (intOf i).toNat)
  case atStart => exact ⟨0, Nat.zero_le _, rfl, rfl⟩
  case round =>
    obtain ⟨k, hk, rfl, rfl⟩ := hrel
    by_cases hlt : k < ss.length
    · have c1 := hS.cell k _ (List.getElem?_eq_getElem hlt)
      have h1 := catI_le ss (k + 1)
      have h2 := hideP (show (catI (ss.take (k + 1))).length = (catI (ss.take k)).length + (ss[k]).l.length by rw [catI_take ss k hlt, List.length_append])
      rw [catI_take ss k hlt, List.length_append] at h1
      generalize ss[k] = s at c1 h1 h2
      generalize (catI (ss.take k)).length = z at h1 h2 ⊢
      go_wp2_with fail
      go_round
      case rel => exact ⟨k + 1, by omega, by go_num, by rw [h2.out]; go_num⟩
      case measure => simp [intOf]; omega
    · have hz : (catI (ss.take k)).length = (catI ss).length := by rw [List.take_of_length_le (by omega)]
      rw [hz]
      clear hz
      go_wp2_with fail
      refine (igrow_any _ _ (by omega)).mono ?_
      rintro e w0 ⟨v0, rfl, hown0, hb0⟩
      obtain ⟨A0, c0, rfl, hO0⟩ := OR.of_own hown0
      go_wp2_with fail
      go_loopw [6, 27] (ICInv w ss) (fun _ i _ => ss.length - (intOf i).toNat)
      case atStart => exact ⟨0, A0, c0, Nat.zero_le _, rfl, rfl, hO0, hb0⟩
      case round =>
        obtain ⟨k, Ak, ck, hk, rfl, rfl, hown, hb⟩ := hrel
        by_cases hlt : k < ss.length
        · have c1 := (hb.cell (p := ⟨g, o + k, none⟩) hS.lt).trans (hS.cell k _ (List.getElem?_eq_getElem hlt))
          have hvs := (hS.vs _ (List.getElem_mem hlt)).below hb
          have hle := catI_le ss (k + 1)
          rw [catI_take ss k hlt, List.length_append] at hle
          obtain ⟨A', c', w1, hrun, hown', hg'⟩ := app_srcS (P := Tryz.prog) Tryz.underlying26 intInfo rfl wr w.heap.size 26 Ak ck _ hown (ss[k]).A (ss[k]).c _ hvs (by intro u hu; obtain ⟨x, _, rfl⟩ := List.mem_map.1 hu; rfl) (by simp; omega) (by decide) hb.size
          have hb1 : Below w.heap.size w w1 := hb.grown hg' hb.size (fun j hj => (World.ownsRow.lt hown j hj).1)
          rw [← List.map_append, ← catI_take ss k hlt] at hrun hown'
          simp only [List.length_map] at hrun
          have HR := hideP hrun
          clear hrun hown hvs hS hg'
          generalize ss[k] = s at c1 HR hle
          go_wp2_with (at_builtin; refine Lib.wpList_append_run _ rfl _ _ _ _ rfl _ _ rfl rfl _ _ HR.out ?_)
          go_roundw
          case rel => exact ⟨k + 1, A', c', by omega, by go_num, rfl, hown', hb1⟩
          case measure => simp [intOf]; omega
        · rw [List.take_of_length_le (by omega)] at hown ⊢
          go_wp2_with fail
          go_ret
          exact ⟨Ak, ck, rfl, hown, hb⟩
theorem iconcat2 (w : World) (g : Nat) (hg : g = w.heap.size) (A1 A2 : Option Addr) (n1 n2 c1 c2 : Nat) (l1 l2 : List Int) (e1 : n1 = l1.length) (e2 : n2 = l2.length)
    (p1 : VS w A1 (l1.map (Value.int .i64))) (p2 : VS w A2 (l2.map (Value.int .i64))) (hn : l1.length + l2.length ≤ 1000000) :
    Calls Tryz.prog 92 #[.slice (some ⟨g, 0, none⟩) 2 2] (w.alloc (.cells #[.slice A1 n1 c1, .slice A2 n2 c2] 26)) fun e w' => ∃ A c, e = .returned (.slice A (l1 ++ l2).length c) ∧ OR w' w.heap.size 3 A c ((l1 ++ l2).map (Value.int .i64)) ∧ Below w.heap.size w w' := by
  subst hg e1 e2
  have hb := (Below.refl w.heap.size w).alloc (Nat.le_refl _) (.cells #[.slice A1 l1.length c1, .slice A2 l2.length c2] 26)
  have h := iconcat_any w.heap.size 0 2 [⟨A1, c1, l1⟩, ⟨A2, c2, l2⟩] (w.alloc (.cells #[.slice A1 l1.length c1, .slice A2 l2.length c2] 26))
    ⟨by simp, fun j s hj => by
      match j with
      | 0 => simp at hj; subst hj; simp
      | 1 => simp at hj; subst hj; simp
      | j + 2 => simp at hj, fun s hs => by
      simp at hs
      rcases hs with rfl | rfl
      · exact p1.below hb
      · exact p2.below hb⟩ (by simp [catI]; omega) (by simp)
  have e : catI [⟨A1, c1, l1⟩, ⟨A2, c2, l2⟩] = l1 ++ l2 := by simp [catI]
  rw [e] at h
  exact h.mono fun e w' ⟨A, c, h1, h2, h3⟩ => ⟨A, c, h1, h2.mono hb.size, hb.trans (h3.mono hb.size)⟩
end Go.Proofs.YtmepmiokpcddbabGreatDoor

set_option linter.unusedVariables false
set_option linter.unusedSimpArgs false
namespace Go.Proofs.YtmepmiokpcddbabGreatDoor
open Go.RowKit

theorem iconcat1 (w : World) (g : Nat) (hg : g = w.heap.size) (A1 : Option Addr) (n1 c1 : Nat) (l1 : List Int) (e1 : n1 = l1.length)
    (p1 : VS w A1 (l1.map (Value.int .i64))) (hn : l1.length ≤ 1000000) :
    Calls Tryz.prog 92 #[.slice (some ⟨g, 0, none⟩) 1 1] (w.alloc (.cells #[.slice A1 n1 c1] 26)) fun e w' => ∃ A c, e = .returned (.slice A l1.length c) ∧ OR w' w.heap.size 3 A c (l1.map (Value.int .i64)) ∧ Below w.heap.size w w' := by
  subst hg e1
  have hb := (Below.refl w.heap.size w).alloc (Nat.le_refl _) (.cells #[.slice A1 l1.length c1] 26)
  have h := iconcat_any w.heap.size 0 1 [⟨A1, c1, l1⟩] (w.alloc (.cells #[.slice A1 l1.length c1] 26))
    ⟨by simp, fun j s hj => by
      match j with
      | 0 => simp at hj; subst hj; simp
      | j + 1 => simp at hj, fun s hs => by
      simp at hs
      subst hs
      exact p1.below hb⟩ (by simp [catI]; omega) (by simp)
  have e : catI [⟨A1, c1, l1⟩] = l1 := by simp [catI]
  rw [e] at h
  exact h.mono fun e w' ⟨A, c, h1, h2, h3⟩ => ⟨A, c, h1, h2.mono hb.size, hb.trans (h3.mono hb.size)⟩
theorem sconcat1 (w : World) (g : Nat) (hg : g = w.heap.size) (A1 : Option Addr) (n1 c1 : Nat) (l1 : List ByteArray) (e1 : n1 = l1.length)
    (p1 : VS w A1 (l1.map Value.string)) (hn : l1.length ≤ 1000000) :
    Calls Tryz.prog 91 #[.slice (some ⟨g, 0, none⟩) 1 1] (w.alloc (.cells #[.slice A1 n1 c1] 25)) fun e w' => ∃ A c, e = .returned (.slice A l1.length c) ∧ OR w' w.heap.size 9 A c (l1.map Value.string) ∧ Below w.heap.size w w' := by
  subst hg e1
  have hb := (Below.refl w.heap.size w).alloc (Nat.le_refl _) (.cells #[.slice A1 l1.length c1] 25)
  have h := sconcat_any w.heap.size 0 1 [⟨A1, c1, l1⟩] (w.alloc (.cells #[.slice A1 l1.length c1] 25))
    ⟨by simp, fun j s hj => by
      match j with
      | 0 => simp at hj; subst hj; simp
      | j + 1 => simp at hj, fun s hs => by
      simp at hs
      subst hs
      exact p1.below hb⟩ (by simp [catS]; omega) (by simp)
  have e : catS [⟨A1, c1, l1⟩] = l1 := by simp [catS]
  rw [e] at h
  exact h.mono fun e w' ⟨A, c, h1, h2, h3⟩ => ⟨A, c, h1, h2.mono hb.size, hb.trans (h3.mono hb.size)⟩
/-- three slices of strings that lie in a slice -/
theorem sconcat3 (w : World) (g : Nat) (A1 A2 A3 : Option Addr) (c1 c2 c3 : Nat) (l1 l2 l3 : List ByteArray) (hlt : g < w.heap.size)
    (k1 : w.cell? ⟨g, 0, none⟩ = some (.slice A1 l1.length c1)) (k2 : w.cell? ⟨g, 1, none⟩ = some (.slice A2 l2.length c2)) (k3 : w.cell? ⟨g, 2, none⟩ = some (.slice A3 l3.length c3))
    (p1 : VS w A1 (l1.map Value.string)) (p2 : VS w A2 (l2.map Value.string)) (p3 : VS w A3 (l3.map Value.string)) (hn : l1.length + (l2.length + l3.length) ≤ 1000000) :
    Calls Tryz.prog 91 #[.slice (some ⟨g, 0, none⟩) 3 3] w fun e w' => ∃ A c, e = .returned (.slice A (l1 ++ (l2 ++ l3)).length c) ∧ OR w' w.heap.size 9 A c ((l1 ++ (l2 ++ l3)).map Value.string) ∧ Below w.heap.size w w' := by
  have h := sconcat_any g 0 3 [⟨A1, c1, l1⟩, ⟨A2, c2, l2⟩, ⟨A3, c3, l3⟩] w
    ⟨hlt, fun j s hj => by
      match j with
      | 0 => simp at hj; subst hj; exact k1
      | 1 => simp at hj; subst hj; exact k2
      | 2 => simp at hj; subst hj; exact k3
      | j + 3 => simp at hj, fun s hs => by
      simp at hs
      rcases hs with rfl | rfl | rfl
      · exact p1
      · exact p2
      · exact p3⟩ (by simp [catS]; omega) (by simp)
  have e : catS [⟨A1, c1, l1⟩, ⟨A2, c2, l2⟩, ⟨A3, c3, l3⟩] = l1 ++ (l2 ++ l3) := by simp [catS]
  rw [e] at h
  exact h
/-- two slices of ints that lie in a slice -/
theorem iconcat2_at (w : World) (g : Nat) (A1 A2 : Option Addr) (c1 c2 : Nat) (l1 l2 : List Int) (hlt : g < w.heap.size)
    (k1 : w.cell? ⟨g, 0, none⟩ = some (.slice A1 l1.length c1)) (k2 : w.cell? ⟨g, 1, none⟩ = some (.slice A2 l2.length c2))
    (p1 : VS w A1 (l1.map (Value.int .i64))) (p2 : VS w A2 (l2.map (Value.int .i64))) (hn : l1.length + l2.length ≤ 1000000) :
    Calls Tryz.prog 92 #[.slice (some ⟨g, 0, none⟩) 2 2] w fun e w' => ∃ A c, e = .returned (.slice A (l1 ++ l2).length c) ∧ OR w' w.heap.size 3 A c ((l1 ++ l2).map (Value.int .i64)) ∧ Below w.heap.size w w' := by
  have h := iconcat_any g 0 2 [⟨A1, c1, l1⟩, ⟨A2, c2, l2⟩] w
    ⟨hlt, fun j s hj => by
      match j with
      | 0 => simp at hj; subst hj; exact k1
      | 1 => simp at hj; subst hj; exact k2
      | j + 2 => simp at hj, fun s hs => by
      simp at hs
      rcases hs with rfl | rfl
      · exact p1
      · exact p2⟩ (by simp [catI]; omega) (by simp)
  have e : catI [⟨A1, c1, l1⟩, ⟨A2, c2, l2⟩] = l1 ++ l2 := by simp [catI]
  rw [e] at h
  exact h
/-- a slice up to a place -/
theorem slice_uptoS (T : Option Addr) (n ct m : Nat) (hm : m ≤ ct) (hn : T = none → ct = 0) (w : World) : (Instr.slice 25 (.slice T n ct) none (some (.int .i64 (m : Int))) none).run Tryz.prog w = .ok (.slice T m ct) w := by
  cases T with
  | none =>
    have := hn rfl
    subst this
    obtain rfl : m = 0 := by omega
    go_simp
  | some a =>
    obtain ⟨b, o, s⟩ := a
    have g0 : (0 : Int) ≤ (m : Int) := by omega
    have g1 : (m : Int) ≤ (ct : Int) := by omega
    go_simp
theorem slice_uptoI (T : Option Addr) (n ct m : Nat) (hm : m ≤ ct) (hn : T = none → ct = 0) (w : World) : (Instr.slice 26 (.slice T n ct) none (some (.int .i64 (m : Int))) none).run Tryz.prog w = .ok (.slice T m ct) w := by
  cases T with
  | none =>
    have := hn rfl
    subst this
    obtain rfl : m = 0 := by omega
    go_simp
  | some a =>
    obtain ⟨b, o, s⟩ := a
    have g0 : (0 : Int) ≤ (m : Int) := by omega
    have g1 : (m : Int) ≤ (ct : Int) := by omega
    go_simp
theorem slice_someS (b o n ct m : Nat) (hm : m ≤ n) (hc : n ≤ ct) (w : World) : (Instr.slice 25 (.slice (some ⟨b, o, none⟩) n ct) (some (.int .i64 (m : Int))) none none).run Tryz.prog w = .ok (.slice (if ct = m then some ⟨b, o, none⟩ else some ⟨b, o + m, none⟩) (n - m) (ct - m)) w := by
  have g0 : (0 : Int) ≤ (m : Int) := by omega
  have g1 : (m : Int) ≤ (n : Int) := by omega
  have g2 : (n : Int) ≤ (ct : Int) := by omega
  by_cases e : ct = m
  · subst e
    obtain rfl : n = ct := by omega
    clear hm hc
    go_simp
  · rw [if_neg e]
    go_simp
/-- a slice from a place on -/
theorem slice_fromS {T : Option Addr} {ct m : Nat} {l : List ByteArray} {w : World} (hI : VS w T (l.map Value.string)) (hm : m ≤ l.length) (hc : l.length ≤ ct) (hn : T = none → ct = 0) :
    ∃ T', (∀ w, (Instr.slice 25 (.slice T l.length ct) (some (.int .i64 (m : Int))) none none).run Tryz.prog w = .ok (.slice T' (l.length - m) (ct - m)) w) ∧ VS w T' ((l.drop m).map Value.string) ∧ (∀ w', VS w' T (l.map Value.string) → VS w' T' ((l.drop m).map Value.string)) := by
  cases T with
  | none =>
    have := hn rfl
    subst this
    have h0 : l = [] := List.length_eq_zero_iff.1 (by omega)
    subst h0
    obtain rfl : m = 0 := by simpa using hm
    exact ⟨none, fun w => by go_simp, by simpa using hI, fun w' h => by simpa using h⟩
  | some a =>
    rcases Nat.eq_zero_or_pos l.length with h0 | h0
    · have h1 : l = [] := List.length_eq_zero_iff.1 h0
      subst h1
      obtain rfl : m = 0 := by simpa using hm
      refine ⟨some a, fun w => ?_, by simpa using hI, fun w' h => by simpa using h⟩
      obtain ⟨b, o, s⟩ := a
      by_cases e : ct = 0
      · subst e; go_simp
      · have : (0 : Int) ≤ (ct : Int) := by omega
        cases s <;> go_simp
    · obtain ⟨b, o, e0, _⟩ := hI 0 (.string l[0]) (by simp [h0])
      injection e0 with e0
      subst e0
      refine ⟨_, fun w => slice_someS b o l.length ct m hm hc w, ?_⟩
      have key : ∀ w', VS w' (some ⟨b, o, none⟩) (l.map Value.string) → VS w' (if ct = m then some ⟨b, o, none⟩ else some ⟨b, o + m, none⟩) ((l.drop m).map Value.string) := fun w' h => by
        by_cases e : ct = m
        · rw [if_pos e, List.drop_of_length_le (by omega)]; exact VS.nil
        · rw [if_neg e, List.map_drop]; exact h.drop_ m
      exact ⟨key _ hI, key⟩
end Go.Proofs.YtmepmiokpcddbabGreatDoor

set_option linter.unusedVariables false
set_option linter.unusedSimpArgs false
namespace Go.Proofs.YtmepmiokpcddbabGreatDoor
open Go.RowKit

/-- a place of a row of one-cell values of one's own is written -/
theorem OR.set_ {w : World} {B : Nat} {t : TypeId} {g c : Nat} {xs : List Value} (h : OR w B t (some ⟨g, 0, none⟩) c xs) {k : Nat} (hk : k < xs.length) (v : Value) : OR (w.setCell ⟨g, k, none⟩ v) B t (some ⟨g, 0, none⟩) c (xs.set k v) := by
  rcases h.2 with ⟨hv, _⟩ | ⟨g', cap', cur, hv, h1, hb, h3, h4, h5, h6⟩
  · cases hv
  · injection hv with e1 _ e3
    injection e1 with e1
    injection e1 with e1 _ _
    subst e1; subst e3
    have hbx : Box w g t cur := hb
    unfold OR
    rw [List.length_set]
    refine ⟨by rw [List.length_set]; omega, .inr ⟨g, c, cur.setIfInBounds k v, rfl, h1, hbx.set k v, h3, h4, by simp [h5], ?_⟩⟩
    rw [Array.toList_setIfInBounds, List.take_set, h6]
theorem OR.frozen_ {w : World} {B : Nat} {t : TypeId} {g c : Nat} {xs : List Value} (h : OR w B t (some ⟨g, 0, none⟩) c xs) (k : Nat) : w.frozen? ⟨g, k, none⟩ = false := by
  rcases h.2 with ⟨hv, _⟩ | ⟨g', cap', cur, hv, h1, hb, _⟩
  · cases hv
  · injection hv with e1 _ e3
    injection e1 with e1
    injection e1 with e1 _ _
    subst e1
    exact Box.frozen (show Box w g t cur from hb) k
end Go.Proofs.YtmepmiokpcddbabGreatDoor

set_option linter.unusedVariables false
set_option linter.unusedSimpArgs false
namespace Go.Proofs.YtmepmiokpcddbabGreatDoor
open Go.RowKit

/-- while a function runs that makes a map of a map -/
structure RH (w : World) (g : Nat) (m : Mp) (wr : World) : Prop where
  mh : MH w g m wr
  ms0 : MS w m
  res : Box wr (g + 1) 28 #[.slice none 0 0, .slice none 0 0]
  low : w.heap.size ≤ g
theorem RH.below {w wr w' : World} {g : Nat} {m : Mp} (h : RH w g m wr) (hb : Below wr.heap.size wr w') : RH w g m w' := ⟨h.mh.below hb, h.ms0, h.res.below hb, h.low⟩
theorem RH.alloc {w wr : World} {g : Nat} {m : Mp} {o : Obj} (h : RH w g m wr) : RH w g m (wr.alloc o) := h.below ((Below.refl _ _).alloc (Nat.le_refl _) _)
theorem RH.drew {w wr : World} {g : Nat} {m : Mp} (h : RH w g m wr) : RH w g m wr.drew := h.below (Below.refl _ _).drew
theorem RH.new {w : World} {m : Mp} (hm : MS w m) : RH w w.heap.size m ((w.alloc (.cells #[.slice m.A m.cs.length m.ca, .slice m.O m.os.length m.co] 28)).alloc (.cells #[.slice none 0 0, .slice none 0 0] 28)) := by
  have x1 := Box.new (w.alloc (.cells #[.slice m.A m.cs.length m.ca, .slice m.O m.os.length m.co] 28)) 28 #[.slice none 0 0, .slice none 0 0]
  simp only [World.size_alloc] at x1
  exact ⟨(MH.new hm).below ((Below.refl _ _).alloc (Nat.le_refl _) _), hm, x1, Nat.le_refl _⟩
/-- another block is written -/
theorem RH.other {w wr : World} {g : Nat} {m : Mp} (h : RH w g m wr) {b i : Nat} {v : Value} (hb : g + 1 < b) : RH w g m (wr.setCell ⟨b, i, none⟩ v) := by
  have hl := h.low
  have hbe : Below w.heap.size w (wr.setCell ⟨b, i, none⟩ v) := below_set h.mh.be (by omega)
  exact ⟨⟨h.mh.x0.other (by show b ≠ g; omega) _, h.ms0.below hbe, hbe⟩, h.ms0, h.res.other (by show b ≠ g + 1; omega) _, h.low⟩
/-- the end where an error is handed back -/
structure RE (w : World) (g : Nat) (wr : World) : Prop where
  f0 : wr.frozen? ⟨g + 1, 0, none⟩ = false
  f1 : (wr.setCell ⟨g + 1, 0, none⟩ (.slice none 0 0)).frozen? ⟨g + 1, 1, none⟩ = false
  d0 : wr.cell? ⟨g + 1, 0, none⟩ = some (.slice none 0 0)
  d1 : (wr.setCell ⟨g + 1, 0, none⟩ (.slice none 0 0)).cell? ⟨g + 1, 1, none⟩ = some (.slice none 0 0)
  q0 : ((wr.setCell ⟨g + 1, 0, none⟩ (.slice none 0 0)).setCell ⟨g + 1, 1, none⟩ (.slice none 0 0)).cell? ⟨g + 1, 0, none⟩ = some (.slice none 0 0)
  q1 : ((wr.setCell ⟨g + 1, 0, none⟩ (.slice none 0 0)).setCell ⟨g + 1, 1, none⟩ (.slice none 0 0)).cell? ⟨g + 1, 1, none⟩ = some (.slice none 0 0)
  fin : MO ((wr.setCell ⟨g + 1, 0, none⟩ (.slice none 0 0)).setCell ⟨g + 1, 1, none⟩ (.slice none 0 0)) w.heap.size noM ∧ Below w.heap.size w ((wr.setCell ⟨g + 1, 0, none⟩ (.slice none 0 0)).setCell ⟨g + 1, 1, none⟩ (.slice none 0 0))
theorem RH.re {w wr : World} {g : Nat} {m : Mp} (h : RH w g m wr) : RE w g wr :=
  have r := (h.res.set 0 (.slice none 0 0)).set 1 (.slice none 0 0)
  ⟨h.res.frozen 0, (h.res.set 0 (.slice none 0 0)).frozen 1, h.res.cell 0 rfl, (h.res.set 0 (.slice none 0 0)).cell 1 rfl, r.cell 0 rfl, r.cell 1 rfl, res_set (n := noM) h.res (by have := h.low; omega) (noM_mo _ _) h.mh.be _ _⟩
/-- the end where a map is handed back -/
structure RF (w : World) (g : Nat) (n : Mp) (wr : World) : Prop where
  f0 : wr.frozen? ⟨g + 1, 0, none⟩ = false
  f1 : (wr.setCell ⟨g + 1, 0, none⟩ (.slice n.A n.cs.length n.ca)).frozen? ⟨g + 1, 1, none⟩ = false
  d0 : wr.cell? ⟨g + 1, 0, none⟩ = some (.slice none 0 0)
  d1 : (wr.setCell ⟨g + 1, 0, none⟩ (.slice n.A n.cs.length n.ca)).cell? ⟨g + 1, 1, none⟩ = some (.slice none 0 0)
  q0 : ((wr.setCell ⟨g + 1, 0, none⟩ (.slice n.A n.cs.length n.ca)).setCell ⟨g + 1, 1, none⟩ (.slice n.O n.os.length n.co)).cell? ⟨g + 1, 0, none⟩ = some (.slice n.A n.cs.length n.ca)
  q1 : ((wr.setCell ⟨g + 1, 0, none⟩ (.slice n.A n.cs.length n.ca)).setCell ⟨g + 1, 1, none⟩ (.slice n.O n.os.length n.co)).cell? ⟨g + 1, 1, none⟩ = some (.slice n.O n.os.length n.co)
  fin : MO ((wr.setCell ⟨g + 1, 0, none⟩ (.slice n.A n.cs.length n.ca)).setCell ⟨g + 1, 1, none⟩ (.slice n.O n.os.length n.co)) w.heap.size n ∧ Below w.heap.size w ((wr.setCell ⟨g + 1, 0, none⟩ (.slice n.A n.cs.length n.ca)).setCell ⟨g + 1, 1, none⟩ (.slice n.O n.os.length n.co))
theorem RH.rf {w wr : World} {g : Nat} {m n : Mp} (h : RH w g m wr) (hn : MO wr w.heap.size n) : RF w g n wr :=
  have r := (h.res.set 0 (.slice n.A n.cs.length n.ca)).set 1 (.slice n.O n.os.length n.co)
  ⟨h.res.frozen 0, (h.res.set 0 (.slice n.A n.cs.length n.ca)).frozen 1, h.res.cell 0 rfl, (h.res.set 0 (.slice n.A n.cs.length n.ca)).cell 1 rfl, r.cell 0 rfl, r.cell 1 rfl, res_set h.res (by have := h.low; omega) hn h.mh.be _ _⟩
end Go.Proofs.YtmepmiokpcddbabGreatDoor
