/-
  parts.New and Map.
  slices.Grow of nil, and slices.Concat, at pairs.
  (*parts.Parts).Part.
-/
import Derived.Test.YtpefdonhacmaoaaGreatBd10
import Derived.Test.YtpefdonhacmaoaaGreatBd12
import Derived.Test.YtpefdonhacmaoaaGreatBd8
import Derived.WalkKit
import Derived.WalkSpells
import Derived.WalkLawsBesides
import Derived.Test.YtpefdonhacmaoaaGreatBd7
set_option linter.unusedVariables false
set_option linter.unusedSimpArgs false
namespace Go.Proofs.YtpefdonhacmaoaaGreat
open Go.RowKit

/-- while New runs -/
structure NwH (w : World) (g : Nat) (m : Mp) (l : List Pr) (q : Dv) (wr : World) : Prop where
  mh : MH w g m wr
  own : q.Own wr w.heap.size m.cs m.os l 4
  low : w.heap.size ≤ g
theorem NwH.below {w wr w' : World} {g : Nat} {m : Mp} {l : List Pr} {q : Dv} (h : NwH w g m l q wr) (hb : Below wr.heap.size wr w') : NwH w g m l q w' := ⟨h.mh.below hb, h.own.below hb, h.low⟩
/-- a partitioned store is handed back -/
def RetNw (w : World) (cs : List ByteArray) (os : List Int) (l : List Pr) (e : Ending) (w' : World) : Prop :=
  ∃ (g : Nat) (A : Option Addr) (ca : Nat) (O : Option Addr) (co : Nat) (q : Dv), e = .returned (.tuple #[.pointer (some ⟨g, 0, none⟩), .int .i64 0]) ∧ PB w' w.heap.size g ⟨A, ca, cs, O, co, os⟩ l q ∧ Below w.heap.size w w'

set_option maxHeartbeats 2000000 in
set_option maxRecDepth 100000 in
theorem new_ok (m : Mp) (A : Option Addr) (c : Nat) (l : List Pr) (w : World) (hm : MS w m) (hA : PS w w.heap.size A l) (hok : OkM m.cs m.os) (hokl : Ok l) :
    Calls Tryz.prog 6 #[.agg #[.slice m.A m.cs.length m.ca, .slice m.O m.os.length m.co], .slice A l.length c] w (RetNw w m.cs m.os l) := by
  have hH := MH.new hm
  have hps := (hA.below hH.be).more hH.be.size
  obtain ⟨z1, z2⟩ := hH.c
  go_enter Tryz.func6, Tryz.ntmps6
  go_wp2_with fail
  generalize w.alloc _ = w1 at hH hps z1 z2 ⊢
  generalize hg : w.heap.size = g at hH z1 z2 ⊢
  refine (divide_ok m A c l _ hH.ms hps hok hokl).mono ?_
  rintro e w2 ⟨q, rfl, hq, hb2⟩
  have hN : NwH w g m l q w2 := ⟨hH.below hb2, hq.mono hH.be.size, by omega⟩
  clear hH hps hb2 z1 z2 hq hA
  simp only [Dv.ar]
  obtain ⟨a0, n0, c0, e0⟩ : ∃ a n c, q.s m.cs m.os l 0 = .slice a n c := ⟨_, _, _, rfl⟩
  obtain ⟨a1, n1, c1, e1⟩ : ∃ a n c, q.s m.cs m.os l 1 = .slice a n c := ⟨_, _, _, rfl⟩
  obtain ⟨a2, n2, c2, e2⟩ : ∃ a n c, q.s m.cs m.os l 2 = .slice a n c := ⟨_, _, _, rfl⟩
  obtain ⟨a3, n3, c3, e3⟩ : ∃ a n c, q.s m.cs m.os l 3 = .slice a n c := ⟨_, _, _, rfl⟩
  rw [e0, e1, e2, e3]
  have HE := hideP (show q.s m.cs m.os l 0 = .slice a0 n0 c0 ∧ q.s m.cs m.os l 1 = .slice a1 n1 c1 ∧ q.s m.cs m.os l 2 = .slice a2 n2 c2 ∧ q.s m.cs m.os l 3 = .slice a3 n3 c3 from ⟨e0, e1, e2, e3⟩)
  clear e0 e1 e2 e3
  have hN3 := hN.below ((Below.refl _ _).alloc (Nat.le_refl _) (.cells #[.slice a0 n0 c0, .slice a1 n1 c1, .slice a2 n2 c2, .slice a3 n3 c3] 94))
  have y := Box.new w2 94 #[.slice a0 n0 c0, .slice a1 n1 c1, .slice a2 n2 c2, .slice a3 n3 c3]
  clear hN
  go_wp2_with fail
  generalize w2.alloc _ = w3 at hN3 y ⊢
  generalize w2.heap.size = gd at y ⊢
  have HS := hideP (fun (W : World) (h : NwH w g m l q W) (y : Box W gd 94 #[.slice a0 n0 c0, .slice a1 n1 c1, .slice a2 n2 c2, .slice a3 n3 c3]) =>
    show (W.cell? ⟨g, 0, none⟩ = some (.slice m.A m.cs.length m.ca) ∧ W.cell? ⟨g, 1, none⟩ = some (.slice m.O m.os.length m.co)) ∧ W.cell? ⟨gd, 0, none⟩ = some (.slice a0 n0 c0) ∧ W.cell? ⟨gd, 1, none⟩ = some (.slice a1 n1 c1) ∧ W.cell? ⟨gd, 2, none⟩ = some (.slice a2 n2 c2) ∧ W.cell? ⟨gd, 3, none⟩ = some (.slice a3 n3 c3) from
      ⟨h.mh.c, y.cell 0 rfl, y.cell 1 rfl, y.cell 2 rfl, y.cell 3 rfl⟩)
  have HCL := hideP (fun (W : World) (h : NwH w g m l q W) => clone_any m W h.mh.ms (by have := hok.few; omega) (by have := hok.few; have := hok.len; omega))
  have HFIN := hideP (fun (W : World) (h : NwH w g m l q W) (A' : Option Addr) (ca' : Nat) (O' : Option Addr) (co' : Nat) (hn : MO W w.heap.size ⟨A', ca', m.cs, O', co', m.os⟩) =>
    show RetNw w m.cs m.os l (.returned (.tuple #[.pointer (some ⟨W.heap.size, 0, none⟩), .int .i64 0])) (W.alloc (.cells #[.slice A' m.cs.length ca', .slice O' m.os.length co', .slice a0 n0 c0, .slice a1 n1 c1, .slice a2 n2 c2, .slice a3 n3 c3] 99)) from by
      have hb := (Below.refl W.heap.size W).alloc (Nat.le_refl _) (.cells #[.slice A' m.cs.length ca', .slice O' m.os.length co', .slice a0 n0 c0, .slice a1 n1 c1, .slice a2 n2 c2, .slice a3 n3 c3] 99)
      refine ⟨W.heap.size, A', ca', O', co', q, rfl, ⟨?_, hn.below hb, h.own.below hb, hok, hokl, h.mh.be.size⟩, h.mh.be.trans (hb.mono h.mh.be.size)⟩
      obtain ⟨e0, e1, e2, e3⟩ := HE.out
      simp only [e0, e1, e2, e3]
      exact Box.new _ _ _)
  replace hN3 := hN3.below (Below.refl _ _).drew
  replace y := y.drew
  have hlow := hN3.low
  clear HE hok hokl
  go_region_held3 (fun W => (W.cell? ⟨g, 0, none⟩ = some (.slice m.A m.cs.length m.ca) ∧ W.cell? ⟨g, 1, none⟩ = some (.slice m.O m.os.length m.co)) ∧ W.cell? ⟨gd, 0, none⟩ = some (.slice a0 n0 c0) ∧ W.cell? ⟨gd, 1, none⟩ = some (.slice a1 n1 c1) ∧ W.cell? ⟨gd, 2, none⟩ = some (.slice a2 n2 c2) ∧ W.cell? ⟨gd, 3, none⟩ = some (.slice a3 n3 c3)) (first | with_reducible exact HS.out _ hN4 y4 | with_reducible exact HS.out _ hN3 y | with_reducible exact hS5) (first
    | (go_at_call 51; refine (HCL.out _ hN3).mono ?_; rintro e w4 ⟨A', ca', O', co', rfl, hn, hb4⟩; have hN4 := hN3.below hb4; have y4 := y.below hb4; have HF := hideP (HFIN.out w4 hN4 A' ca' O' co' (hn.mono hN3.mh.be.size)); have hS5 := HS.out _ (hN4.below ((Below.refl _ _).alloc (Nat.le_refl _) (.cells #[.slice A' m.cs.length ca', .slice O' m.os.length co', .slice a0 n0 c0, .slice a1 n1 c1, .slice a2 n2 c2, .slice a3 n3 c3] 99))) (y4.alloc _)))
  all_goals
    go_wp2_with fail
    go_ret2
    exact HF.out
end Go.Proofs.YtpefdonhacmaoaaGreat

set_option linter.unusedVariables false
set_option linter.unusedSimpArgs false
namespace Go.Proofs.YtpefdonhacmaoaaGreat
open Go.RowKit

set_option maxHeartbeats 400000 in
set_option maxRecDepth 100000 in
theorem grow_any (n : Nat) (w : World) (hn : n * 24 ≤ 140737488355328) :
    Calls Tryz.prog 88 #[.slice none 0 0, .int .i64 n] w fun e w' => ∃ v, e = .returned v ∧ w'.ownsRow w.heap.size 51 2 v 0 [] ∧ Below w.heap.size w w' := by
  have h1 : ¬ ((n : Int) < 0) := by omega
  rcases Nat.eq_zero_or_pos n with h0 | h0
  · subst h0
    go_enter Tryz.func88, Tryz.ntmps88
    go_wp2
    go_ret
    exact ⟨_, rfl, World.ownsRow_nil w _ _ _, Below.refl _ _⟩
  · obtain ⟨i0, hi, hz0, hz1, hz2⟩ := info_parts pairInfo
    have hrz : ∀ ty, (Builtin.append_ #[33, 3] ty #[.slice none 0 0, .int .i64 n]).run Tryz.prog w = _ := fun ty =>
      Lib.run_append_grow_zeros w 33 3 ty 51 i0 _ .i64 .i64 Tryz.underlying33 Tryz.underlying3 hi hz0 none 0 0 [] (run_firstCells_none w.drew i0.size 0 0 0) n h0 (by omega) (by omega) (by omega) (by rw [hz2]; omega)
        (growslice_fits (by omega) (by rw [hz2]; omega))
    have hGn : 0 + n ≤ grownCap w (0 + n) 0 51 := grownCap_ge w _ _ _
    have hGm := grownCap_le_maxLen w (0 + n) 0 51 (by unfold maxLen; omega)
    generalize grownCap w (0 + n) 0 51 = G at hrz hGn hGm
    obtain ⟨cur, hcur, hcs⟩ : ∃ cur : Array Value, ((([] : List Value).toArray ++ Builtin.zeroCells (Value.agg #[.string ByteArray.empty, .int .i64 0]).cells n ++ Builtin.zeroCells (Value.agg #[.string ByteArray.empty, .int .i64 0]).cells (G - (0 + n)))) = cur ∧ cur.size = G * 2 := by
      refine ⟨_, rfl, ?_⟩
      simp only [Array.size_append, size_zeroCells]
      simp [Value.cells]
      omega
    rw [hcur] at hrz
    have hrz' := fun ty => hideP (hrz ty)
    clear hrz hcur
    have hb : Below w.heap.size w (w.drew.alloc (.cells cur 51)) := (Below.refl _ w).drew.alloc (Nat.le_refl _) _
    have hG : G ≤ 9223372036854775807 := by unfold maxLen at hGm; omega
    go_enter Tryz.func88, Tryz.ntmps88
    go_wp2_with (at_builtin; refine Lib.wpList_append_run _ rfl _ _ _ _ rfl _ _ rfl rfl _ _ (hrz' _).out ?_)
    go_ret
    exact ⟨_, rfl, ⟨rfl, .inr ⟨w.heap.size, G, cur, rfl, Nat.le_refl _, heap_alloc_new w.drew _, Nat.zero_le _, hGm, hcs, rfl⟩⟩, hb⟩
/-- a slice of pairs: where, its capacity, what it reads as -/
structure Sl where
  A : Option Addr
  c : Nat
  l : List Pr
def catL (ss : List Sl) : List Pr := ss.flatMap (·.l)
theorem catL_take (ss : List Sl) (k : Nat) (h : k < ss.length) : catL (ss.take (k + 1)) = catL (ss.take k) ++ (ss[k]).l := by
  unfold catL; rw [List.take_succ_eq_append_getElem h, List.flatMap_append]; simp
theorem catL_le (ss : List Sl) (k : Nat) : (catL (ss.take k)).length ≤ (catL ss).length := by
  have : catL ss = catL (ss.take k) ++ catL (ss.drop k) := by unfold catL; rw [← List.flatMap_append, List.take_append_drop]
  rw [this, List.length_append]; omega
/-- a new row that holds a list of pairs is handed back -/
def RetRow (w : World) (l : List Pr) (e : Ending) (w' : World) : Prop := ∃ v, e = .returned v ∧ w'.ownsRow w.heap.size 51 2 v l.length (cellsOf l) ∧ Below w.heap.size w w'
/-- the slices that a slice of slices holds -/
structure Sls (w : World) (g o : Nat) (ss : List Sl) : Prop where
  lt : g < w.heap.size
  cell : ∀ j s, ss[j]? = some s → w.cell? ⟨g, o + j, none⟩ = some (.slice s.A s.l.length s.c)
  ps : ∀ s ∈ ss, PS w w.heap.size s.A s.l

set_option maxHeartbeats 400000 in
set_option maxRecDepth 100000 in
theorem concat_any (g o c : Nat) (ss : List Sl) (w : World) (hS : Sls w g o ss) (hn : (catL ss).length * 24 ≤ 140737488355328) (hs : ss.length ≤ 1000) :
    Calls Tryz.prog 58 #[.slice (some ⟨g, o, none⟩) ss.length c] w (RetRow w (catL ss)) := by
  go_enter Tryz.func58, Tryz.ntmps58
  go_wp2_with fail
  go_loop [3, 11] (fun z i => ∃ k : Nat, k ≤ ss.length ∧ i = .int .i64 k ∧ z = .int .i64 ((catL (ss.take k)).length : Nat)) (fun _ i => ss.length - (intOf i).toNat)
  case atStart => exact ⟨0, Nat.zero_le _, rfl, rfl⟩
  case round =>
    obtain ⟨k, hk, rfl, rfl⟩ := hrel
    by_cases hlt : k < ss.length
    · have c1 := hS.cell k _ (List.getElem?_eq_getElem hlt)
      have h1 := catL_le ss (k + 1)
      have h2 := hideP (show (catL (ss.take (k + 1))).length = (catL (ss.take k)).length + (ss[k]).l.length by rw [catL_take ss k hlt, List.length_append])
      rw [catL_take ss k hlt, List.length_append] at h1
      generalize ss[k] = s at c1 h1 h2
      generalize (catL (ss.take k)).length = z at h1 h2 ⊢
      go_wp2_with fail
      go_round
      case rel => exact ⟨k + 1, by omega, by go_num, by rw [h2.out]; go_num⟩
      case measure => simp [intOf]; omega
    · have hz : (catL (ss.take k)).length = (catL ss).length := by rw [List.take_of_length_le (by omega)]
      rw [hz]
      clear hz
      go_wp2_with fail
      refine (grow_any _ _ hn).mono ?_
      rintro e w0 ⟨v0, rfl, hown0, hb0⟩
      go_wp2_with fail
      go_loopw [6, 27] (fun v i wr => ∃ k : Nat, k ≤ ss.length ∧ i = .int .i64 k ∧ wr.ownsRow w.heap.size 51 2 v (catL (ss.take k)).length (cellsOf (catL (ss.take k))) ∧ Below w.heap.size w wr) (fun _ i _ => ss.length - (intOf i).toNat)
      case atStart => exact ⟨0, Nat.zero_le _, rfl, hown0, hb0⟩
      case round =>
        obtain ⟨k, hk, rfl, hown, hb⟩ := hrel
        by_cases hlt : k < ss.length
        · have c1 := (hb.cell (p := ⟨g, o + k, none⟩) hS.lt).trans (hS.cell k _ (List.getElem?_eq_getElem hlt))
          have hps := (hS.ps _ (List.getElem_mem hlt)).below hb
          have hle := catL_le ss (k + 1)
          rw [catL_take ss k hlt, List.length_append] at hle
          obtain ⟨v', w1, hrun, hown', hg', _⟩ := app_pairs wr w.heap.size 33 _ _ hown _ _ (ss[k]).c _ hps (by omega) hb.size
          have HR := hideP hrun
          have HO := hideP hown'
          have HK := hideP (catL_take ss k hlt)
          have hb1 : Below w.heap.size w w1 := hb.grown hg' hb.size (fun j hj => (hown.lt j hj).1)
          clear hrun hown' hown hps hS
          generalize ss[k] = s at c1 HR HO HK hle
          go_wp2_with (at_builtin; refine Lib.wpList_append_run _ rfl _ _ _ _ rfl _ _ rfl rfl _ _ HR.out ?_)
          go_roundw
          case rel => exact ⟨k + 1, by omega, by go_num, by rw [HK.out]; exact HO.out, hb1⟩
          case measure => simp [intOf]; omega
        · rw [List.take_of_length_le (by omega)] at hown
          go_wp2_with fail
          go_ret
          exact ⟨_, rfl, hown, hb⟩

theorem PS.alloc {w : World} {A : Option Addr} {l : List Pr} (h : PS w w.heap.size A l) (o : Obj) : PS (w.alloc o) (w.alloc o).heap.size A l :=
  (h.below ((Below.refl _ w).alloc (Nat.le_refl _) o)).more (by simp)
theorem PS.take_ {w : World} {B : Nat} {A : Option Addr} {l : List Pr} (h : PS w B A l) (q : Nat) : PS w B A (l.take q) := fun i p hp => by
  rw [List.getElem?_take] at hp
  split at hp
  · exact h i p hp
  · cases hp
theorem PS.drop_ {w : World} {B b o : Nat} {l : List Pr} (h : PS w B (some ⟨b, o, none⟩) l) (q : Nat) : PS w B (some ⟨b, o + q * 2, none⟩) (l.drop q) := fun i p hp => by
  rw [List.getElem?_drop] at hp
  obtain ⟨b', o', e, hlt, h1, h2⟩ := h _ p hp
  injection e with e
  injection e with e1 e2 _
  subst e1; subst e2
  rw [Nat.add_mul, ← Nat.add_assoc] at h1 h2
  exact ⟨_, _, rfl, hlt, h1, h2⟩
theorem PS.drop_all {w : World} {B : Nat} {A : Option Addr} {l : List Pr} {q : Nat} (h : l.length ≤ q) : PS w B A (l.drop q) := by
  rw [List.drop_of_length_le h]; exact PS.nil
theorem PS.drewN {w : World} {B : Nat} {A : Option Addr} {l : List Pr} (h : PS w B A l) (n : Nat) : PS (w.drewN n) B A l := h
theorem concat3 (w : World) (g : Nat) (hg : g = w.heap.size) (A1 A2 A3 : Option Addr) (n1 n2 n3 c1 c2 c3 : Nat) (l1 l2 l3 : List Pr) (e1 : n1 = l1.length) (e2 : n2 = l2.length) (e3 : n3 = l3.length)
    (p1 : PS w w.heap.size A1 l1) (p2 : PS w w.heap.size A2 l2) (p3 : PS w w.heap.size A3 l3) (hn : (l1.length + l2.length + l3.length) * 24 ≤ 140737488355328) :
    Calls Tryz.prog 58 #[.slice (some ⟨g, 0, none⟩) 3 3] (w.alloc (.cells #[.slice A1 n1 c1, .slice A2 n2 c2, .slice A3 n3 c3] 33)) (RetRow (w.alloc (.cells #[.slice A1 n1 c1, .slice A2 n2 c2, .slice A3 n3 c3] 33)) (l1 ++ (l2 ++ l3))) := by
  subst hg e1 e2 e3
  have h := concat_any w.heap.size 0 3 [⟨A1, c1, l1⟩, ⟨A2, c2, l2⟩, ⟨A3, c3, l3⟩] (w.alloc (.cells #[.slice A1 l1.length c1, .slice A2 l2.length c2, .slice A3 l3.length c3] 33))
    ⟨by simp, fun j s hj => by
      match j with
      | 0 => simp at hj; subst hj; simp
      | 1 => simp at hj; subst hj; simp
      | 2 => simp at hj; subst hj; simp
      | j + 3 => simp at hj, fun s hs => by
      simp at hs
      rcases hs with rfl | rfl | rfl
      · exact p1.alloc _
      · exact p2.alloc _
      · exact p3.alloc _⟩ (by simp [catL]; omega) (by simp)
  simpa [catL] using h
theorem concat1 (w : World) (g : Nat) (hg : g = w.heap.size) (A1 : Option Addr) (n1 c1 : Nat) (l1 : List Pr) (e1 : n1 = l1.length) (p1 : PS w w.heap.size A1 l1) (hn : l1.length * 24 ≤ 140737488355328) :
    Calls Tryz.prog 58 #[.slice (some ⟨g, 0, none⟩) 1 1] (w.alloc (.cells #[.slice A1 n1 c1] 33)) (RetRow (w.alloc (.cells #[.slice A1 n1 c1] 33)) l1) := by
  subst hg e1
  have h := concat_any w.heap.size 0 1 [⟨A1, c1, l1⟩] (w.alloc (.cells #[.slice A1 l1.length c1] 33))
    ⟨by simp, fun j s hj => by
      match j with
      | 0 => simp at hj; subst hj; simp
      | j + 1 => simp at hj, fun s hs => by
      simp at hs
      subst hs
      exact p1.alloc _⟩ (by simp [catL]; omega) (by simp)
  simpa [catL] using h
theorem concat2 (w : World) (g : Nat) (hg : g = w.heap.size) (A1 A2 : Option Addr) (n1 n2 c1 c2 : Nat) (l1 l2 : List Pr) (e1 : n1 = l1.length) (e2 : n2 = l2.length)
    (p1 : PS w w.heap.size A1 l1) (p2 : PS w w.heap.size A2 l2) (hn : (l1.length + l2.length) * 24 ≤ 140737488355328) :
    Calls Tryz.prog 58 #[.slice (some ⟨g, 0, none⟩) 2 2] (w.alloc (.cells #[.slice A1 n1 c1, .slice A2 n2 c2] 33)) (RetRow (w.alloc (.cells #[.slice A1 n1 c1, .slice A2 n2 c2] 33)) (l1 ++ l2)) := by
  subst hg e1 e2
  have h := concat_any w.heap.size 0 2 [⟨A1, c1, l1⟩, ⟨A2, c2, l2⟩] (w.alloc (.cells #[.slice A1 l1.length c1, .slice A2 l2.length c2] 33))
    ⟨by simp, fun j s hj => by
      match j with
      | 0 => simp at hj; subst hj; simp
      | 1 => simp at hj; subst hj; simp
      | j + 2 => simp at hj, fun s hs => by
      simp at hs
      rcases hs with rfl | rfl
      · exact p1.alloc _
      · exact p2.alloc _⟩ (by simp [catL]; omega) (by simp)
  simpa [catL] using h
end Go.Proofs.YtpefdonhacmaoaaGreat

set_option linter.unusedVariables false
set_option linter.unusedSimpArgs false
namespace Go.Proofs.YtpefdonhacmaoaaGreat
open Go.RowKit

set_option maxHeartbeats 400000 in
set_option maxRecDepth 100000 in
theorem ppart_ok (B g : Nat) (m : Mp) (l : List Pr) (q : Dv) (k : Nat) (w : World) (h : PB w B g m l q) (hk : k < 4) :
    Calls Tryz.prog 12 #[.pointer (some ⟨g, 0, none⟩), .int .i64 k] w fun e w' => ∃ A c, e = .returned (.tuple #[.slice A (ptL m.cs m.os (k : Int) l).length c, .int .i64 0]) ∧ OV w' w.heap.size A c (ptL m.cs m.os (k : Int) l) ∧ Below w.heap.size w w' := by
  have p0 : w.cell? ⟨g, 2 + k, none⟩ = some (.slice (q.A k) (ptL m.cs m.os (k : Int) l).length (q.c k)) := h.p hk
  have hsm := h.ok.small
  have hp : (ptL m.cs m.os (k : Int) l).length ≤ l.length := List.length_filter_le _ _
  have HC : Hid (Calls Tryz.prog 58 #[.slice (some ⟨w.heap.size, 0, none⟩) 1 1] (w.alloc (.cells #[.slice (q.A k) (ptL m.cs m.os (k : Int) l).length (q.c k)] 33)) fun e w' => ∃ A c, e = .returned (.slice A (ptL m.cs m.os (k : Int) l).length c) ∧ OV w' w.heap.size A c (ptL m.cs m.os (k : Int) l) ∧ Below w.heap.size w w') := hideP (by
    have hb := (Below.refl w.heap.size w).alloc (Nat.le_refl _) (.cells #[.slice (q.A k) (ptL m.cs m.os (k : Int) l).length (q.c k)] 33)
    refine (concat1 w w.heap.size rfl (q.A k) _ (q.c k) _ rfl (h.own k hk).sv.ps (by omega)).mono ?_
    rintro e w1 ⟨v, rfl, hrow, hb1⟩
    obtain ⟨A1, c1, rfl, ho⟩ := OV.of_own hrow
    exact ⟨A1, c1, rfl, ho.mono hb.size, hb.trans (hb1.mono hb.size)⟩)
  have g0 : (0 : Int) ≤ (k : Int) := by omega
  have g1 : (k : Int) < 4 := by omega
  generalize ptL m.cs m.os (k : Int) l = pt at p0 HC
  clear h hsm hp
  go_enter Tryz.func12, Tryz.ntmps12
  go_wp2_with fail
  refine HC.out.mono ?_
  rintro e w1 ⟨A1, c1, rfl, ho, hb⟩
  go_wp2_with fail
  go_ret2
  exact ⟨A1, c1, rfl, ho, hb⟩
set_option maxHeartbeats 400000 in
set_option maxRecDepth 100000 in
theorem ppart_bad (g : Nat) (i : Int) (w : World) (hk : i < 0 ∨ 4 ≤ i) :
    Calls Tryz.prog 12 #[.pointer (some ⟨g, 0, none⟩), .int .i64 i] w fun e w' => e = .returned (.tuple #[.slice none 0 0, .int .i64 1]) ∧ w = w' := by
  by_cases h : i < 0
  · go_enter Tryz.func12, Tryz.ntmps12
    go_wp2_with fail
    go_ret2
    exact ⟨rfl, rfl⟩
  · have h4 : 4 ≤ i := by omega
    go_enter Tryz.func12, Tryz.ntmps12
    go_wp2_with fail
    go_ret2
    exact ⟨rfl, rfl⟩
end Go.Proofs.YtpefdonhacmaoaaGreat
