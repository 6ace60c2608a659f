/-
  slices.Grow of nil, slices.Concat and slices.Clone, at entries.
  roref.BareEntry.
-/
import Derived.Test.YtcjfkbponikadaaDoorBp4
import Derived.WalkKit
import Derived.WalkSpells
import Derived.WalkLawsBesides
import Derived.Lib.SlicesS
import Derived.Shelf.Slices.Clone
import Derived.Test.YtcjfkbponikadaaDoorBp3
set_option linter.unusedVariables false
set_option linter.unusedSimpArgs false
namespace Go.Proofs.YtcjfkbponikadaaDoor
open Go.RowKit

theorem emCells_ones (l : List Em) : ∀ u ∈ emCells l, u.oneCell' = true := by
  induction l with
  | nil => simp [emCells]
  | cons p r ih =>
    intro u hu
    simp only [emCells, List.mem_cons] at hu
    rcases hu with rfl | rfl | rfl | rfl | hu
    · rfl
    · rfl
    · rfl
    · rfl
    · exact ih u hu
theorem EL.cellsAt {w : World} {A : Option Addr} {l : List Em} (h : EL w A l) (hl : l ≠ []) : ∃ b o, A = some ⟨b, o, none⟩ ∧ ∀ j u, (emCells l)[j]? = some u → w.cell? ((⟨b, o, none⟩ : Addr).add j) = some u := by
  obtain ⟨p, r, rfl⟩ : ∃ p r, l = p :: r := by
    cases l with
    | nil => exact absurd rfl hl
    | cons p r => exact ⟨p, r, rfl⟩
  obtain ⟨b, o, rfl, _⟩ := h.cells 0 p rfl
  refine ⟨b, o, rfl, fun j u hu => ?_⟩
  have hj : j < (p :: r).length * 4 := by
    rw [← emCells_length]
    rcases Nat.lt_or_ge j (emCells (p :: r)).length with h | h
    · exact h
    · rw [List.getElem?_eq_none h] at hu; cases hu
  have hq : j / 4 < (p :: r).length := by omega
  obtain ⟨b', o', e, _, h0, h1, h2, h3⟩ := h.cells (j / 4) _ (List.getElem?_eq_getElem hq)
  injection e with e
  injection e with e1 e2 _
  subst e1; subst e2
  obtain ⟨g0, g1, g2, g3⟩ := emCells_get (p :: r) (j / 4) _ (List.getElem?_eq_getElem hq)
  rw [Addr.add_lit]
  rcases (show j % 4 = 0 ∨ j % 4 = 1 ∨ j % 4 = 2 ∨ j % 4 = 3 by omega) with hm | hm | hm | hm
  · rw [show j = j / 4 * 4 by omega] at hu
    rw [g0] at hu
    rw [show o + j = o + j / 4 * 4 by omega, h0, hu]
  · rw [show j = j / 4 * 4 + 1 by omega] at hu
    rw [g1] at hu
    rw [show o + j = o + j / 4 * 4 + 1 by omega, h1, hu]
  · rw [show j = j / 4 * 4 + 2 by omega] at hu
    rw [g2] at hu
    rw [show o + j = o + j / 4 * 4 + 2 by omega, h2, hu]
  · rw [show j = j / 4 * 4 + 3 by omega] at hu
    rw [g3] at hu
    rw [show o + j = o + j / 4 * 4 + 3 by omega, h3, hu]
set_option maxRecDepth 100000 in
/-- append of what another slice holds onto a row of the call's own -/
theorem app_ents (w : World) (base : Nat) (ty : TypeId) (v : Value) (xs : List Em) (hown : w.ownsRow base 41 4 v xs.length (emCells xs)) (A : Option Addr) (c : Nat) (l : List Em)
    (hA : EL w A l) (h63 : (xs.length + l.length) * 80 ≤ 140737488355328) (hbase : base ≤ w.heap.size) :
    ∃ v' w', (Builtin.append_ #[23, 23] ty #[v, .slice A l.length c]).run Tryd.prog w = .ok v' w' ∧ w'.ownsRow base 41 4 v' (xs ++ l).length (emCells (xs ++ l)) ∧ w.grownBy w' v.ownBlock ∧
      (v'.ownBlock = v.ownBlock ∨ v'.ownBlock = some w.heap.size) := by
  obtain ⟨i0, hi, hz0, hz1, hz2⟩ := info_parts entInfo
  have hm : xs.length + l.length ≤ maxLen := by unfold maxLen; omega
  rw [List.length_append, emCells_append]
  cases A with
  | none =>
    have h0 : l = [] := by
      cases l with
      | nil => rfl
      | cons q r => obtain ⟨_, _, e, _⟩ := hA.cells 0 q rfl; cases e
    subst h0
    refine ⟨v, w, ?_, by simpa [emCells] using hown, ⟨rfl, rfl, rfl, Nat.le_refl _, fun _ _ _ => rfl⟩, .inl rfl⟩
    rcases hown.2 with ⟨rfl, h0⟩ | ⟨g, cap, cur, rfl, _, _, hnc, _⟩
    · simp [Builtin.append_, run_underlying Tryd.underlying23, sizeOf, typeInfo, hi, Builtin.lenOf, Builtin.firstCells]
    · simp [Builtin.append_, run_underlying Tryd.underlying23, sizeOf, typeInfo, hi, Builtin.lenOf, Builtin.firstCells, hnc, storeCells]
  | some ad =>
    have hc : ∀ j u, (emCells l)[j]? = some u → w.cell? (ad.add j) = some u := by
      intro j u hu
      have hl : l ≠ [] := by rintro rfl; simp [emCells] at hu
      obtain ⟨b, o, e, hcc⟩ := hA.cellsAt hl
      injection e with e
      subst e
      exact hcc j u hu
    obtain ⟨v', w', hrun, h2, h3, _, h5⟩ := run_append_own_at (P := Tryd.prog) w base 23 ty 41 i0 _ 4 80 Tryd.underlying23 hi hz0 hz1 hz2 rfl (by decide) v xs.length (emCells xs) hown ad l.length c (emCells l)
      (emCells_length l) hc (emCells_ones l) hm h63 hbase
    exact ⟨v', w', hrun, h2, h3, h5⟩
set_option maxHeartbeats 400000 in
set_option maxRecDepth 100000 in
theorem egrow_any (n : Nat) (w : World) (hn : n * 80 ≤ 140737488355328) :
    Calls Tryd.prog 40 #[.slice none 0 0, .int .i64 n] w fun e w' => ∃ v, e = .returned v ∧ w'.ownsRow w.heap.size 41 4 v 0 [] ∧ Below w.heap.size w w' := by
  have h1 : ¬ ((n : Int) < 0) := by omega
  rcases Nat.eq_zero_or_pos n with h0 | h0
  · subst h0
    go_enter Tryd.func40, Tryd.ntmps40
    go_wp2
    go_ret
    exact ⟨_, rfl, World.ownsRow_nil w _ _ _, Below.refl _ _⟩
  · obtain ⟨i0, hi, hz0, hz1, hz2⟩ := info_parts entInfo
    have hrz : ∀ ty, (Builtin.append_ #[23, 3] ty #[.slice none 0 0, .int .i64 n]).run Tryd.prog w = _ := fun ty =>
      Lib.run_append_grow_zeros w 23 3 ty 41 i0 _ .i64 .i64 Tryd.underlying23 Tryd.underlying3 hi hz0 none 0 0 [] (run_firstCells_none w.drew i0.size 0 0 0) n h0 (by omega) (by omega) (by omega) (by rw [hz2]; omega)
        (growslice_fits (by omega) (by rw [hz2]; omega))
    have hGn : 0 + n ≤ grownCap w (0 + n) 0 41 := grownCap_ge w _ _ _
    have hGm := grownCap_le_maxLen w (0 + n) 0 41 (by unfold maxLen; omega)
    generalize grownCap w (0 + n) 0 41 = G at hrz hGn hGm
    obtain ⟨cur, hcur, hcs⟩ : ∃ cur : Array Value, ((([] : List Value).toArray ++ Builtin.zeroCells (Value.agg #[.slice none 0 0, .bool false, .slice none 0 0, .slice none 0 0]).cells n ++ Builtin.zeroCells (Value.agg #[.slice none 0 0, .bool false, .slice none 0 0, .slice none 0 0]).cells (G - (0 + n)))) = cur ∧ cur.size = G * 4 := by
      refine ⟨_, rfl, ?_⟩
      simp only [Array.size_append, size_zeroCells]
      simp [Value.cells]
      omega
    rw [hcur] at hrz
    have hrz' := fun ty => hideP (hrz ty)
    clear hrz hcur
    have hb : Below w.heap.size w (w.drew.alloc (.cells cur 41)) := (Below.refl _ w).drew.alloc (Nat.le_refl _) _
    have hG : G ≤ 9223372036854775807 := by unfold maxLen at hGm; omega
    go_enter Tryd.func40, Tryd.ntmps40
    go_wp2_with (at_builtin; refine Lib.wpList_append_run _ rfl _ _ _ _ rfl _ _ rfl rfl _ _ (hrz' _).out ?_)
    go_ret
    exact ⟨_, rfl, ⟨rfl, .inr ⟨w.heap.size, G, cur, rfl, Nat.le_refl _, heap_alloc_new w.drew _, Nat.zero_le _, hGm, hcs, rfl⟩⟩, hb⟩
/-- a slice of operations: where, its capacity, what it reads as -/
structure El where
  A : Option Addr
  c : Nat
  l : List Em
def catE (ss : List El) : List Em := ss.flatMap (·.l)
theorem catE_take (ss : List El) (k : Nat) (h : k < ss.length) : catE (ss.take (k + 1)) = catE (ss.take k) ++ (ss[k]).l := by
  unfold catE; rw [List.take_succ_eq_append_getElem h, List.flatMap_append]; simp
theorem catE_le (ss : List El) (k : Nat) : (catE (ss.take k)).length ≤ (catE ss).length := by
  have : catE ss = catE (ss.take k) ++ catE (ss.drop k) := by unfold catE; rw [← List.flatMap_append, List.take_append_drop]
  rw [this, List.length_append]; omega
/-- a new row that holds a list of operations is handed back -/
def RetRowE (w : World) (l : List Em) (e : Ending) (w' : World) : Prop := ∃ v, e = .returned v ∧ w'.ownsRow w.heap.size 41 4 v l.length (emCells l) ∧ Below w.heap.size w w'
/-- the slices that a slice of slices holds -/
structure Els (w : World) (g o : Nat) (ss : List El) : Prop where
  lt : g < w.heap.size
  cell : ∀ j s, ss[j]? = some s → w.cell? ⟨g, o + j, none⟩ = some (.slice s.A s.l.length s.c)
  os : ∀ s ∈ ss, EL w s.A s.l

set_option maxHeartbeats 400000 in
set_option maxRecDepth 100000 in
theorem econcat_any (g o c : Nat) (ss : List El) (w : World) (hS : Els w g o ss) (hn : (catE ss).length * 80 ≤ 140737488355328) (hs : ss.length ≤ 1000) :
    Calls Tryd.prog 27 #[.slice (some ⟨g, o, none⟩) ss.length c] w (RetRowE w (catE ss)) := by
  go_enter Tryd.func27, Tryd.ntmps27
  go_wp2_with fail
  go_loop [3, 11] (fun z i => ∃ k : Nat, k ≤ ss.length ∧ i = .int .i64 k ∧ z = .int .i64 ((catE (ss.take k)).length : Nat)) (fun _ i => ss.length - (intOf i).toNat)
  case atStart => exact ⟨0, Nat.zero_le _, rfl, rfl⟩
  case round =>
    obtain ⟨k, hk, rfl, rfl⟩ := hrel
    by_cases hlt : k < ss.length
    · have c1 := hS.cell k _ (List.getElem?_eq_getElem hlt)
      have h1 := catE_le ss (k + 1)
      have h2 := hideP (show (catE (ss.take (k + 1))).length = (catE (ss.take k)).length + (ss[k]).l.length by rw [catE_take ss k hlt, List.length_append])
      rw [catE_take ss k hlt, List.length_append] at h1
      generalize ss[k] = s at c1 h1 h2
      generalize (catE (ss.take k)).length = z at h1 h2 ⊢
      go_wp2_with fail
      go_round
      case rel => exact ⟨k + 1, by omega, by go_num, by rw [h2.out]; go_num⟩
      case measure => simp [intOf]; omega
    · have hz : (catE (ss.take k)).length = (catE ss).length := by rw [List.take_of_length_le (by omega)]
      rw [hz]
      clear hz
      go_wp2_with fail
      refine (egrow_any _ _ hn).mono ?_
      rintro e w0 ⟨v0, rfl, hown0, hb0⟩
      go_wp2_with fail
      go_loopw [6, 27] (fun v i wr => ∃ k : Nat, k ≤ ss.length ∧ i = .int .i64 k ∧ wr.ownsRow w.heap.size 41 4 v (catE (ss.take k)).length (emCells (catE (ss.take k))) ∧ Below w.heap.size w wr) (fun _ i _ => ss.length - (intOf i).toNat)
      case atStart => exact ⟨0, Nat.zero_le _, rfl, hown0, hb0⟩
      case round =>
        obtain ⟨k, hk, rfl, hown, hb⟩ := hrel
        by_cases hlt : k < ss.length
        · have c1 := (hb.cell (p := ⟨g, o + k, none⟩) hS.lt).trans (hS.cell k _ (List.getElem?_eq_getElem hlt))
          have hps := (hS.os _ (List.getElem_mem hlt)).below hb
          have hle := catE_le ss (k + 1)
          rw [catE_take ss k hlt, List.length_append] at hle
          obtain ⟨v', w1, hrun, hown', hg', _⟩ := app_ents wr w.heap.size 23 _ _ hown _ (ss[k]).c _ hps (by omega) hb.size
          have HR := hideP hrun
          have HO := hideP hown'
          have HK := hideP (catE_take ss k hlt)
          have hb1 : Below w.heap.size w w1 := hb.grown hg' hb.size (fun j hj => (hown.lt j hj).1)
          clear hrun hown' hown hps hS
          generalize ss[k] = s at c1 HR HO HK hle
          go_wp2_with (at_builtin; refine Lib.wpList_append_run _ rfl _ _ _ _ rfl _ _ rfl rfl _ _ HR.out ?_)
          go_roundw
          case rel => exact ⟨k + 1, by omega, by go_num, by rw [HK.out]; exact HO.out, hb1⟩
          case measure => simp [intOf]; omega
        · rw [List.take_of_length_le (by omega)] at hown
          go_wp2_with fail
          go_ret
          exact ⟨_, rfl, hown, hb⟩
theorem EWr.of_box {w : World} {g B : Nat} (h : Box w g 41 #[]) (hB : B ≤ g) : w.ownsRow B 41 4 (.slice (some ⟨g, 0, none⟩) 0 0) 0 (emCells []) :=
  ⟨rfl, .inr ⟨g, 0, #[], rfl, hB, h, Nat.le_refl _, by simp [maxLen], by simp, rfl⟩⟩
theorem erow_parts {w : World} {B : Nat} {v : Value} {l : List Em} (h : w.ownsRow B 41 4 v l.length (emCells l)) : ∃ A c, v = .slice A l.length c := by
  rcases h.2 with ⟨rfl, h0⟩ | ⟨g, cap, cur, rfl, h2⟩
  · exact ⟨none, 0, by rw [h0]⟩
  · exact ⟨_, _, rfl⟩
set_option maxHeartbeats 400000 in
set_option maxRecDepth 100000 in
/-- a row of its own, with what another one holds; nil stays nil -/
theorem eclone_any (A : Option Addr) (c : Nat) (l : List Em) (w : World) (hA : EL w A l) (hn : A = none → c = 0) (hl : l.length ≤ 1000000) :
    Calls Tryd.prog 28 #[.slice A l.length c] w fun e w' => ∃ A' c', e = .returned (.slice A' l.length c') ∧ w'.ownsRow w.heap.size 41 4 (.slice A' l.length c') l.length (emCells l) ∧ Below w.heap.size w w' := by
  have q22 : ∀ (w : World) (a : Option Addr) (n c n' c' : Nat), (binOp .eql 23 (.slice a n c) (.slice none n' c')).run Tryd.prog w = .ok (.bool a.isNone) w := fun w a n c n' c' => Lib.run_eql_slice_nil w _ _ a n c n' c' Tryd.underlying23
  cases A with
  | none =>
    have h0 : l = [] := by
      cases l with
      | nil => rfl
      | cons q r => obtain ⟨_, _, e, _⟩ := hA.cells 0 q rfl; cases e
    subst h0
    obtain rfl := hn rfl
    clear hn hA
    go_enter Tryd.func28, Tryd.ntmps28
    go_wp2_with fail
    go_ret
    exact ⟨none, 0, rfl, World.ownsRow_nil w _ _ _, Below.refl _ _⟩
  | some ad =>
    have hb := (Below.refl w.heap.size w).alloc (Nat.le_refl _) (.cells #[] 41)
    have ho := EWr.of_box (B := w.heap.size) (Box.new w 41 #[]) (Nat.le_refl _)
    obtain ⟨v', w1, hrun, hown', hg', _⟩ := app_ents (w.alloc (.cells #[] 41)) w.heap.size 23 _ [] ho (some ad) c l (hA.below hb) (by simp; omega) hb.size
    have hb1 : Below w.heap.size w w1 := hb.grown hg' hb.size (fun j hj => (World.ownsRow.lt ho j hj).1)
    rw [List.nil_append] at hown'
    obtain ⟨A', c', rfl⟩ := erow_parts hown'
    have HR := hideP hrun
    clear hrun hg' ho hA hn
    go_enter Tryd.func28, Tryd.ntmps28
    go_wp2_with (at_builtin; refine Lib.wpList_append_run _ rfl _ _ _ _ rfl _ _ rfl rfl _ _ HR.out ?_)
    go_ret
    exact ⟨A', c', rfl, hown', hb1⟩
end Go.Proofs.YtcjfkbponikadaaDoor

set_option linter.unusedVariables false
set_option linter.unusedSimpArgs false
namespace Go.Proofs.YtcjfkbponikadaaDoor
open Go.RowKit

/-- without what is not so -/
def beM (x : Em) : Em := if x.isM then ⟨none, 0, [], true, x.m⟩ else ⟨x.D, x.c, x.d, false, noM⟩
theorem ES.bare {w : World} {x : Em} (h : ES w x) : ES w (beM x) := by
  unfold beM
  split
  · exact ⟨OS.nil, h.map, by simp⟩
  · exact ⟨h.ops, (noM_mo w 0).ms, h.bd⟩
set_option maxHeartbeats 1000000 in
set_option maxRecDepth 100000 in
theorem bareent_any (x : Em) (w : World) :
    Calls Tryd.prog 29 #[emV x] w fun e w' => e = .returned (emV (beM x)) ∧ Below w.heap.size w w' := by
  have b0 := ((Below.refl w.heap.size w).alloc (Nat.le_refl _) (.cells (emC x) 41)).alloc (by simp) (.cells #[.slice none 0 0, .bool false, .slice none 0 0, .slice none 0 0] 41)
  have x0 := (Box.new w 41 (emC x)).alloc (.cells #[.slice none 0 0, .bool false, .slice none 0 0, .slice none 0 0] 41)
  have x1 := Box.new (w.alloc (.cells (emC x) 41)) 41 #[.slice none 0 0, .bool false, .slice none 0 0, .slice none 0 0]
  simp only [World.size_alloc] at x1
  obtain ⟨D, c, d, isM, ⟨A, ca, cs, O, co, os⟩⟩ := x
  unfold emV
  unfold emC at b0 x0 x1 ⊢
  simp only at b0 x0 x1 ⊢
  have c0 := x0.cell 0 (v := .slice D d.length c) rfl
  have c1 := x0.cell 1 (v := .bool isM) rfl
  have c2 := x0.cell 2 (v := .slice A cs.length ca) rfl
  have c3 := x0.cell 3 (v := .slice O os.length co) rfl
  cases isM
  · have R := Box.new (w.alloc (.cells #[.slice D d.length c, .bool false, .slice A cs.length ca, .slice O os.length co] 41)) 41 #[.slice D d.length c, .bool false, .slice none 0 0, .slice none 0 0]
    simp only [World.size_alloc] at R
    have r0 := R.cell 0 rfl
    have r1 := R.cell 1 rfl
    have r2 := R.cell 2 rfl
    have r3 := R.cell 3 rfl
    have HF := hideP (((Below.refl w.heap.size w).alloc (Nat.le_refl _) (.cells #[.slice D d.length c, .bool false, .slice A cs.length ca, .slice O os.length co] 41)).alloc (by simp) (.cells #[.slice D d.length c, .bool false, .slice none 0 0, .slice none 0 0] 41))
    clear R x0 x1 b0
    go_enter Tryd.func29, Tryd.ntmps29
    go_wp2_with fail
    exact bodyPost_ret (v := .agg #[.slice D d.length c, .bool false, .slice none 0 0, .slice none 0 0]) (by simp [results, Tryd.results29, go_sem, r0, r1, r2, r3]) rfl ⟨rfl, HF.out⟩
  · have R := Box.new (w.alloc (.cells #[.slice D d.length c, .bool true, .slice A cs.length ca, .slice O os.length co] 41)) 41 #[.slice none 0 0, .bool true, .slice A cs.length ca, .slice O os.length co]
    simp only [World.size_alloc] at R
    have r0 := R.cell 0 rfl
    have r1 := R.cell 1 rfl
    have r2 := R.cell 2 rfl
    have r3 := R.cell 3 rfl
    have HF := hideP (((Below.refl w.heap.size w).alloc (Nat.le_refl _) (.cells #[.slice D d.length c, .bool true, .slice A cs.length ca, .slice O os.length co] 41)).alloc (by simp) (.cells #[.slice none 0 0, .bool true, .slice A cs.length ca, .slice O os.length co] 41))
    clear R x0 x1 b0
    go_enter Tryd.func29, Tryd.ntmps29
    go_wp2_with fail
    exact bodyPost_ret (v := .agg #[.slice none 0 0, .bool true, .slice A cs.length ca, .slice O os.length co]) (by simp [results, Tryd.results29, go_sem, r0, r1, r2, r3]) rfl ⟨rfl, HF.out⟩
end Go.Proofs.YtcjfkbponikadaaDoor
