/-
  A box of four cells that is written (no program in it).
  An entry's box is written (no body of the program in it).
  slices.Grow of nil and slices.Concat of two, at strings.
  slices.Grow of nil and slices.Concat of two, at ints.
-/
import Derived.Test.YtefdipjhjgmokaaGreatDoorBy2
import Derived.Test.YtefdipjhjgmokaaGreatDoorBy1
import Derived.WalkKit
import Derived.WalkSpells
import Derived.WalkLawsBesides
import Derived.Deep.QuietTactic
import Derived.BigQuiet
set_option linter.unusedVariables false
set_option linter.unusedSimpArgs false
namespace Go.Proofs.YtefdipjhjgmokaaGreatDoor
open Go.RowKit

theorem box_four {w : World} {g : Nat} {t : TypeId} {a b c d : Value} (h : Box w g t #[a, b, c, d]) (x y z u : Value) :
    (w.cell? ⟨g, 0, none⟩ = some a ∧ (w.setCell ⟨g, 0, none⟩ x).cell? ⟨g, 1, none⟩ = some b ∧ ((w.setCell ⟨g, 0, none⟩ x).setCell ⟨g, 1, none⟩ y).cell? ⟨g, 2, none⟩ = some c ∧ (((w.setCell ⟨g, 0, none⟩ x).setCell ⟨g, 1, none⟩ y).setCell ⟨g, 2, none⟩ z).cell? ⟨g, 3, none⟩ = some d) ∧
    (w.frozen? ⟨g, 0, none⟩ = false ∧ (w.setCell ⟨g, 0, none⟩ x).frozen? ⟨g, 1, none⟩ = false ∧ ((w.setCell ⟨g, 0, none⟩ x).setCell ⟨g, 1, none⟩ y).frozen? ⟨g, 2, none⟩ = false ∧ (((w.setCell ⟨g, 0, none⟩ x).setCell ⟨g, 1, none⟩ y).setCell ⟨g, 2, none⟩ z).frozen? ⟨g, 3, none⟩ = false) ∧
    Box ((((w.setCell ⟨g, 0, none⟩ x).setCell ⟨g, 1, none⟩ y).setCell ⟨g, 2, none⟩ z).setCell ⟨g, 3, none⟩ u) g t #[x, y, z, u] := by
  have h1 := h.set 0 x
  have h2 := h1.set 1 y
  have h3 := h2.set 2 z
  have h4 := h3.set 3 u
  exact ⟨⟨h.cell 0 rfl, h1.cell 1 rfl, h2.cell 2 rfl, h3.cell 3 rfl⟩, ⟨h.frozen 0, h1.frozen 1, h2.frozen 2, h3.frozen 3⟩, h4⟩
theorem below_set1 {a w : World} {g i : Nat} {v : Value} (h : Below a.heap.size a w) (hg : a.heap.size ≤ g) : Below a.heap.size a (w.setCell ⟨g, i, none⟩ v) :=
  h.grown (row := some g) ⟨rfl, rfl, rfl, by simp [World.setCell], fun i _ hne => Below.heap_setCell w _ _ i (fun e => hne (by rw [e]))⟩ h.size (fun b hb => by injection hb with hb; subst hb; exact hg)
theorem below_four {a w : World} {g : Nat} (h : Below a.heap.size a w) (hg : a.heap.size ≤ g) (x y z u : Value) : Below a.heap.size a ((((w.setCell ⟨g, 0, none⟩ x).setCell ⟨g, 1, none⟩ y).setCell ⟨g, 2, none⟩ z).setCell ⟨g, 3, none⟩ u) :=
  below_set1 (below_set1 (below_set1 (below_set1 h hg) hg) hg) hg
end Go.Proofs.YtefdipjhjgmokaaGreatDoor

set_option linter.unusedVariables false
set_option linter.unusedSimpArgs false
namespace Go.Proofs.YtefdipjhjgmokaaGreatDoor
open Go.RowKit

theorem EO.set {w : World} {B g i : Nat} {x : Em} {v : Value} (h : EO w B x) (ht : Ty w g 42) : EO (w.setCell ⟨g, i, none⟩ v) B x :=
  ⟨World.ownsRow.kept h.ops (grown_set w g i v) (own_ne h.ops ht (by decide)), ⟨h.map.cuts.set ht (by decide), h.map.own.set ht (by decide)⟩⟩
/-- the result's box is written -/
theorem eo_four {w wr : World} {g : Nat} {a b c d : Value} {x : Em} (hr : Box wr g 42 #[a, b, c, d]) (hl : w.heap.size ≤ g) (hn : EO wr w.heap.size x) (hb : Below w.heap.size w wr) (p q r s : Value) :
    EO ((((wr.setCell ⟨g, 0, none⟩ p).setCell ⟨g, 1, none⟩ q).setCell ⟨g, 2, none⟩ r).setCell ⟨g, 3, none⟩ s) w.heap.size x ∧ Below w.heap.size w ((((wr.setCell ⟨g, 0, none⟩ p).setCell ⟨g, 1, none⟩ q).setCell ⟨g, 2, none⟩ r).setCell ⟨g, 3, none⟩ s) := by
  have h1 := hr.set 0 p
  have h2 := h1.set 1 q
  have h3 := h2.set 2 r
  exact ⟨(((hn.set hr.ty).set h1.ty).set h2.ty).set h3.ty, below_four hb hl p q r s⟩
end Go.Proofs.YtefdipjhjgmokaaGreatDoor

set_option linter.unusedVariables false
set_option linter.unusedSimpArgs false
namespace Go.Proofs.YtefdipjhjgmokaaGreatDoor
open Go.RowKit

set_option maxHeartbeats 400000 in
set_option maxRecDepth 100000 in
theorem sgrow_any (n : Nat) (w : World) (hn : n ≤ 1000000) :
    Calls Tryz.prog 179 #[.slice none 0 0, .int .i64 n] w fun e w' => ∃ v, e = .returned v ∧ w'.ownsRow w.heap.size 9 1 v 0 [] ∧ Below w.heap.size w w' := by
  have h1 : ¬ ((n : Int) < 0) := by omega
  rcases Nat.eq_zero_or_pos n with h0 | h0
  · subst h0
    go_enter Tryz.func179, Tryz.ntmps179
    go_wp2
    go_ret
    exact ⟨_, rfl, World.ownsRow_nil w _ _ _, Below.refl _ _⟩
  · obtain ⟨i0, hi, hz0, hz1, hz2⟩ := info_parts strInfo
    have hrz : ∀ ty, (Builtin.append_ #[32, 3] ty #[.slice none 0 0, .int .i64 n]).run Tryz.prog w = _ := fun ty =>
      Lib.run_append_grow_zeros w 32 3 ty 9 i0 _ .i64 .i64 Tryz.underlying32 Tryz.underlying3 hi hz0 none 0 0 [] (run_firstCells_none w.drew i0.size 0 0 0) n h0 (by omega) (by omega) (by omega) (by rw [hz2]; omega)
        (growslice_fits (by omega) (by rw [hz2]; omega))
    have hGn : 0 + n ≤ grownCap w (0 + n) 0 9 := grownCap_ge w _ _ _
    have hGm := grownCap_le_maxLen w (0 + n) 0 9 (by unfold maxLen; omega)
    generalize grownCap w (0 + n) 0 9 = G at hrz hGn hGm
    obtain ⟨cur, hcur, hcs⟩ : ∃ cur : Array Value, ((([] : List Value).toArray ++ Builtin.zeroCells (Value.string ByteArray.empty).cells n ++ Builtin.zeroCells (Value.string ByteArray.empty).cells (G - (0 + n)))) = cur ∧ cur.size = G * 1 := by
      refine ⟨_, rfl, ?_⟩
      simp only [Array.size_append, size_zeroCells]
      simp [Value.cells]
      omega
    rw [hcur] at hrz
    have hrz' := fun ty => hideP (hrz ty)
    clear hrz hcur
    have hb : Below w.heap.size w (w.drew.alloc (.cells cur 9)) := (Below.refl _ w).drew.alloc (Nat.le_refl _) _
    have hG : G ≤ 9223372036854775807 := by unfold maxLen at hGm; omega
    go_enter Tryz.func179, Tryz.ntmps179
    go_wp2_with (at_builtin; refine Lib.wpList_append_run _ rfl _ _ _ _ rfl _ _ rfl rfl _ _ (hrz' _).out ?_)
    go_ret
    exact ⟨_, rfl, ⟨rfl, .inr ⟨w.heap.size, G, cur, rfl, Nat.le_refl _, heap_alloc_new w.drew _, Nat.zero_le _, hGm, hcs, rfl⟩⟩, hb⟩
/-- append of what another slice holds onto a row of the call's own -/
theorem app_srcS {P : Program} {st t : TypeId} {z : Value} {bytes : Nat} (hS : P.underlying st = some (.slice t)) (hI : (P.info? t).map (fun i => (i.zero, i.size, i.bytes)) = some (some z, 1, bytes)) (hz : z.cells.size = 1)
    (w : World) (base : Nat) (ty : TypeId) (A : Option Addr) (c : Nat) (xs : List Value) (hown : OR w base t A c xs) (A2 : Option Addr) (c2 : Nat) (news : List Value) (h2 : VS w A2 news) (h1 : ∀ u ∈ news, u.oneCell' = true)
    (h63 : (xs.length + news.length) * bytes ≤ 140737488355328) (hby : 1 ≤ bytes) (hbase : base ≤ w.heap.size) :
    ∃ A' c' w', (Builtin.append_ #[st, st] ty #[.slice A xs.length c, .slice A2 news.length c2]).run P w = .ok (.slice A' (xs ++ news).length c') w' ∧ OR w' base t A' c' (xs ++ news) ∧ w.grownBy w' (Value.slice A xs.length c).ownBlock := by
  obtain ⟨i0, hi, hz0, hz1, hz2⟩ := info_parts hI
  have hle : xs.length + news.length ≤ 140737488355328 := Nat.le_trans (Nat.le_mul_of_pos_right _ hby) h63
  have hm : xs.length + news.length ≤ maxLen := by unfold maxLen; omega
  cases A2 with
  | none =>
    have h0 : news = [] := by
      cases news with
      | nil => rfl
      | cons q r => obtain ⟨_, _, e, _⟩ := h2 0 q rfl; cases e
    subst h0
    refine ⟨A, c, w, ?_, by simpa using hown, ⟨rfl, rfl, rfl, Nat.le_refl _, fun _ _ _ => rfl⟩⟩
    rcases hown.2 with ⟨hv, h0⟩ | ⟨g, cap, cur, hv, _, _, hnc, _⟩
    · injection hv with a b d
      subst a; subst d
      simp [Builtin.append_, run_underlying hS, sizeOf, typeInfo, hi, Builtin.lenOf, Builtin.firstCells, h0]
    · injection hv with a b d
      subst a; subst d
      simp [Builtin.append_, run_underlying hS, sizeOf, typeInfo, hi, Builtin.lenOf, Builtin.firstCells, hnc, storeCells]
  | some ad =>
    have hc : ∀ j u, news[j]? = some u → w.cell? (ad.add j) = some u := by
      intro j u hu
      obtain ⟨b, o, e, _, hcc⟩ := h2 j u hu
      injection e with e
      subst e
      rw [Addr.add_lit]
      exact hcc
    obtain ⟨v', w', hrun, h3, h4, _, _⟩ := run_append_own_at (P := P) w base st ty t i0 _ 1 bytes hS hi hz0 hz1 hz2 hz (by decide) _ xs.length xs hown ad news.length c2 news (by simp) hc h1 hm h63 hbase
    rw [← List.length_append] at h3
    obtain ⟨A', c', rfl, ho⟩ := OR.of_own h3
    exact ⟨A', c', w', hrun, ho, h4⟩
/-- a slice of strings: where, its capacity, what it reads as -/
structure Sli where
  A : Option Addr
  c : Nat
  l : List ByteArray
def catS (ss : List Sli) : List ByteArray := ss.flatMap (·.l)
theorem catS_take (ss : List Sli) (k : Nat) (h : k < ss.length) : catS (ss.take (k + 1)) = catS (ss.take k) ++ (ss[k]).l := by
  unfold catS; rw [List.take_succ_eq_append_getElem h, List.flatMap_append]; simp
theorem catS_le (ss : List Sli) (k : Nat) : (catS (ss.take k)).length ≤ (catS ss).length := by
  have : catS ss = catS (ss.take k) ++ catS (ss.drop k) := by unfold catS; rw [← List.flatMap_append, List.take_append_drop]
  rw [this, List.length_append]; omega
structure SlsS (w : World) (g o : Nat) (ss : List Sli) : Prop where
  lt : g < w.heap.size
  cell : ∀ j s, ss[j]? = some s → w.cell? ⟨g, o + j, none⟩ = some (.slice s.A s.l.length s.c)
  vs : ∀ s ∈ ss, VS w s.A (s.l.map Value.string)
def SCInv (w : World) (ss : List Sli) (v i : Value) (wr : World) : Prop :=
  ∃ (k : Nat) (A : Option Addr) (c : Nat), k ≤ ss.length ∧ i = .int .i64 k ∧ v = .slice A (catS (ss.take k)).length c ∧ OR wr w.heap.size 9 A c ((catS (ss.take k)).map Value.string) ∧ Below w.heap.size w wr

set_option maxHeartbeats 400000 in
set_option maxRecDepth 100000 in
theorem sconcat_any (g o c : Nat) (ss : List Sli) (w : World) (hS : SlsS w g o ss) (hn : (catS ss).length ≤ 1000000) (hs : ss.length ≤ 1000) :
    Calls Tryz.prog 139 #[.slice (some ⟨g, o, none⟩) ss.length c] w fun e w' => ∃ A c, e = .returned (.slice A (catS ss).length c) ∧ OR w' w.heap.size 9 A c ((catS ss).map Value.string) ∧ Below w.heap.size w w' := by
  go_enter Tryz.func139, Tryz.ntmps139
  go_wp2_with fail
  go_loop [3, 11] (fun z i => ∃ k : Nat, k ≤ ss.length ∧ i = .int .i64 k ∧ z = .int .i64 ((catS (ss.take k)).length : Nat)) (fun _ i => ss.length - (intOf i).toNat)
  case atStart => exact ⟨0, Nat.zero_le _, rfl, rfl⟩
  case round =>
    obtain ⟨k, hk, rfl, rfl⟩ := hrel
    by_cases hlt : k < ss.length
    · have c1 := hS.cell k _ (List.getElem?_eq_getElem hlt)
      have h1 := catS_le ss (k + 1)
      have h2 := hideP (show (catS (ss.take (k + 1))).length = (catS (ss.take k)).length + (ss[k]).l.length by rw [catS_take ss k hlt, List.length_append])
      rw [catS_take ss k hlt, List.length_append] at h1
      generalize ss[k] = s at c1 h1 h2
      generalize (catS (ss.take k)).length = z at h1 h2 ⊢
      go_wp2_with fail
      go_round
      case rel => exact ⟨k + 1, by omega, by go_num, by rw [h2.out]; go_num⟩
      case measure => simp [intOf]; omega
    · have hz : (catS (ss.take k)).length = (catS ss).length := by rw [List.take_of_length_le (by omega)]
      rw [hz]
      clear hz
      go_wp2_with fail
      refine (sgrow_any _ _ (by omega)).mono ?_
      rintro e w0 ⟨v0, rfl, hown0, hb0⟩
      obtain ⟨A0, c0, rfl, hO0⟩ := OR.of_own hown0
      go_wp2_with fail
      go_loopw [6, 27] (SCInv w ss) (fun _ i _ => ss.length - (intOf i).toNat)
      case atStart => exact ⟨0, A0, c0, Nat.zero_le _, rfl, rfl, hO0, hb0⟩
      case round =>
        obtain ⟨k, Ak, ck, hk, rfl, rfl, hown, hb⟩ := hrel
        by_cases hlt : k < ss.length
        · have c1 := (hb.cell (p := ⟨g, o + k, none⟩) hS.lt).trans (hS.cell k _ (List.getElem?_eq_getElem hlt))
          have hvs := (hS.vs _ (List.getElem_mem hlt)).below hb
          have hle := catS_le ss (k + 1)
          rw [catS_take ss k hlt, List.length_append] at hle
          obtain ⟨A', c', w1, hrun, hown', hg'⟩ := app_srcS (P := Tryz.prog) Tryz.underlying32 strInfo rfl wr w.heap.size 32 Ak ck _ hown (ss[k]).A (ss[k]).c _ hvs (by intro u hu; obtain ⟨x, _, rfl⟩ := List.mem_map.1 hu; rfl) (by simp; omega) (by decide) hb.size
          have hb1 : Below w.heap.size w w1 := hb.grown hg' hb.size (fun j hj => (World.ownsRow.lt hown j hj).1)
          rw [← List.map_append, ← catS_take ss k hlt] at hrun hown'
          simp only [List.length_map] at hrun
          have HR := hideP hrun
          clear hrun hown hvs hS hg'
          generalize ss[k] = s at c1 HR hle
          go_wp2_with (at_builtin; refine Lib.wpList_append_run _ rfl _ _ _ _ rfl _ _ rfl rfl _ _ HR.out ?_)
          go_roundw
          case rel => exact ⟨k + 1, A', c', by omega, by go_num, rfl, hown', hb1⟩
          case measure => simp [intOf]; omega
        · rw [List.take_of_length_le (by omega)] at hown ⊢
          go_wp2_with fail
          go_ret
          exact ⟨Ak, ck, rfl, hown, hb⟩
theorem sconcat2 (w : World) (g : Nat) (hg : g = w.heap.size) (A1 A2 : Option Addr) (n1 n2 c1 c2 : Nat) (l1 l2 : List ByteArray) (e1 : n1 = l1.length) (e2 : n2 = l2.length)
    (p1 : VS w A1 (l1.map Value.string)) (p2 : VS w A2 (l2.map Value.string)) (hn : l1.length + l2.length ≤ 1000000) :
    Calls Tryz.prog 139 #[.slice (some ⟨g, 0, none⟩) 2 2] (w.alloc (.cells #[.slice A1 n1 c1, .slice A2 n2 c2] 32)) fun e w' => ∃ A c, e = .returned (.slice A (l1 ++ l2).length c) ∧ OR w' w.heap.size 9 A c ((l1 ++ l2).map Value.string) ∧ Below w.heap.size w w' := by
  subst hg e1 e2
  have hb := (Below.refl w.heap.size w).alloc (Nat.le_refl _) (.cells #[.slice A1 l1.length c1, .slice A2 l2.length c2] 32)
  have h := sconcat_any w.heap.size 0 2 [⟨A1, c1, l1⟩, ⟨A2, c2, l2⟩] (w.alloc (.cells #[.slice A1 l1.length c1, .slice A2 l2.length c2] 32))
    ⟨by simp, fun j s hj => by
      match j with
      | 0 => simp at hj; subst hj; simp
      | 1 => simp at hj; subst hj; simp
      | j + 2 => simp at hj, fun s hs => by
      simp at hs
      rcases hs with rfl | rfl
      · exact p1.below hb
      · exact p2.below hb⟩ (by simp [catS]; omega) (by simp)
  have e : catS [⟨A1, c1, l1⟩, ⟨A2, c2, l2⟩] = l1 ++ l2 := by simp [catS]
  rw [e] at h
  exact h.mono fun e w' ⟨A, c, h1, h2, h3⟩ => ⟨A, c, h1, h2.mono hb.size, hb.trans (h3.mono hb.size)⟩
end Go.Proofs.YtefdipjhjgmokaaGreatDoor

set_option linter.unusedVariables false
set_option linter.unusedSimpArgs false
namespace Go.Proofs.YtefdipjhjgmokaaGreatDoor
open Go.RowKit

set_option maxHeartbeats 400000 in
set_option maxRecDepth 100000 in
theorem igrow_any (n : Nat) (w : World) (hn : n ≤ 1000000) :
    Calls Tryz.prog 180 #[.slice none 0 0, .int .i64 n] w fun e w' => ∃ v, e = .returned v ∧ w'.ownsRow w.heap.size 3 1 v 0 [] ∧ Below w.heap.size w w' := by
  have h1 : ¬ ((n : Int) < 0) := by omega
  rcases Nat.eq_zero_or_pos n with h0 | h0
  · subst h0
    go_enter Tryz.func180, Tryz.ntmps180
    go_wp2
    go_ret
    exact ⟨_, rfl, World.ownsRow_nil w _ _ _, Below.refl _ _⟩
  · obtain ⟨i0, hi, hz0, hz1, hz2⟩ := info_parts intInfo
    have hrz : ∀ ty, (Builtin.append_ #[22, 3] ty #[.slice none 0 0, .int .i64 n]).run Tryz.prog w = _ := fun ty =>
      Lib.run_append_grow_zeros w 22 3 ty 3 i0 _ .i64 .i64 Tryz.underlying22 Tryz.underlying3 hi hz0 none 0 0 [] (run_firstCells_none w.drew i0.size 0 0 0) n h0 (by omega) (by omega) (by omega) (by rw [hz2]; omega)
        (growslice_fits (by omega) (by rw [hz2]; omega))
    have hGn : 0 + n ≤ grownCap w (0 + n) 0 3 := grownCap_ge w _ _ _
    have hGm := grownCap_le_maxLen w (0 + n) 0 3 (by unfold maxLen; omega)
    generalize grownCap w (0 + n) 0 3 = G at hrz hGn hGm
    obtain ⟨cur, hcur, hcs⟩ : ∃ cur : Array Value, ((([] : List Value).toArray ++ Builtin.zeroCells (Value.int .i64 0).cells n ++ Builtin.zeroCells (Value.int .i64 0).cells (G - (0 + n)))) = cur ∧ cur.size = G * 1 := by
      refine ⟨_, rfl, ?_⟩
      simp only [Array.size_append, size_zeroCells]
      simp [Value.cells]
      omega
    rw [hcur] at hrz
    have hrz' := fun ty => hideP (hrz ty)
    clear hrz hcur
    have hb : Below w.heap.size w (w.drew.alloc (.cells cur 3)) := (Below.refl _ w).drew.alloc (Nat.le_refl _) _
    have hG : G ≤ 9223372036854775807 := by unfold maxLen at hGm; omega
    go_enter Tryz.func180, Tryz.ntmps180
    go_wp2_with (at_builtin; refine Lib.wpList_append_run _ rfl _ _ _ _ rfl _ _ rfl rfl _ _ (hrz' _).out ?_)
    go_ret
    exact ⟨_, rfl, ⟨rfl, .inr ⟨w.heap.size, G, cur, rfl, Nat.le_refl _, heap_alloc_new w.drew _, Nat.zero_le _, hGm, hcs, rfl⟩⟩, hb⟩
/-- a slice of ints: where, its capacity, what it reads as -/
structure Ili where
  A : Option Addr
  c : Nat
  l : List Int
def catI (ss : List Ili) : List Int := ss.flatMap (·.l)
theorem catI_take (ss : List Ili) (k : Nat) (h : k < ss.length) : catI (ss.take (k + 1)) = catI (ss.take k) ++ (ss[k]).l := by
  unfold catI; rw [List.take_succ_eq_append_getElem h, List.flatMap_append]; simp
theorem catI_le (ss : List Ili) (k : Nat) : (catI (ss.take k)).length ≤ (catI ss).length := by
  have : catI ss = catI (ss.take k) ++ catI (ss.drop k) := by unfold catI; rw [← List.flatMap_append, List.take_append_drop]
  rw [this, List.length_append]; omega
structure IlsI (w : World) (g o : Nat) (ss : List Ili) : Prop where
  lt : g < w.heap.size
  cell : ∀ j s, ss[j]? = some s → w.cell? ⟨g, o + j, none⟩ = some (.slice s.A s.l.length s.c)
  vs : ∀ s ∈ ss, VS w s.A (s.l.map (Value.int .i64))
def ICInv (w : World) (ss : List Ili) (v i : Value) (wr : World) : Prop :=
  ∃ (k : Nat) (A : Option Addr) (c : Nat), k ≤ ss.length ∧ i = .int .i64 k ∧ v = .slice A (catI (ss.take k)).length c ∧ OR wr w.heap.size 3 A c ((catI (ss.take k)).map (Value.int .i64)) ∧ Below w.heap.size w wr

set_option maxHeartbeats 400000 in
set_option maxRecDepth 100000 in
theorem iconcat_any (g o c : Nat) (ss : List Ili) (w : World) (hS : IlsI w g o ss) (hn : (catI ss).length ≤ 1000000) (hs : ss.length ≤ 1000) :
    Calls Tryz.prog 140 #[.slice (some ⟨g, o, none⟩) ss.length c] w fun e w' => ∃ A c, e = .returned (.slice A (catI ss).length c) ∧ OR w' w.heap.size 3 A c ((catI ss).map (Value.int .i64)) ∧ Below w.heap.size w w' := by
  go_enter Tryz.func140, Tryz.ntmps140
  go_wp2_with fail
  go_loop [3, 11] (fun z i => ∃ k : Nat, k ≤ ss.length ∧ i = .int .i64 k ∧ z = .int .i64 ((catI (ss.take k)).length : Nat)) (fun _ i => ss.length - (intOf i).toNat)
  case atStart => exact ⟨0, Nat.zero_le _, rfl, rfl⟩
  case round =>
    obtain ⟨k, hk, rfl, rfl⟩ := hrel
    by_cases hlt : k < ss.length
    · have c1 := hS.cell k _ (List.getElem?_eq_getElem hlt)
      have h1 := catI_le ss (k + 1)
      have h2 := hideP (show (catI (ss.take (k + 1))).length = (catI (ss.take k)).length + (ss[k]).l.length by rw [catI_take ss k hlt, List.length_append])
      rw [catI_take ss k hlt, List.length_append] at h1
      generalize ss[k] = s at c1 h1 h2
      generalize (catI (ss.take k)).length = z at h1 h2 ⊢
      go_wp2_with fail
      go_round
      case rel => exact ⟨k + 1, by omega, by go_num, by rw [h2.out]; go_num⟩
      case measure => simp [intOf]; omega
    · have hz : (catI (ss.take k)).length = (catI ss).length := by rw [List.take_of_length_le (by omega)]
      rw [hz]
      clear hz
      go_wp2_with fail
      refine (igrow_any _ _ (by omega)).mono ?_
      rintro e w0 ⟨v0, rfl, hown0, hb0⟩
      obtain ⟨A0, c0, rfl, hO0⟩ := OR.of_own hown0
      go_wp2_with fail
      go_loopw [6, 27] (ICInv w ss) (fun _ i _ => ss.length - (intOf i).toNat)
      case atStart => exact ⟨0, A0, c0, Nat.zero_le _, rfl, rfl, hO0, hb0⟩
      case round =>
        obtain ⟨k, Ak, ck, hk, rfl, rfl, hown, hb⟩ := hrel
        by_cases hlt : k < ss.length
        · have c1 := (hb.cell (p := ⟨g, o + k, none⟩) hS.lt).trans (hS.cell k _ (List.getElem?_eq_getElem hlt))
          have hvs := (hS.vs _ (List.getElem_mem hlt)).below hb
          have hle := catI_le ss (k + 1)
          rw [catI_take ss k hlt, List.length_append] at hle
          obtain ⟨A', c', w1, hrun, hown', hg'⟩ := app_srcS (P := Tryz.prog) Tryz.underlying22 intInfo rfl wr w.heap.size 22 Ak ck _ hown (ss[k]).A (ss[k]).c _ hvs (by intro u hu; obtain ⟨x, _, rfl⟩ := List.mem_map.1 hu; rfl) (by simp; omega) (by decide) hb.size
          have hb1 : Below w.heap.size w w1 := hb.grown hg' hb.size (fun j hj => (World.ownsRow.lt hown j hj).1)
          rw [← List.map_append, ← catI_take ss k hlt] at hrun hown'
          simp only [List.length_map] at hrun
          have HR := hideP hrun
          clear hrun hown hvs hS hg'
          generalize ss[k] = s at c1 HR hle
          go_wp2_with (at_builtin; refine Lib.wpList_append_run _ rfl _ _ _ _ rfl _ _ rfl rfl _ _ HR.out ?_)
          go_roundw
          case rel => exact ⟨k + 1, A', c', by omega, by go_num, rfl, hown', hb1⟩
          case measure => simp [intOf]; omega
        · rw [List.take_of_length_le (by omega)] at hown ⊢
          go_wp2_with fail
          go_ret
          exact ⟨Ak, ck, rfl, hown, hb⟩
theorem iconcat2 (w : World) (g : Nat) (hg : g = w.heap.size) (A1 A2 : Option Addr) (n1 n2 c1 c2 : Nat) (l1 l2 : List Int) (e1 : n1 = l1.length) (e2 : n2 = l2.length)
    (p1 : VS w A1 (l1.map (Value.int .i64))) (p2 : VS w A2 (l2.map (Value.int .i64))) (hn : l1.length + l2.length ≤ 1000000) :
    Calls Tryz.prog 140 #[.slice (some ⟨g, 0, none⟩) 2 2] (w.alloc (.cells #[.slice A1 n1 c1, .slice A2 n2 c2] 22)) fun e w' => ∃ A c, e = .returned (.slice A (l1 ++ l2).length c) ∧ OR w' w.heap.size 3 A c ((l1 ++ l2).map (Value.int .i64)) ∧ Below w.heap.size w w' := by
  subst hg e1 e2
  have hb := (Below.refl w.heap.size w).alloc (Nat.le_refl _) (.cells #[.slice A1 l1.length c1, .slice A2 l2.length c2] 22)
  have h := iconcat_any w.heap.size 0 2 [⟨A1, c1, l1⟩, ⟨A2, c2, l2⟩] (w.alloc (.cells #[.slice A1 l1.length c1, .slice A2 l2.length c2] 22))
    ⟨by simp, fun j s hj => by
      match j with
      | 0 => simp at hj; subst hj; simp
      | 1 => simp at hj; subst hj; simp
      | j + 2 => simp at hj, fun s hs => by
      simp at hs
      rcases hs with rfl | rfl
      · exact p1.below hb
      · exact p2.below hb⟩ (by simp [catI]; omega) (by simp)
  have e : catI [⟨A1, c1, l1⟩, ⟨A2, c2, l2⟩] = l1 ++ l2 := by simp [catI]
  rw [e] at h
  exact h.mono fun e w' ⟨A, c, h1, h2, h3⟩ => ⟨A, c, h1, h2.mono hb.size, hb.trans (h3.mono hb.size)⟩
end Go.Proofs.YtefdipjhjgmokaaGreatDoor
