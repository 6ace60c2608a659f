/-
  rokeep.Pairs.
  The first rows of a slice of slices of ints.
-/
import Derived.Test.YtefdipjhjgmokaaGreatBv38
import Derived.Test.YtefdipjhjgmokaaGreatBv35
import Derived.Deep.DeepMust
import Derived.Test.YtefdipjhjgmokaaGreatBv2
set_option linter.unusedVariables false
set_option linter.unusedSimpArgs false
namespace Go.Proofs.YtefdipjhjgmokaaGreat
open Go.RowKit Go.WideMaps Go.Maps

/-- a store of the used keys and small values -/
structure Small (l : List Pr) : Prop where
  ok : Ok l
  key : ∀ p ∈ l, p.1 ∈ keysL
  val : ∀ p ∈ l, -20 ≤ p.2 ∧ p.2 ≤ 20
  len : l.length ≤ 30
/-- such a store is handed back -/
def RetSmall (w : World) (e : Ending) (w' : World) : Prop := ∃ A c l, e = .returned (.slice A l.length c) ∧ SV w' A c l ∧ Small l ∧ Below w.heap.size w w'

/-- a map of the used keys and small values -/
def MSmall (D : DataW Unit) : Prop := IsMap D ∧ ∀ k, mv D k ≠ 0 → k ∈ keysL ∧ -20 ≤ mv D k ∧ mv D k ≤ 20
theorem MSmall.put {D : DataW Unit} (h : MSmall D) {k : ByteArray} (hk : k ∈ keysL) {c : Int} (hc : -20 ≤ c ∧ c ≤ 20) : MSmall (D.put (kl k) (.lit (.int .i64 c))) := by
  refine ⟨h.1.put _ _, fun j hj => ?_⟩
  by_cases e : j = k
  · subst e; rw [mv_put_same h.1]; exact ⟨hk, hc⟩
  · rw [mv_put_other e] at hj ⊢; exact h.2 j hj
theorem MSmall.lists {D : DataW Unit} {l : List Pr} (h : MSmall D) (hl : Lists D l) (hn : l.length ≤ 30) : Small l := by
  have hv : ∀ p ∈ l, mv D p.1 = p.2 := fun p hp => by rw [← hl.val, valOf_mem hl.srt hp]
  have hm : ∀ p ∈ l, p.1 ∈ keysL ∧ -20 ≤ p.2 ∧ p.2 ≤ 20 := fun p hp => by
    have h1 := hv p hp
    have := h.2 p.1 (by rw [h1]; exact hl.nz p hp)
    rw [h1] at this; exact this
  exact ⟨⟨hl.srt, fun p hp => keysL_ok _ (hm p hp).1, fun p hp => by have := (hm p hp).2; simp [valB]; omega, hl.nz⟩, fun p hp => (hm p hp).1, fun p hp => (hm p hp).2, hn⟩

/-- the values of the store that numbers make -/
def prV (zs : List Int) : Nat → ByteArray → Int
  | 0 => fun _ => 0
  | k + 1 => fun j => if j = keyN (wi (k : Int) 8) then ((wi (zs.getD k 0) 41 : Nat) : Int) - 20 else prV zs k j
theorem prV_put {D : DataW Unit} (h : IsMap D) {zs : List Int} {k : Nat} (hk : k < zs.length) (hv : ∀ j, mv D j = prV zs k j) (j : ByteArray) : mv (D.put (kl (keyN (wi (k : Int) 8))) (.lit (.int .i64 (((wi zs[k] 41 : Nat) : Int) - 20)))) j = prV zs (k + 1) j := by
  have e : zs.getD k 0 = zs[k] := by simp [List.getD_eq_getElem?_getD, hk]
  unfold prV
  rw [e]
  by_cases ej : j = keyN (wi (k : Int) 8)
  · subst ej; rw [if_pos rfl, mv_put_same h]
  · rw [if_neg ej, mv_put_other ej, hv]
/-- the store that numbers make is handed back -/
def RetPr (w : World) (zs : List Int) (e : Ending) (w' : World) : Prop := ∃ A c l, e = .returned (.slice A l.length c) ∧ SV w' A c l ∧ Small l ∧ (∀ k, valOf l k = prV zs (min zs.length 30) k) ∧ Below w.heap.size w w'
/-- the same, in a new block -/
def RetPrF (w : World) (zs : List Int) (e : Ending) (w' : World) : Prop := ∃ A c l, e = .returned (.slice A l.length c) ∧ SV w' A c l ∧ Small l ∧ (∀ k, valOf l k = prV zs (min zs.length 30) k) ∧ Below w.heap.size w w' ∧ ∀ a, A = some a → w.heap.size ≤ a.block

set_option maxHeartbeats 1000000 in
set_option maxRecDepth 100000 in
theorem pairs_fr (A : Option Addr) (c : Nat) (zs : List Int) (w : World) (hA : IS w A zs) (hl : zs.length ≤ c) (hc : c ≤ 9223372036854775807) (hn : A = none → c = 0) :
    Calls Tryz.prog 9 #[.slice A zs.length c] w (RetPrF w zs) := by
  have hmm := @run_makeMap Tryz.prog
  go_enter Tryz.func9, Tryz.ntmps9
  obtain ⟨m, hm⟩ : ∃ m : Nat, m = min zs.length 30 := ⟨_, rfl⟩
  have gx : max (m : Int) 0 = (m : Int) := by omega
  have hm1 : m ≤ zs.length := by omega
  have hm2 : m ≤ 30 := by omega
  rcases A with _ | ⟨b, o, sp⟩
  · obtain rfl := hn rfl
    have h0 : zs = [] := List.length_eq_zero_iff.1 (by omega)
    subst h0
    obtain rfl : m = 0 := by simpa using hm
    have g0 : min (0 : Int) 30 = 0 := by decide
    have g1 : max (0 : Int) 0 = 0 := by decide
    clear hA hm
    go_wp2_with fail
    go_loopw [13] (fun i wr => i = .int .i64 0 ∧ w.alloc (.map #[] 0) = wr) (fun _ _ => 0)
    case atStart => exact ⟨rfl, rfl⟩
    case round =>
      obtain ⟨rfl, rfl⟩ := hrel
      have hown : (w.alloc (.map #[] 0)).ownsMap (H := Unit) Tryz.prog 9 (plainElem Tryz.prog 3) w.heap.size 0 (.map []) := World.ownsMap_made _ _ _ _
      have hb : Below w.heap.size w (w.alloc (.map #[] 0)) := (Below.refl _ _).alloc (Nat.le_refl _) _
      have hD : MSmall (.map []) := ⟨isMap_empty, fun k h => absurd (mv_empty k) h⟩
      go_wp2_with fail
      refine (list_fr w.heap.size 0 (.map []) _ hown (by simp [Maps.size])).mono ?_
      rintro e w' ⟨A', c', l', rfl, hsv, hli, hle, hb', hfr⟩
      have hfin : RetPrF w [] (.returned (.slice A' l'.length c')) w' := ⟨A', c', l', rfl, hsv, hD.lists hli (by have : Maps.size (.map [] : DataW Unit) = 0 := rfl; omega), fun k => by rw [hli.val, mv_empty]; rfl, hb.trans (hb'.mono hb.size), fun a ha => by have := hfr a ha; have := hb.size; omega⟩
      have HF := hideP hfin
      clear hfin hsv hli
      go_wp2_with fail
      go_ret
      exact HF.out
  · have gm : min (zs.length : Int) 30 = (m : Int) := by omega
    have g1 : (m : Int) ≤ (c : Int) := by omega
    have g2 : (0 : Int) ≤ (m : Int) := by omega
    have HM := hideP hm
    clear hm hn
    go_wp2_with fail
    go_loopw [13] (fun i wr => ∃ (k : Nat) (D : DataW Unit), k ≤ m ∧ i = .int .i64 k ∧ wr.ownsMap Tryz.prog 9 (plainElem Tryz.prog 3) w.heap.size k D ∧ MSmall D ∧ (∀ j, mv D j = prV zs k j) ∧ Below w.heap.size w wr) (fun i _ => m - (intOf i).toNat)
    case atStart => exact ⟨0, .map [], Nat.zero_le _, rfl, World.ownsMap_made _ _ _ _, ⟨isMap_empty, fun k h => absurd (mv_empty k) h⟩, fun j => mv_empty j, (Below.refl _ _).alloc (Nat.le_refl _) _⟩
    case round =>
      obtain ⟨k, D, hk, rfl, hown, hD, hmv, hb⟩ := hrel
      by_cases hlt : k < m
      · have hz : k < zs.length := by omega
        obtain ⟨b2, o2, e4, hbl, q1⟩ := (hA.below hb) k _ (List.getElem?_eq_getElem hz)
        injection e4 with e4
        injection e4 with e5 e6 e7
        subst e5; subst e6; subst e7
        have HPV := hideP (prV_put hD.1 hz hmv)
        generalize zs[k] = z at q1 HPV
        clear hA hmv
        go_wp2_with fail
        refine (rkey_any k _).mono ?_
        rintro e w' ⟨rfl, rfl⟩
        go_wp2_with fail
        refine (within_any z 41 (by omega) (by omega) _).mono ?_
        rintro e w' ⟨rfl, rfl⟩
        have h8 := wi_lt k 8 (by omega)
        have h41 := wi_lt z 41 (by omega)
        generalize wi k 8 = i8 at h8 HPV
        generalize wi z 41 = i41 at h41 HPV
        have hmem := keyN_mem h8
        have hks := keyN_size h8
        generalize keyN i8 = s at hmem hks HPV
        have hown2 := hown.alloc keysO
        have hb2 := hb.alloc hb.size keysO
        have hsz := hb.size
        generalize wr.alloc keysO = w2 at hown2 hb2
        go_wp2_with (first
          | (at_mapUpdate; go_must ( refine wpList_mapUpdate_own _ rfl _ _ _ 90 rfl 9 3 law9 Tryz.underlying90 _ w.heap.size k _ rfl hown2 (by unfold maxLen; omega) _ _ _ rfl rfl (keyOf_string_mk Tryz.underlying9 (by unfold maxLen; omega)) _ [] (plainElem_int Tryz.underlying3 (WalkArith.wf_i64 (by omega))) ?_); intro w3 hown3 hg3; go_frame)
          | go_in)
        go_roundw
        case rel => exact ⟨k + 1, _, by omega, by go_num, hown3, hD.put hmem (by omega), HPV.out, hb2.grown hg3 hb2.size (fun j hj => by cases hj; exact Nat.le_refl _)⟩
        case measure => simp [intOf]; omega
      · have hsd := hown.size_le
        go_wp2_with fail
        refine (list_fr w.heap.size k D _ hown (by omega)).mono ?_
        rintro e w' ⟨A', c', l', rfl, hsv, hli, hle, hb', hfr⟩
        have hfin : RetPrF w zs (.returned (.slice A' l'.length c')) w' := ⟨A', c', l', rfl, hsv, hD.lists hli (by omega), fun j => by rw [hli.val, hmv, ← HM.out, show k = m by omega], hb.trans (hb'.mono hb.size), fun a ha => by have := hfr a ha; have := hb.size; omega⟩
        have HF := hideP hfin
        clear hfin hsv hli
        go_wp2_with fail
        go_ret
        exact HF.out
theorem pairs_is (A : Option Addr) (c : Nat) (zs : List Int) (w : World) (hA : IS w A zs) (hl : zs.length ≤ c) (hc : c ≤ 9223372036854775807) (hn : A = none → c = 0) :
    Calls Tryz.prog 9 #[.slice A zs.length c] w (RetPr w zs) :=
  (pairs_fr A c zs w hA hl hc hn).mono fun e w' ⟨A', c', l', h1, h2, h3, h4, h5, _⟩ => ⟨A', c', l', h1, h2, h3, h4, h5⟩
theorem pairs_any (A : Option Addr) (c : Nat) (zs : List Int) (w : World) (hA : IS w A zs) (hl : zs.length ≤ c) (hc : c ≤ 9223372036854775807) (hn : A = none → c = 0) :
    Calls Tryz.prog 9 #[.slice A zs.length c] w (RetSmall w) :=
  (pairs_is A c zs w hA hl hc hn).mono fun e w' ⟨A', c', l', h1, h2, h3, _, h4⟩ => ⟨A', c', l', h1, h2, h3, h4⟩
end Go.Proofs.YtefdipjhjgmokaaGreat

set_option linter.unusedVariables false
set_option linter.unusedSimpArgs false
namespace Go.Proofs.YtefdipjhjgmokaaGreat
open Go.RowKit

theorem slice_rows (T : Option Addr) (n ct m : Nat) (z : Int) (hz : z = (m : Int)) (hm : m ≤ ct) (hn : T = none → ct = 0) (w : World) : (Instr.slice 23 (.slice T n ct) none (some (.int .i64 z)) none).run Tryz.prog w = .ok (.slice T m ct) w := by
  subst hz
  have g1 : (0 : Int) ≤ (m : Int) := by omega
  have g2 : (m : Int) ≤ (ct : Int) := by omega
  cases T with
  | none =>
    obtain rfl := hn rfl
    obtain rfl : m = 0 := by omega
    clear hn hm
    go_simp
  | some a =>
    clear hn hm
    go_simp
end Go.Proofs.YtefdipjhjgmokaaGreat
