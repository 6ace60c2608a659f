/-
  rokeep.Within, keys and Key.
  rokeep.Pairs.
-/
import Derived.Test.YtgcnbifgnaepnaaGreatBd33
import Derived.Test.YtgcnbifgnaepnaaGreatBd31
import Derived.WalkKit
import Derived.WalkSpells
import Derived.WalkLawsBesides
import Derived.Deep.DeepMust
import Derived.Test.YtgcnbifgnaepnaaGreatBd42
set_option linter.unusedVariables false
set_option linter.unusedSimpArgs false
namespace Go.Proofs.YtgcnbifgnaepnaaGreat
open Go.RowKit

theorem valB_iff' {n : Int} : valB n = true ↔ -1000000000 ≤ n ∧ n ≤ 1000000000 := by simp [valB]
set_option maxHeartbeats 400000 in
theorem within_any (k : Int) (n : Nat) (h1 : 1 ≤ n) (h2 : n ≤ 1000) (w : World) :
    Calls Tryz.prog 13 #[.int .i64 k, .int .i64 n] w fun e w' => e = .returned (.int .i64 (wi k n)) ∧ w = w' := by
  go_enter Tryz.func13, Tryz.ntmps13
  go_wp2
  go_ret
  exact ⟨ret_int (wi_eq k n h1 h2), rfl⟩

/-- the keys that are used -/
def keysL : List ByteArray := [⟨#[97]⟩, ⟨#[98]⟩, ⟨#[99]⟩, ⟨#[100]⟩, ⟨#[109]⟩, ⟨#[110]⟩, ⟨#[122]⟩, ⟨#[97, 98]⟩]
def keyN (i : Nat) : ByteArray := keysL.getD i ⟨#[97]⟩
theorem keysL_ok : ∀ k ∈ keysL, keyB k = true := by decide +kernel
theorem keyN_mem {i : Nat} (h : i < 8) : keyN i ∈ keysL := by
  unfold keyN
  rw [List.getD_eq_getElem?_getD, List.getElem?_eq_getElem (by simpa [keysL] using h)]
  exact List.getElem_mem _
theorem keyN_ok {i : Nat} (h : i < 8) : keyB (keyN i) = true := keysL_ok _ (keyN_mem h)
theorem keyN_size {i : Nat} (h : i < 8) : (keyN i).size ≤ 6 := by
  have := keyN_ok h
  simp [keyB] at this
  exact this.1.2
def keysO : Obj := .cells #[.string ⟨#[97]⟩, .string ⟨#[98]⟩, .string ⟨#[99]⟩, .string ⟨#[100]⟩, .string ⟨#[109]⟩, .string ⟨#[110]⟩, .string ⟨#[122]⟩, .string ⟨#[97, 98]⟩] 9

set_option maxHeartbeats 400000 in
theorem keys_any (w : World) : Calls Tryz.prog 26 #[] w fun e w' => e = .returned (.slice (some ⟨w.heap.size, 0, none⟩) 8 8) ∧ w.alloc keysO = w' := by
  go_enter Tryz.func26, Tryz.ntmps26
  go_wp2
  go_ret
  exact ⟨rfl, rfl⟩
theorem keysO_cell (w : World) (i : Nat) (h : i < 8) : (w.alloc keysO).cell? ⟨w.heap.size, i, none⟩ = some (.string (keyN i)) := by
  unfold keysO
  rcases (show i = 0 ∨ i = 1 ∨ i = 2 ∨ i = 3 ∨ i = 4 ∨ i = 5 ∨ i = 6 ∨ i = 7 by omega) with rfl | rfl | rfl | rfl | rfl | rfl | rfl | rfl <;> simp [keyN, keysL]

set_option maxHeartbeats 400000 in
theorem rkey_any (k : Int) (w : World) : Calls Tryz.prog 14 #[.int .i64 k] w fun e w' => e = .returned (.string (keyN (wi k 8))) ∧ w.alloc keysO = w' := by
  have hlt := wi_lt k 8 (by omega)
  have hc := keysO_cell w (wi k 8) hlt
  go_enter Tryz.func14, Tryz.ntmps14
  go_wp2_with fail
  refine (keys_any _).mono ?_
  rintro e w' ⟨rfl, rfl⟩
  go_wp2_with fail
  refine (within_any k 8 (by omega) (by omega) _).mono ?_
  rintro e w' ⟨rfl, rfl⟩
  generalize hs : keyN (wi k 8) = s at hc
  have HS := hideP hs
  clear hs
  generalize hi : wi k 8 = i at hlt hc
  have HI := hideP hi
  clear hi
  generalize hw1 : w.alloc keysO = w1 at hc
  have HW := hideP hw1
  clear hw1
  have g1 : (0 : Int) ≤ (i : Int) := by omega
  have g2 : (i : Int) < 8 := by omega
  go_wp2_with fail
  go_ret
  exact ⟨by rw [← HS.out]; rfl, HW.out⟩

end Go.Proofs.YtgcnbifgnaepnaaGreat

set_option linter.unusedVariables false
set_option linter.unusedSimpArgs false
namespace Go.Proofs.YtgcnbifgnaepnaaGreat
open Go.RowKit Go.WideMaps Go.Maps

/-- a store of the used keys and small values -/
structure Small (l : List Pr) : Prop where
  ok : Ok l
  key : ∀ p ∈ l, p.1 ∈ keysL
  val : ∀ p ∈ l, -20 ≤ p.2 ∧ p.2 ≤ 20
  len : l.length ≤ 30
/-- such a store is handed back -/
def RetSmall (w : World) (e : Ending) (w' : World) : Prop := ∃ A c l, e = .returned (.slice A l.length c) ∧ SV w' A c l ∧ Small l ∧ Below w.heap.size w w'

/-- a map of the used keys and small values -/
def MSmall (D : DataW Unit) : Prop := IsMap D ∧ ∀ k, mv D k ≠ 0 → k ∈ keysL ∧ -20 ≤ mv D k ∧ mv D k ≤ 20
theorem MSmall.put {D : DataW Unit} (h : MSmall D) {k : ByteArray} (hk : k ∈ keysL) {c : Int} (hc : -20 ≤ c ∧ c ≤ 20) : MSmall (D.put (kl k) (.lit (.int .i64 c))) := by
  refine ⟨h.1.put _ _, fun j hj => ?_⟩
  by_cases e : j = k
  · subst e; rw [mv_put_same h.1]; exact ⟨hk, hc⟩
  · rw [mv_put_other e] at hj ⊢; exact h.2 j hj
theorem MSmall.lists {D : DataW Unit} {l : List Pr} (h : MSmall D) (hl : Lists D l) (hn : l.length ≤ 30) : Small l := by
  have hv : ∀ p ∈ l, mv D p.1 = p.2 := fun p hp => by rw [← hl.val, valOf_mem hl.srt hp]
  have hm : ∀ p ∈ l, p.1 ∈ keysL ∧ -20 ≤ p.2 ∧ p.2 ≤ 20 := fun p hp => by
    have h1 := hv p hp
    have := h.2 p.1 (by rw [h1]; exact hl.nz p hp)
    rw [h1] at this; exact this
  exact ⟨⟨hl.srt, fun p hp => keysL_ok _ (hm p hp).1, fun p hp => by have := (hm p hp).2; simp [valB]; omega, hl.nz⟩, fun p hp => (hm p hp).1, fun p hp => (hm p hp).2, hn⟩

set_option maxHeartbeats 1000000 in
set_option maxRecDepth 100000 in
theorem pairs_any (A : Option Addr) (c : Nat) (zs : List Int) (w : World) (hA : IS w A zs) (hl : zs.length ≤ c) (hc : c ≤ 9223372036854775807) (hn : A = none → c = 0) :
    Calls Tryz.prog 6 #[.slice A zs.length c] w (RetSmall w) := by
  have hmm := @run_makeMap Tryz.prog
  go_enter Tryz.func6, Tryz.ntmps6
  obtain ⟨m, hm⟩ : ∃ m : Nat, m = min zs.length 30 := ⟨_, rfl⟩
  have gx : max (m : Int) 0 = (m : Int) := by omega
  have hm1 : m ≤ zs.length := by omega
  have hm2 : m ≤ 30 := by omega
  rcases A with _ | ⟨b, o, sp⟩
  · obtain rfl := hn rfl
    have h0 : zs = [] := List.length_eq_zero_iff.1 (by omega)
    subst h0
    obtain rfl : m = 0 := by simpa using hm
    have g0 : min (0 : Int) 30 = 0 := by decide
    have g1 : max (0 : Int) 0 = 0 := by decide
    clear hA hm
    go_wp2_with fail
    go_loopw [13] (fun i wr => i = .int .i64 0 ∧ w.alloc (.map #[] 0) = wr) (fun _ _ => 0)
    case atStart => exact ⟨rfl, rfl⟩
    case round =>
      obtain ⟨rfl, rfl⟩ := hrel
      have hown : (w.alloc (.map #[] 0)).ownsMap (H := Unit) Tryz.prog 9 (plainElem Tryz.prog 3) w.heap.size 0 (.map []) := World.ownsMap_made _ _ _ _
      have hb : Below w.heap.size w (w.alloc (.map #[] 0)) := (Below.refl _ _).alloc (Nat.le_refl _) _
      have hD : MSmall (.map []) := ⟨isMap_empty, fun k h => absurd (mv_empty k) h⟩
      go_wp2_with fail
      refine (list_any w.heap.size 0 (.map []) _ hown (by simp [Maps.size])).mono ?_
      rintro e w' ⟨A', c', l', rfl, hsv, hli, hle, hb'⟩
      have hfin : RetSmall w (.returned (.slice A' l'.length c')) w' := ⟨A', c', l', rfl, hsv, hD.lists hli (by have : Maps.size (.map [] : DataW Unit) = 0 := rfl; omega), hb.trans (hb'.mono hb.size)⟩
      have HF := hideP hfin
      clear hfin hsv hli
      go_wp2_with fail
      go_ret
      exact HF.out
  · have gm : min (zs.length : Int) 30 = (m : Int) := by omega
    have g1 : (m : Int) ≤ (c : Int) := by omega
    have g2 : (0 : Int) ≤ (m : Int) := by omega
    clear hm hn
    go_wp2_with fail
    go_loopw [13] (fun i wr => ∃ (k : Nat) (D : DataW Unit), k ≤ m ∧ i = .int .i64 k ∧ wr.ownsMap Tryz.prog 9 (plainElem Tryz.prog 3) w.heap.size k D ∧ MSmall D ∧ Below w.heap.size w wr) (fun i _ => m - (intOf i).toNat)
    case atStart => exact ⟨0, .map [], Nat.zero_le _, rfl, World.ownsMap_made _ _ _ _, ⟨isMap_empty, fun k h => absurd (mv_empty k) h⟩, (Below.refl _ _).alloc (Nat.le_refl _) _⟩
    case round =>
      obtain ⟨k, D, hk, rfl, hown, hD, hb⟩ := hrel
      by_cases hlt : k < m
      · have hz : k < zs.length := by omega
        obtain ⟨b2, o2, e4, hbl, q1⟩ := (hA.below hb) k _ (List.getElem?_eq_getElem hz)
        injection e4 with e4
        injection e4 with e5 e6 e7
        subst e5; subst e6; subst e7
        generalize zs[k] = z at q1
        clear hA
        go_wp2_with fail
        refine (rkey_any k _).mono ?_
        rintro e w' ⟨rfl, rfl⟩
        go_wp2_with fail
        refine (within_any z 41 (by omega) (by omega) _).mono ?_
        rintro e w' ⟨rfl, rfl⟩
        have h8 := wi_lt k 8 (by omega)
        have h41 := wi_lt z 41 (by omega)
        generalize wi k 8 = i8 at h8
        generalize wi z 41 = i41 at h41
        have hmem := keyN_mem h8
        have hks := keyN_size h8
        generalize keyN i8 = s at hmem hks
        have hown2 := hown.alloc keysO
        have hb2 := hb.alloc hb.size keysO
        have hsz := hb.size
        generalize wr.alloc keysO = w2 at hown2 hb2
        go_wp2_with (first
          | (at_mapUpdate; go_must ( refine wpList_mapUpdate_own _ rfl _ _ _ 49 rfl 9 3 law9 Tryz.underlying49 _ w.heap.size k _ rfl hown2 (by unfold maxLen; omega) _ _ _ rfl rfl (keyOf_string_mk Tryz.underlying9 (by unfold maxLen; omega)) _ [] (plainElem_int Tryz.underlying3 (WalkArith.wf_i64 (by omega))) ?_); intro w3 hown3 hg3; go_frame)
          | go_in)
        go_roundw
        case rel => exact ⟨k + 1, _, by omega, by go_num, hown3, hD.put hmem (by omega), hb2.grown hg3 hb2.size (fun j hj => by cases hj; exact Nat.le_refl _)⟩
        case measure => simp [intOf]; omega
      · have hsd := hown.size_le
        go_wp2_with fail
        refine (list_any w.heap.size k D _ hown (by omega)).mono ?_
        rintro e w' ⟨A', c', l', rfl, hsv, hli, hle, hb'⟩
        have hfin : RetSmall w (.returned (.slice A' l'.length c')) w' := ⟨A', c', l', rfl, hsv, hD.lists hli (by omega), hb.trans (hb'.mono hb.size)⟩
        have HF := hideP hfin
        clear hfin hsv hli
        go_wp2_with fail
        go_ret
        exact HF.out
end Go.Proofs.YtgcnbifgnaepnaaGreat
