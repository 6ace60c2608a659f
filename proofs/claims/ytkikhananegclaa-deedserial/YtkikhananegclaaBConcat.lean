/-
  slices.Concat of two, at bools.
-/
import Derived.Test.YtkikhananegclaaBools
set_option linter.unusedVariables false
set_option linter.unusedSimpArgs false
namespace Go.Proofs.Ytkikhananegclaa
open Go.RowKit

/-- a slice of bools: where, its capacity, what it reads as -/
structure Bl where
  A : Option Addr
  c : Nat
  l : List Bool
def catB (ss : List Bl) : List Bool := ss.flatMap (·.l)
theorem catB_take (ss : List Bl) (k : Nat) (h : k < ss.length) : catB (ss.take (k + 1)) = catB (ss.take k) ++ (ss[k]).l := by
  unfold catB; rw [List.take_succ_eq_append_getElem h, List.flatMap_append]; simp
theorem catB_le (ss : List Bl) (k : Nat) : (catB (ss.take k)).length ≤ (catB ss).length := by
  have : catB ss = catB (ss.take k) ++ catB (ss.drop k) := by unfold catB; rw [← List.flatMap_append, List.take_append_drop]
  rw [this, List.length_append]; omega
structure Bls (w : World) (g o : Nat) (ss : List Bl) : Prop where
  lt : g < w.heap.size
  cell : ∀ j s, ss[j]? = some s → w.cell? ⟨g, o + j, none⟩ = some (.slice s.A s.l.length s.c)
  vs : ∀ s ∈ ss, VS w s.A (s.l.map Value.bool)
def BInv (w : World) (ss : List Bl) (v i : Value) (wr : World) : Prop :=
  ∃ (k : Nat) (A : Option Addr) (c : Nat), k ≤ ss.length ∧ i = .int .i64 k ∧ v = .slice A (catB (ss.take k)).length c ∧ OR wr w.heap.size 4 A c ((catB (ss.take k)).map Value.bool) ∧ Below w.heap.size w wr

set_option maxHeartbeats 400000 in
set_option maxRecDepth 100000 in
theorem bconcat_any (g o c : Nat) (ss : List Bl) (w : World) (hS : Bls w g o ss) (hn : (catB ss).length ≤ 1000000) (hs : ss.length ≤ 1000) :
    Calls Try.prog 23 #[.slice (some ⟨g, o, none⟩) ss.length c] w fun e w' => ∃ A c, e = .returned (.slice A (catB ss).length c) ∧ OR w' w.heap.size 4 A c ((catB ss).map Value.bool) ∧ Below w.heap.size w w' := by
  go_enter Try.func23, Try.ntmps23
  go_wp2_with fail
  go_loop [3, 11] (fun z i => ∃ k : Nat, k ≤ ss.length ∧ i = .int .i64 k ∧ z = .int .i64 ((catB (ss.take k)).length : Nat)) (fun _ i => ss.length - (intOf i).toNat)
  case atStart => exact ⟨0, Nat.zero_le _, rfl, rfl⟩
  case round =>
    obtain ⟨k, hk, rfl, rfl⟩ := hrel
    by_cases hlt : k < ss.length
    · have c1 := hS.cell k _ (List.getElem?_eq_getElem hlt)
      have h1 := catB_le ss (k + 1)
      have h2 := hideP (show (catB (ss.take (k + 1))).length = (catB (ss.take k)).length + (ss[k]).l.length by rw [catB_take ss k hlt, List.length_append])
      rw [catB_take ss k hlt, List.length_append] at h1
      generalize ss[k] = s at c1 h1 h2
      generalize (catB (ss.take k)).length = z at h1 h2 ⊢
      go_wp2_with fail
      go_round
      case rel => exact ⟨k + 1, by omega, by go_num, by rw [h2.out]; go_num⟩
      case measure => simp [intOf]; omega
    · have hz : (catB (ss.take k)).length = (catB ss).length := by rw [List.take_of_length_le (by omega)]
      rw [hz]
      clear hz
      go_wp2_with fail
      refine (bgrow_any _ _ (by omega)).mono ?_
      rintro e w0 ⟨v0, rfl, hown0, hb0⟩
      obtain ⟨A0, c0, rfl, hO0⟩ := OR.of_own hown0
      go_wp2_with fail
      go_loopw [6, 27] (BInv w ss) (fun _ i _ => ss.length - (intOf i).toNat)
      case atStart => exact ⟨0, A0, c0, Nat.zero_le _, rfl, rfl, hO0, hb0⟩
      case round =>
        obtain ⟨k, Ak, ck, hk, rfl, rfl, hown, hb⟩ := hrel
        by_cases hlt : k < ss.length
        · have c1 := (hb.cell (p := ⟨g, o + k, none⟩) hS.lt).trans (hS.cell k _ (List.getElem?_eq_getElem hlt))
          have hvs := (hS.vs _ (List.getElem_mem hlt)).below hb
          have hle := catB_le ss (k + 1)
          rw [catB_take ss k hlt, List.length_append] at hle
          obtain ⟨A', c', w1, hrun, hown', hg'⟩ := app_src (P := Try.prog) Try.underlying56 boolInfo rfl wr w.heap.size 56 Ak ck _ hown (ss[k]).A (ss[k]).c _ hvs (by intro u hu; obtain ⟨x, _, rfl⟩ := List.mem_map.1 hu; rfl) (by simp; omega) (by decide) hb.size
          have hb1 : Below w.heap.size w w1 := hb.grown hg' hb.size (fun j hj => (World.ownsRow.lt hown j hj).1)
          rw [← List.map_append, ← catB_take ss k hlt] at hrun hown'
          simp only [List.length_map] at hrun
          have HR := hideP hrun
          clear hrun hown hvs hS hg'
          generalize ss[k] = s at c1 HR hle
          go_wp2_with (at_builtin; refine Lib.wpList_append_run _ rfl _ _ _ _ rfl _ _ rfl rfl _ _ HR.out ?_)
          go_roundw
          case rel => exact ⟨k + 1, A', c', by omega, by go_num, rfl, hown', hb1⟩
          case measure => simp [intOf]; omega
        · rw [List.take_of_length_le (by omega)] at hown ⊢
          go_wp2_with fail
          go_ret
          exact ⟨Ak, ck, rfl, hown, hb⟩
theorem bconcat2 (w : World) (g : Nat) (hg : g = w.heap.size) (A1 A2 : Option Addr) (n1 n2 c1 c2 : Nat) (l1 l2 : List Bool) (e1 : n1 = l1.length) (e2 : n2 = l2.length)
    (p1 : VS w A1 (l1.map Value.bool)) (p2 : VS w A2 (l2.map Value.bool)) (hn : l1.length + l2.length ≤ 1000000) :
    Calls Try.prog 23 #[.slice (some ⟨g, 0, none⟩) 2 2] (w.alloc (.cells #[.slice A1 n1 c1, .slice A2 n2 c2] 56)) fun e w' => ∃ A c, e = .returned (.slice A (l1 ++ l2).length c) ∧ OR w' w.heap.size 4 A c ((l1 ++ l2).map Value.bool) ∧ Below w.heap.size w w' := by
  subst hg e1 e2
  have hb := (Below.refl w.heap.size w).alloc (Nat.le_refl _) (.cells #[.slice A1 l1.length c1, .slice A2 l2.length c2] 56)
  have h := bconcat_any w.heap.size 0 2 [⟨A1, c1, l1⟩, ⟨A2, c2, l2⟩] (w.alloc (.cells #[.slice A1 l1.length c1, .slice A2 l2.length c2] 56))
    ⟨by simp, fun j s hj => by
      match j with
      | 0 => simp at hj; subst hj; simp
      | 1 => simp at hj; subst hj; simp
      | j + 2 => simp at hj, fun s hs => by
      simp at hs
      rcases hs with rfl | rfl
      · exact p1.below hb
      · exact p2.below hb⟩ (by simp [catB]; omega) (by simp)
  have e : catB [⟨A1, c1, l1⟩, ⟨A2, c2, l2⟩] = l1 ++ l2 := by simp [catB]
  rw [e] at h
  exact h.mono fun e w' ⟨A, c, h1, h2, h3⟩ => ⟨A, c, h1, h2.mono hb.size, hb.trans (h3.mono hb.size)⟩
end Go.Proofs.Ytkikhananegclaa
