/-
  rokeep.lockBegun.
-/
import Derived.Test.YtibfemibkdnegaaLAdd
import Derived.Test.YtibfemibkdnegaaIEq
set_option linter.unusedVariables false
set_option linter.unusedSimpArgs false
namespace Go.Proofs.Ytibfemibkdnegaa
open Go.RowKit Go.WideMaps Go.Maps

theorem OS.lit1 (w W : World) (o : Opr) (t : TypeId) (hW : W = w.alloc (.cells #[.int .i64 o.kind, .string o.key, .string o.src, .int .i64 o.n] t)) (g : Nat) (hg : g = w.heap.size) : OS W W.heap.size (some ⟨g, 0, none⟩) [o] := by
  subst hW; subst hg
  intro i p hp
  cases i with
  | zero => simp at hp; subst hp; exact ⟨w.heap.size, 0, rfl, by simp, by simp, by simp, by simp, by simp⟩
  | succ i => simp at hp
def oA : Opr := ⟨1, ⟨#[97]⟩, ⟨#[]⟩, 0⟩
theorem oA_ok : chkD [oA] = 0 := by decide +kernel
theorem oA_rdy (A : Option Addr) (c : Nat) : rdyL ([] ++ [⟨0, A, c, [oA]⟩]) ([] ++ [⟨0, A, c, [oA]⟩]) = [0] := by
  have h : ruB [⟨0, A, c, [oA]⟩] ⟨0, A, c, [oA]⟩ = true := (ruB_iff (by simp [Asc]) (by simp)).2 fun x hx hlt => by simp at hx; subst hx; omega
  simp [rdyL, h]
theorem VS.lit0 (w : World) (t : TypeId) : VS (w.alloc (.cells #[.int .i64 0] t)) (some ⟨w.heap.size, 0, none⟩) (nV [0]) := fun i v hv => by
  cases i with
  | zero => simp [nV] at hv; subst hv; exact ⟨w.heap.size, 0, rfl, by simp, by simp⟩
  | succ i => simp [nV] at hv

set_option maxHeartbeats 1000000 in
set_option maxRecDepth 100000 in
theorem lbegun_any (w : World) : Calls Try.prog 5 #[] w fun e w' => e = .returned (.bool true) ∧ Below w.heap.size w w' := by
  go_enter Try.func5, Try.ntmps5
  go_wp2_with fail
  refine (new_any _).mono ?_
  rintro e w1 ⟨rfl, hT1, hb1, hlt1⟩
  go_wp2_with fail
  have hb2 := (Below.refl w1.heap.size w1).alloc (Nat.le_refl _) (.cells #[.int .i64 1, .string ⟨#[97]⟩, .string ⟨#[]⟩, .int .i64 0] 45)
  have hD := OS.lit1 w1 (w1.alloc (.cells #[.int .i64 1, .string ⟨#[97]⟩, .string ⟨#[]⟩, .int .i64 0] 45)) oA 45 rfl w1.heap.size rfl
  have hT2 := hT1.below hb2
  have hB2 := Nat.le_trans hb1.size hb2.size
  refine (add_any w.heap.size w.heap.size 0 [] (some ⟨w1.heap.size, 0, none⟩) 1 [oA] _ hT2 hB2 hD).mono ?_
  rintro e w3 ⟨he, hK3, hT3⟩
  have hv : addV 0 [oA] = (0, 0) := by unfold addV; rw [if_pos oA_ok, if_pos (by decide)]
  rw [hv] at he hT3
  subst he
  obtain ⟨A3, c3, hT4⟩ : ∃ A c, TB w3 w.heap.size w.heap.size (0 + 1) ([] ++ [⟨0, A, c, [oA]⟩]) := by
    rcases hT3 with ⟨_, h⟩ | ⟨h, _⟩
    · exact h
    · exact absurd rfl h
  have hb3 : Below w.heap.size w w3 := (hb1.trans (hb2.mono hb1.size)).trans hK3.bel
  clear hT1 hT2 hT3 hb1 hb2 hD hK3 hv
  have hrd := ready_any w.heap.size w.heap.size (0 + 1) _ w3 hT4
  rw [oA_rdy] at hrd
  have HRD := hideP hrd
  clear hrd
  go_wp2_with fail
  refine HRD.out.mono ?_
  rintro e w4 ⟨A5, c5, rfl, hO5, hb5⟩
  have hb6 := hb3.trans (hb5.mono hb3.size)
  have hb7 := (Below.refl w4.heap.size w4).alloc (Nat.le_refl _) (.cells #[.int .i64 0] 3)
  have h1 := hO5.vs.below hb7
  have h2 := VS.lit0 w4 3
  have hb8 := hb6.trans (hb7.mono hb6.size)
  clear hO5 hb5 hb3 HRD hT4
  go_wp2_with fail
  refine (iequal_same A5 (some ⟨w4.heap.size, 0, none⟩) c5 1 [0] _ h1 h2 (by simp)).mono ?_
  rintro e w5 ⟨rfl, hb9⟩
  have hb10 := hb8.trans (hb9.mono hb8.size)
  go_wp2_with fail
  go_ret
  exact ⟨rfl, hb10⟩
end Go.Proofs.Ytibfemibkdnegaa
