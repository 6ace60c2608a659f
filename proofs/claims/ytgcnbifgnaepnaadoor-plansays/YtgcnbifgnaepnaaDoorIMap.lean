/-
  Sets as maps from ints to bool, of the call's own: stores, look-ups (no body of the program in it).
-/
import Derived.Test.YtgcnbifgnaepnaaDoorOrdPl
import Derived.Test.YtgcnbifgnaepnaaDoorBMap
set_option linter.unusedVariables false
set_option linter.unusedSimpArgs false
namespace Go.Proofs.YtgcnbifgnaepnaaDoor
open Go.RowKit Go.WideMaps Go.Maps

/-- a number as a map's key -/
def ki (z : Int) : Lit := .int .i64 z
theorem ki_inj {a b : Int} (h : ki a = ki b) : a = b := by unfold ki at h; injection h
theorem law3 : Keyed Tryd.prog 3 := int_keyed Tryd.underlying3
/-- is a number in the set? -/
def bvI (D : DataW Unit) (k : Int) : Bool := match D.atKey (ki k) (.lit (.bool false)) with
  | .lit (.bool c) => c
  | _ => false
theorem bvI_put_same {D : DataW Unit} (hD : IsMap D) (k : Int) (c : Bool) : bvI (D.put (ki k) (.lit (.bool c))) k = c := by unfold bvI; rw [atKey_put_same hD (k := ki k) (show WideAt.IsKeyLit (ki k) from trivial)]
theorem bvI_put_other {D : DataW Unit} {k j : Int} (h : j ≠ k) (c : Bool) : bvI (D.put (ki k) (.lit (.bool c))) j = bvI D j := by
  unfold bvI; rw [atKey_put_other (fun e => h (ki_inj e))]
/-- a set of numbers, as a map whose values are all true -/
structure ISet (D : DataW Unit) (ks : List Int) : Prop where
  map : IsMap D
  val : ∀ k, bvI D k = inI k ks
theorem ISet.empty : ISet (.map []) [] := ⟨isMap_empty, fun k => rfl⟩
theorem ISet.put {D : DataW Unit} {ks : List Int} (h : ISet D ks) (k : Int) : ISet (D.put (ki k) (.lit (.bool true))) (ks ++ [k]) := by
  refine ⟨h.map.put _ _, fun j => ?_⟩
  by_cases e : j = k
  · subst e; rw [bvI_put_same h.map, inI_iff.2 (by simp)]
  · rw [bvI_put_other e, h.val, Bool.eq_iff_iff, inI_iff, inI_iff, List.mem_append]
    exact ⟨.inl, fun h => h.elim id (fun h => absurd (by simpa using h) e)⟩
/-- a set of the call's own -/
structure ISt (w : World) (B b n : Nat) (ks : List Int) : Prop where
  ex : ∃ D, w.ownsMap Tryd.prog 3 (plainElem Tryd.prog 4) b n D ∧ ISet D ks
  low : B ≤ b
theorem wfI {z : Int} (h0 : 0 ≤ z) (h1 : z ≤ 1000000) : (Lit.int .i64 z).wf = true := by
  have a : IntKind.i64.min = -9223372036854775808 := by decide +kernel
  have b : IntKind.i64.max = 9223372036854775807 := by decide +kernel
  simp only [Lit.wf, a, b, Bool.and_eq_true, decide_eq_true_eq]
  omega
section
variable {w w' : World} {B b n : Nat} {ks : List Int}
theorem ISt.below (h : ISt w B b n ks) (hb : Below w.heap.size w w') : ISt w' B b n ks := by
  obtain ⟨⟨D, h1, h2⟩, h3⟩ := h
  exact ⟨⟨D, h1.kept (row := none) ⟨hb.os, hb.tape, hb.output, hb.size, fun k hk _ => hb.block k hk⟩ (by simp), h2⟩, h3⟩
set_option maxRecDepth 100000 in
theorem ISt.look (h : ISt w B b n ks) {z : Int} (h0 : 0 ≤ z) (h1 : z ≤ 1000000) : (Instr.lookup 81 (.map (some b)) (.int .i64 z) false).run Tryd.prog w = .ok (.bool (inI z ks)) w := by
  obtain ⟨⟨D, hown, hs⟩, _⟩ := h
  obtain ⟨v, ps, hrun, hv⟩ := hown.lookup law3 Tryd.underlying81 (zeroB w) (plainElem_bool Tryd.underlying4 false) (keyOf_int_mk Tryd.underlying3 (wfI h0 h1))
  obtain ⟨c, rfl, hc⟩ := plainElem_bool_inv Tryd.underlying4 hv
  simp only [Prod.mk.injEq] at hc
  have : bvI D z = c := by unfold bvI; rw [show ki z = .int .i64 z from rfl, hc.1]
  rw [← hs.val, this]; exact hrun
set_option maxRecDepth 100000 in
theorem ISt.put (h : ISt w B b n ks) (hn : n ≤ 1000000) {z : Int} (h0 : 0 ≤ z) (h1 : z ≤ 1000000) :
    ∃ w', (Instr.mapUpdate 81 (.map (some b)) (.int .i64 z) (.bool true)).run Tryd.prog w = .ok () w' ∧ ISt w' B b (n + 1) (ks ++ [z]) ∧ w.grownBy w' (some b) := by
  obtain ⟨⟨D, hown, hs⟩, hl⟩ := h
  obtain ⟨w', hrun, hown', hg⟩ := hown.update law3 Tryd.underlying81 (by unfold maxLen; omega) (keyOf_int_mk Tryd.underlying3 (wfI h0 h1)) (plainElem_bool Tryd.underlying4 true)
  exact ⟨w', hrun, ⟨⟨_, hown', hs.put z⟩, hl⟩, hg⟩
theorem ISt.lt (h : ISt w B b n ks) : b < w.heap.size := by
  obtain ⟨⟨D, hown, hs⟩, hl⟩ := h
  exact hown.lt
end
theorem ISt.made (w : World) (B : Nat) (hB : B ≤ w.heap.size) : ISt (w.alloc (.map #[] 0)) B w.heap.size 0 [] :=
  ⟨⟨_, World.ownsMap_made (H := Unit) w Tryd.prog 3 (plainElem Tryd.prog 4), ISet.empty⟩, hB⟩
end Go.Proofs.YtgcnbifgnaepnaaDoor
