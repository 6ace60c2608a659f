/-
  Sets as maps from strings to bool, of the call's own: stores, look-ups (no body of the program in it).
-/
import Derived.Test.YtgcnbifgnaepnaaDoorKl
import Derived.Test.YtgcnbifgnaepnaaDoorSIndex
import Derived.Maps.Own
import Derived.Maps.OwnOps
import Derived.Maps.OwnSet
set_option linter.unusedVariables false
set_option linter.unusedSimpArgs false
namespace Go.Proofs.YtgcnbifgnaepnaaDoor
open Go.RowKit Go.WideMaps Go.Maps

structure BB where
  b : Bool
/-- is a key in the set? -/
def bv (D : DataW Unit) (k : ByteArray) : Bool := match D.atKey (kl k) (.lit (.bool false)) with
  | .lit (.bool c) => c
  | _ => false
theorem bv_none {D : DataW Unit} {k : ByteArray} (h : Maps.has D (kl k) = false) : bv D k = false := by unfold bv; rw [atKey_of_not_has h]
theorem bv_put_same {D : DataW Unit} (hD : IsMap D) (k : ByteArray) (c : Bool) : bv (D.put (kl k) (.lit (.bool c))) k = c := by unfold bv; rw [atKey_put_same hD (k := kl k) (show WideAt.IsKeyLit (kl k) from trivial)]
theorem bv_put_other {D : DataW Unit} {k j : ByteArray} (h : j ≠ k) (c : Bool) : bv (D.put (kl k) (.lit (.bool c))) j = bv D j := by
  unfold bv; rw [atKey_put_other (fun e => h (kl_inj e))]
theorem bv_empty (k : ByteArray) : bv (.map []) k = false := rfl
/-- a set of keys, as a map whose values are all true -/
structure KSet (D : DataW Unit) (ks : List ByteArray) : Prop where
  map : IsMap D
  has : ∀ k : ByteArray, Maps.has D (kl k) = true ↔ k ∈ ks
  val : ∀ k, bv D k = inB k ks
theorem KSet.empty : KSet (.map []) [] := ⟨isMap_empty, fun k => by simp [Maps.has], fun k => rfl⟩
theorem zeroB (w : World) : (zeroValue 4).run Tryd.prog w = .ok (.bool false) w := by kernel_rfl
theorem plainElem_bool_inv {P : Program} {t : TypeId} (he : P.underlying t = some .bool) {v : Value} {z : DataW Unit × List MemPlace} (h : plainElem P t v = some z) : ∃ a, v = .bool a ∧ z = (.lit (.bool a), []) := by
  unfold plainElem at h
  rw [he] at h
  cases v <;> simp at h
  subst h
  exact ⟨_, rfl, rfl⟩
set_option maxRecDepth 100000 in
theorem blook_any {w : World} {b n : Nat} {D : DataW Unit} (hown : w.ownsMap Tryd.prog 9 (plainElem Tryd.prog 4) b n D) (x : ByteArray) (hx : x.size ≤ maxLen) :
    (Instr.lookup 91 (.map (some b)) (.string x) false).run Tryd.prog w = .ok (.bool (bv D x)) w := by
  obtain ⟨v, ps, hrun, hv⟩ := hown.lookup law9 Tryd.underlying91 (zeroB w) (plainElem_bool Tryd.underlying4 false) (keyOf_string_mk Tryd.underlying9 hx)
  obtain ⟨c, rfl, hc⟩ := plainElem_bool_inv Tryd.underlying4 hv
  simp only [Prod.mk.injEq] at hc
  have : bv D x = c := by unfold bv; rw [show kl x = .string x.data.toList from rfl, hc.1]
  rw [this]; exact hrun
theorem KSet.put {D : DataW Unit} {ks : List ByteArray} (h : KSet D ks) (k : ByteArray) : KSet (D.put (kl k) (.lit (.bool true))) (ks ++ [k]) := by
  refine ⟨h.map.put _ _, fun j => ?_, fun j => ?_⟩
  · by_cases e : j = k
    · subst e; rw [has_put_same h.map (show WideAt.IsKeyLit (kl j) from trivial)]; simp
    · rw [has_put_other (fun e2 => e (kl_inj e2)), h.has, List.mem_append]
      exact ⟨.inl, fun h => h.elim id (fun h => absurd (by simpa using h) e)⟩
  · by_cases e : j = k
    · subst e; rw [bv_put_same h.map, inB_iff.2 (by simp)]
    · rw [bv_put_other e, h.val, Bool.eq_iff_iff, inB_iff, inB_iff, List.mem_append]
      exact ⟨.inl, fun h => h.elim id (fun h => absurd (by simpa using h) e)⟩
theorem KSet.congr {D : DataW Unit} {ks js : List ByteArray} (h : KSet D ks) (hk : ∀ k, k ∈ ks ↔ k ∈ js) : KSet D js :=
  ⟨h.map, fun k => (h.has k).trans (hk k), fun k => by rw [h.val, Bool.eq_iff_iff, inB_iff, inB_iff]; exact hk k⟩
/-- two sets of the call's own -/
structure Sets (w : World) (B b1 b2 n : Nat) (D1 D2 : DataW Unit) (ks js : List ByteArray) : Prop where
  m1 : w.ownsMap Tryd.prog 9 (plainElem Tryd.prog 4) b1 n D1
  m2 : w.ownsMap Tryd.prog 9 (plainElem Tryd.prog 4) b2 n D2
  k1 : KSet D1 ks
  k2 : KSet D2 js
  ne : b1 ≠ b2
  l1 : B ≤ b1
  l2 : B ≤ b2
section
variable {w w' : World} {B b1 b2 n : Nat} {D1 D2 : DataW Unit} {ks js : List ByteArray}
theorem Sets.symm (h : Sets w B b1 b2 n D1 D2 ks js) : Sets w B b2 b1 n D2 D1 js ks := ⟨h.m2, h.m1, h.k2, h.k1, fun e => h.ne e.symm, h.l2, h.l1⟩
theorem Sets.below (h : Sets w B b1 b2 n D1 D2 ks js) (hb : Below w.heap.size w w') : Sets w' B b1 b2 n D1 D2 ks js :=
  ⟨h.m1.kept (row := none) ⟨hb.os, hb.tape, hb.output, hb.size, fun k hk _ => hb.block k hk⟩ (by simp), h.m2.kept (row := none) ⟨hb.os, hb.tape, hb.output, hb.size, fun k hk _ => hb.block k hk⟩ (by simp), h.k1, h.k2, h.ne, h.l1, h.l2⟩
set_option maxRecDepth 100000 in
theorem Sets.put (h : Sets w B b1 b2 n D1 D2 ks js) (hn : n ≤ 1000000) (x : ByteArray) (hx : x.size ≤ maxLen) :
    ∃ w', (Instr.mapUpdate 91 (.map (some b1)) (.string x) (.bool true)).run Tryd.prog w = .ok () w' ∧ Sets w' B b1 b2 (n + 1) (D1.put (kl x) (.lit (.bool true))) D2 (ks ++ [x]) js ∧ w.grownBy w' (some b1) := by
  obtain ⟨w', hrun, hown, hg⟩ := h.m1.update law9 Tryd.underlying91 (by unfold maxLen; omega) (keyOf_string_mk Tryd.underlying9 hx) (plainElem_bool Tryd.underlying4 true)
  exact ⟨w', hrun, ⟨hown, (h.m2.mono (Nat.le_succ n)).kept hg (fun e => h.ne (by injection e with e; exact e.symm)), h.k1.put x, h.k2, h.ne, h.l1, h.l2⟩, hg⟩
end
end Go.Proofs.YtgcnbifgnaepnaaDoor
