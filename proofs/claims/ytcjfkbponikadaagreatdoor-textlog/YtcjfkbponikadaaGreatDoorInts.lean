/-
  Slices of ints in memory (no body of the program in it).
-/
import Derived.Test.YtcjfkbponikadaaGreatDoorNV
import Derived.WalkKit
import Derived.WalkSpells
import Derived.WalkLawsBesides
set_option linter.unusedVariables false
set_option linter.unusedSimpArgs false
namespace Go.Proofs.YtcjfkbponikadaaGreatDoor
open Go.RowKit

/-- a slice of ints that reads as a list -/
def IS (w : World) (A : Option Addr) (zs : List Int) : Prop := ∀ i z, zs[i]? = some z → ∃ b o, A = some ⟨b, o, none⟩ ∧ b < w.heap.size ∧ w.cell? ⟨b, o + i, none⟩ = some (.int .i64 z)
theorem IS.below {w w' : World} {A : Option Addr} {zs : List Int} (h : IS w A zs) (hb : Below w.heap.size w w') : IS w' A zs := fun i p hp => by
  obtain ⟨b, o, e, hlt, h1⟩ := h i p hp
  exact ⟨b, o, e, Nat.lt_of_lt_of_le hlt hb.size, (hb.cell hlt).trans h1⟩
theorem IS.nil {w : World} {A : Option Addr} : IS w A [] := fun i p hp => by simp at hp
theorem IS.take_ {w : World} {A : Option Addr} {zs : List Int} (h : IS w A zs) (q : Nat) : IS w A (zs.take q) := fun i p hp => by
  rw [List.getElem?_take] at hp
  split at hp
  · exact h i p hp
  · cases hp
theorem IS.drop_ {w : World} {b o : Nat} {zs : List Int} (h : IS w (some ⟨b, o, none⟩) zs) (q : Nat) : IS w (some ⟨b, o + q, none⟩) (zs.drop q) := fun i p hp => by
  rw [List.getElem?_drop] at hp
  obtain ⟨b', o', e, hlt, h1⟩ := h _ p hp
  injection e with e
  injection e with e1 e2 _
  subst e1; subst e2
  rw [← Nat.add_assoc] at h1
  exact ⟨_, _, rfl, hlt, h1⟩
/-- numbers as ints -/
def zI (l : List Nat) : List Int := l.map fun (k : Nat) => (k : Int)
theorem zI_len (l : List Nat) : (zI l).length = l.length := by simp [zI]
theorem VS.is_ {w : World} {A : Option Addr} {l : List Nat} (h : VS w A (nV l)) : IS w A (zI l) := fun i z hz => by
  have hi : i < l.length := by
    have := (List.getElem?_eq_some_iff.1 hz).1
    rwa [zI_len] at this
  have e : z = (l[i] : Int) := by
    have := (List.getElem?_eq_some_iff.1 hz).2
    simp [zI] at this
    exact this.symm
  subst e
  exact h i (.int .i64 (l[i] : Int)) (by simp [nV, hi])
theorem slice_some (b o n ct m : Nat) (hm : m ≤ n) (hc : n ≤ ct) (w : World) : (Instr.slice 26 (.slice (some ⟨b, o, none⟩) n ct) (some (.int .i64 (m : Int))) none none).run Tryz.prog w = .ok (.slice (if ct = m then some ⟨b, o, none⟩ else some ⟨b, o + m, none⟩) (n - m) (ct - m)) w := by
  have g0 : (0 : Int) ≤ (m : Int) := by omega
  have g1 : (m : Int) ≤ (n : Int) := by omega
  have g2 : (n : Int) ≤ (ct : Int) := by omega
  by_cases e : ct = m
  · subst e
    obtain rfl : n = ct := by omega
    clear hm hc
    go_simp
  · rw [if_neg e]
    go_simp
/-- a slice from a place on -/
theorem slice_from {T : Option Addr} {ct m : Nat} {zs : List Int} {w : World} (hI : IS w T zs) (h1 : 1 ≤ m) (hm : m ≤ zs.length) (hc : zs.length ≤ ct) :
    ∃ T', (∀ w, (Instr.slice 26 (.slice T zs.length ct) (some (.int .i64 (m : Int))) none none).run Tryz.prog w = .ok (.slice T' (zs.length - m) (ct - m)) w) ∧ IS w T' (zs.drop m) := by
  obtain ⟨b, o, rfl, _⟩ := hI 0 zs[0] (List.getElem?_eq_getElem (by omega))
  refine ⟨_, fun w => slice_some b o zs.length ct m hm hc w, ?_⟩
  by_cases e : ct = m
  · rw [if_pos e, List.drop_of_length_le (by omega)]; exact IS.nil
  · rw [if_neg e]; exact hI.drop_ m
end Go.Proofs.YtcjfkbponikadaaGreatDoor
