/-
  Slices of one-cell values in memory: what they read as, rows of the call's own, append (no body of the program in it).
-/
import Derived.Test.YtmepmiokpcddbabGreatDoorBz2
import Derived.Test.YtmepmiokpcddbabGreatDoorProg
import Derived.Maps.AppendAt
import Derived.Deep.AppendLies
import Derived.Lib.AppendZerosOnto
import Derived.OwnWalk
set_option linter.unusedVariables false
set_option linter.unusedSimpArgs false
namespace Go.Proofs.YtmepmiokpcddbabGreatDoor
open Go.RowKit

/-- a slice reads as a list of values -/
def VS (w : World) (A : Option Addr) (vs : List Value) : Prop := ∀ i v, vs[i]? = some v → ∃ b o, A = some ⟨b, o, none⟩ ∧ b < w.heap.size ∧ w.cell? ⟨b, o + i, none⟩ = some v
theorem VS.below {w w' : World} {A : Option Addr} {vs : List Value} (h : VS w A vs) (hb : Below w.heap.size w w') : VS w' A vs := fun i p hp => by
  obtain ⟨b, o, e, hlt, h1⟩ := h i p hp
  exact ⟨b, o, e, Nat.lt_of_lt_of_le hlt hb.size, (hb.cell hlt).trans h1⟩
theorem VS.nil {w : World} {A : Option Addr} : VS w A [] := fun i p hp => by simp at hp
theorem VS.take_ {w : World} {A : Option Addr} {vs : List Value} (h : VS w A vs) (q : Nat) : VS w A (vs.take q) := fun i p hp => by
  rw [List.getElem?_take] at hp
  split at hp
  · exact h i p hp
  · cases hp
theorem VS.drop_ {w : World} {b o : Nat} {vs : List Value} (h : VS w (some ⟨b, o, none⟩) vs) (q : Nat) : VS w (some ⟨b, o + q, none⟩) (vs.drop q) := fun i p hp => by
  rw [List.getElem?_drop] at hp
  obtain ⟨b', o', e, hlt, h1⟩ := h _ p hp
  injection e with e
  injection e with e1 e2 _
  subst e1; subst e2
  rw [← Nat.add_assoc] at h1
  exact ⟨_, _, rfl, hlt, h1⟩
/-- a slice that the call itself has made: its row lies from block B on -/
def OR (w : World) (B : Nat) (t : TypeId) (A : Option Addr) (c : Nat) (xs : List Value) : Prop := w.ownsRow B t 1 (.slice A xs.length c) xs.length xs
section
variable {w w' : World} {B B' : Nat} {t : TypeId} {A : Option Addr} {c : Nat} {xs : List Value}
theorem OR.mono (h : OR w B t A c xs) (hB : B' ≤ B) : OR w B' t A c xs :=
  ⟨h.1, h.2.imp id fun ⟨g, cap, cur, h1, h2, h3⟩ => ⟨g, cap, cur, h1, Nat.le_trans hB h2, h3⟩⟩
theorem OR.below (h : OR w B t A c xs) (hb : Below w.heap.size w w') : OR w' B t A c xs :=
  ⟨h.1, h.2.imp id fun ⟨g, cap, cur, h1, h2, h3, h4⟩ => ⟨g, cap, cur, h1, h2, (hb.block g (Array.getElem?_eq_some_iff.1 h3).1).trans h3, h4⟩⟩
theorem OR.vs (h : OR w B t A c xs) : VS w A xs := by
  rcases Nat.eq_zero_or_pos xs.length with h0 | h0
  · rw [List.length_eq_zero_iff.1 h0]; exact VS.nil
  · obtain ⟨g, cap, hv, _, hlt⟩ := World.ownsRow.form h h0
    injection hv with a b d
    subst a; subst d
    refine fun i p hp => ⟨g, 0, rfl, hlt, ?_⟩
    have := h.cells (g := g) rfl _ _ hp
    rw [Addr.add_lit] at this
    exact this
theorem OR.of_own {n : Nat} {v : Value} (h : w.ownsRow B t 1 v n xs) : ∃ A c, v = .slice A xs.length c ∧ OR w B t A c xs := by
  have hn : n = xs.length := by have := h.1; omega
  subst hn
  rcases h.2 with ⟨rfl, h0⟩ | ⟨g, cap, cur, rfl, h2⟩
  · exact ⟨none, 0, by rw [h0], by unfold OR; rw [h0]; exact h0 ▸ h⟩
  · exact ⟨_, _, rfl, h⟩
theorem OR.nil (w : World) (B : Nat) (t : TypeId) : OR w B t none 0 [] := World.ownsRow_nil w _ _ _
theorem OR.caps (h : OR w B t A c xs) : xs.length ≤ c ∧ c ≤ maxLen ∧ (A = none → c = 0) ∧ (∀ a, A = some a → ∃ g, a = ⟨g, 0, none⟩ ∧ B ≤ g ∧ g < w.heap.size) := by
  rcases h.2 with ⟨hv, h0⟩ | ⟨g, cap, cur, hv, h2, h3, h4, h5, _⟩
  · injection hv with a b d
    subst a; subst d
    exact ⟨by omega, Nat.zero_le _, (fun _ => rfl), (fun a e => by cases e)⟩
  · injection hv with a b d
    subst a; subst d
    exact ⟨h4, h5, (fun e => by cases e), (fun a e => by injection e with e; exact ⟨g, e.symm, h2, (Array.getElem?_eq_some_iff.1 h3).1⟩)⟩
end
/-- append of new values onto a row of the call's own -/
theorem app_row {P : Program} {st t : TypeId} {z : Value} {bytes : Nat} (hS : P.underlying st = some (.slice t)) (hI : (P.info? t).map (fun i => (i.zero, i.size, i.bytes)) = some (some z, 1, bytes)) (hz : z.cells.size = 1)
    (w : World) (base : Nat) (ty : TypeId) (A : Option Addr) (c : Nat) (xs : List Value) (hown : OR w base t A c xs) (news : List Value) (h1 : ∀ u ∈ news, u.oneCell' = true)
    (h63 : (xs.length + news.length) * bytes ≤ 140737488355328) (hby : 1 ≤ bytes) (hbase : base ≤ w.heap.size) :
    ∃ A' c' w', (Builtin.append_ #[st, st] ty #[.slice A xs.length c, .slice (some ⟨w.heap.size, 0, none⟩) news.length news.length]).run P (w.alloc (.cells news.toArray t)) = .ok (.slice A' (xs ++ news).length c') w' ∧ OR w' base t A' c' (xs ++ news) ∧ (∀ B a, B ≤ base → Below B a w → Below B a w') ∧ (w.alloc (.cells news.toArray t)).grownBy w' (Value.slice A xs.length c).ownBlock ∧
      ((Value.slice A' (xs ++ news).length c').ownBlock = (Value.slice A xs.length c).ownBlock ∨ (Value.slice A' (xs ++ news).length c').ownBlock = some (w.heap.size + 1)) := by
  obtain ⟨i0, hi, hz0, hz1, hz2⟩ := info_parts hI
  have hle : xs.length + news.length ≤ 140737488355328 := Nat.le_trans (Nat.le_mul_of_pos_right _ hby) h63
  have hm : xs.length + news.length ≤ maxLen := by unfold maxLen; omega
  have hc : ∀ j u, news[j]? = some u → (w.alloc (.cells news.toArray t)).cell? ((⟨w.heap.size, 0, none⟩ : Addr).add j) = some u := by
    intro j u hu
    rw [Addr.add_lit]
    simp only [World.cell?]
    rw [heap_alloc_new]
    simp [hu]
  have hown' : (w.alloc (.cells news.toArray t)).ownsRow base t 1 (.slice A xs.length c) xs.length xs := World.ownsRow.alloc hown _
  obtain ⟨v', w', hrun, h2, h3, _, h5⟩ := run_append_own_at (P := P) (w.alloc (.cells news.toArray t)) base st ty t i0 _ 1 bytes hS hi hz0 hz1 hz2 hz (by decide) _ xs.length xs hown' ⟨w.heap.size, 0, none⟩ news.length news.length news (by simp) hc h1 hm h63 (by simp; omega)
  rw [← List.length_append] at h2
  obtain ⟨A', c', rfl, ho⟩ := OR.of_own h2
  refine ⟨A', c', w', hrun, ho, fun B a hB hb => ?_, h3, by simpa using h5⟩
  have hb' := hb.alloc (Nat.le_trans hB hbase) (.cells news.toArray t)
  exact hb'.grown h3 (by simp; omega) fun k hk => Nat.le_trans hB (World.ownsRow.lt hown' k hk).1
/-- rows that lie apart -/
theorem rows_apart {v v' : Value} {m : Nat} (h1 : ∀ k, v.ownBlock = some k → m ≤ k) (h2 : ∀ k, v'.ownBlock = some k → k < m) : v.ownBlock = none ∨ v.ownBlock ≠ v'.ownBlock := by
  cases h : v.ownBlock with
  | none => exact .inl rfl
  | some k => exact .inr fun e => by have := h1 k h; have := h2 k e.symm; omega
theorem boolInfo : (Tryz.prog.info? 4).map (fun i => (i.zero, i.size, i.bytes)) = some (some (.bool false), 1, 1) := by kernel_rfl
theorem strInfo : (Tryz.prog.info? 9).map (fun i => (i.zero, i.size, i.bytes)) = some (some (.string ByteArray.empty), 1, 16) := by kernel_rfl
end Go.Proofs.YtmepmiokpcddbabGreatDoor
