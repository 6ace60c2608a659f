/-
  What package text calls of strconv and strings: contracts in the words of these texts.
  Boxed variables of the call's own (no program in it).
  A box of four cells that is written (no program in it).
-/
import Derived.Test.YtmepmiokpcddbabGreatDoorBz1
import Derived.Test.YtmepmiokpcddbabGreatDoorBz4
import Derived.Test.YtmepmiokpcddbabGreatDoorBz5
import Derived.Lib.SmallJoins
import Derived.WalkKit
import Derived.WalkSpells
import Derived.WalkLawsBesides
import Derived.Test.YtmepmiokpcddbabGreatDoorBz2
import Derived.OwnWalk
set_option linter.unusedVariables false
set_option linter.unusedSimpArgs false
namespace Go.Proofs.YtmepmiokpcddbabGreatDoor
open Go.RowKit Go.Lib

/-- the two package variables that are read -/
structure Gl (w : World) : Prop where
  tab : TabIs Tryz.prog w "internal/strconv.uint64pow10" .u64 pow10Tab
  err : ∃ ev, w.cell? ⟨Tryz.atoiL_ren.g 15, 0, none⟩ = some ev ∧ (ev = .nilIface ∨ ∃ te pe, ev = .iface te pe)
theorem Gl.below {w w' : World} (h : Gl w) (hb : Below w.heap.size w w') : Gl w' := by
  obtain ⟨ev, h1, h2⟩ := h.err
  exact ⟨Go.Joins.tab_stays (g := (Tryz.prog.globalNamed "internal/strconv.uint64pow10").getD 0) (by kernel_rfl) h.tab hb (Nat.le_refl _), ev, (hb.cell (cell_lt h1)).trans h1, h2⟩
theorem below_drewN {B : Nat} {a w : World} (h : Below B a w) (n : Nat) : Below B a (w.drewN n) := h.trans ⟨rfl, rfl, rfl, Nat.le_refl _, fun _ _ => rfl⟩
theorem below_grow {w : World} {k : Nat} {os : Array Obj} : Below w.heap.size w (Sort.grow (w.drewN k) os) :=
  (below_drewN (Below.refl w.heap.size w) k).trans ⟨rfl, rfl, rfl, by simp [Sort.grow], fun i hi => by simp [Sort.grow, World.drewN, Array.getElem?_append, hi]⟩
theorem itoa_any (n : Int) (h0 : -9223372036854775808 ≤ n) (h1 : n ≤ 9223372036854775807) (w : World) (hg : Gl w) :
    Calls Tryz.prog 67 #[.int .i64 n] w fun e w' => e = .returned (.string (bs (itoa n))) ∧ Below w.heap.size w w' := by
  refine (Any.strconv_Itoa Tryz.itoaL n h0 h1 w hg.tab).mono ?_
  rintro e w' ⟨rfl, k, os, rfl⟩
  exact ⟨rfl, below_grow⟩
theorem parse_len (l : List UInt8) : ∀ acc, (acc + 1) * 10 ^ l.length ≤ 1000000000000000000 → parseUint10 acc l ≠ .range ∧ ∀ u, parseUint10 acc l = .ok u → u < (acc + 1) * 10 ^ l.length := by
  induction l with
  | nil => intro acc h; exact ⟨(fun e => by cases e), fun u e => by injection e with e; subst e; simp⟩
  | cons c l ih =>
    intro acc h
    rw [List.length_cons, Nat.pow_succ] at h
    have hp : 1 ≤ 10 ^ l.length := Nat.one_le_pow _ _ (by decide)
    have h1 : acc + 1 ≤ (acc + 1) * 10 ^ l.length := Nat.le_mul_of_pos_right _ hp
    have h2 : (acc + 1) * (10 ^ l.length * 10) = (acc + 1) * 10 ^ l.length * 10 := by rw [Nat.mul_assoc]
    rw [h2] at h
    rw [parseUint10]
    by_cases hd : 48 ≤ c.toNat ∧ c.toNat ≤ 57
    · rw [if_pos hd, if_neg (by omega), if_neg (by omega)]
      have h3 : (acc * 10 + (c.toNat - 48) + 1) * 10 ^ l.length ≤ (acc + 1) * 10 * 10 ^ l.length := Nat.mul_le_mul_right _ (by omega)
      have h4 : (acc + 1) * 10 * 10 ^ l.length = (acc + 1) * 10 ^ l.length * 10 := by rw [Nat.mul_assoc, Nat.mul_comm 10, ← Nat.mul_assoc]
      obtain ⟨g1, g2⟩ := ih (acc * 10 + (c.toNat - 48)) (by omega)
      refine ⟨g1, fun u e => ?_⟩
      have := g2 u e
      rw [List.length_cons, Nat.pow_succ, h2]
      omega
    · rw [if_neg hd]; exact ⟨(fun e => by cases e), fun u e => by cases e⟩
theorem atoi_len {l : List UInt8} (h : l.length ≤ 11) : atoiAll l ≠ .range := by
  have key : ∀ m : List UInt8, m.length ≤ 11 → parseMag m ≠ .range ∧ ∀ u, parseMag m = .ok u → u < 100000000000 := by
    intro m hm
    unfold parseMag
    split
    · exact ⟨(fun e => by cases e), fun u e => by cases e⟩
    · have hp : 10 ^ m.length ≤ 10 ^ 11 := Nat.pow_le_pow_right (by decide) hm
      obtain ⟨g1, g2⟩ := parse_len m 0 (by omega)
      exact ⟨g1, fun u e => by have := g2 u e; omega⟩
  cases l with
  | nil => intro e; cases e
  | cons c r =>
    simp only [atoiAll]
    have hm : (if c.toNat = 43 ∨ c.toNat = 45 then r else c :: r).length ≤ 11 := by
      split
      · simp at h; omega
      · exact h
    obtain ⟨g1, g2⟩ := key _ hm
    split
    · intro e; cases e
    · next e => exact absurd e g1
    · next u e =>
      have := g2 u e
      rw [if_neg (by omega), if_neg (by omega)]
      intro e; cases e
theorem atoi_bd {l : List UInt8} {z : Int} (h : atoiAll l = .ok z) : -9223372036854775808 ≤ z ∧ z ≤ 9223372036854775807 := atoiAll_bounds h
theorem atoi_any (s : ByteArray) (h : s.size ≤ 11) (w : World) (hg : Gl w) :
    Calls Tryz.prog 113 #[.string s] w fun e w' => ∃ z ev, e = .returned (.tuple #[.int .i64 z, ev]) ∧ (ev = .nilIface ∧ atoiAll s.data.toList = .ok z ∨ (∃ t v, ev = .iface t v) ∧ ∀ y, atoiAll s.data.toList ≠ .ok y) ∧ (-9223372036854775808 ≤ z ∧ z ≤ 9223372036854775807) ∧ Below w.heap.size w w' := by
  have hl : s.data.toList.length ≤ 11 := by simpa using h
  rcases ha : atoiAll s.data.toList with v | _ | _
  · refine (Any.strconv_Atoi_ok Tryz.atoiL s (by omega) v ha w).mono ?_
    rintro e w' ⟨rfl, hw⟩
    refine ⟨v, _, rfl, .inl ⟨rfl, rfl⟩, atoi_bd ha, ?_⟩
    rcases hw with rfl | ⟨t, rfl⟩
    · exact Below.refl _ _
    · exact bytesWorld_below _ _ _
  · obtain ⟨ev, h1, h2⟩ := hg.err
    refine (Any.strconv_Atoi_syntax Tryz.atoiL s (by omega) ha ev w h1 h2).mono ?_
    rintro e w' ⟨N, rfl, _, _, hb⟩
    exact ⟨0, _, rfl, .inr ⟨⟨_, _, rfl⟩, fun y e => by cases e⟩, ⟨by decide, by decide⟩, hb⟩
  · exact absurd ha (atoi_len hl)
theorem join_extra : Builder.Extra Tryz.prog Tryz.joinL_ren where
  sizeBuilder := by kernel_rfl
  liesBuilder := by kernel_rfl
  t5 := Tryz.underlying5
  a5 := Tryz.isAgg5
  z5 := Tryz.sizeOf5
  v5 := Tryz.zeroValue5
  infoByte := by kernel_rfl
  cellsByte := by kernel_rfl
  sizeByte := by kernel_rfl
  neB5 := by decide
theorem join_any (A : Option Addr) (c : Nat) (xs : List ByteArray) (sep : ByteArray) (w : World) (hA : VS w A (xs.map Value.string)) (h1 : 1 ≤ xs.length) (hN : xs.length ≤ 140737488355328) (hc : xs.length ≤ c)
    (hlen : (join (xs.map (·.data.toList)) sep.data.toList).length ≤ 140737488355328) :
    Calls Tryz.prog 65 #[.slice A xs.length c, .string sep] w fun e w' => e = .returned (.string (bs (join (xs.map (·.data.toList)) sep.data.toList))) ∧ Below w.heap.size w w' := by
  obtain ⟨b, o, rfl, hb, _⟩ := hA 0 (.string xs[0]) (by simp [List.getElem?_eq_getElem (show 0 < xs.length from h1)])
  refine Any.strings_Join { Tryz.joinL with } join_extra b o c xs sep w (fun j x hx => ?_) hb hN hc hlen
  obtain ⟨b', o', e, _, hv⟩ := hA j (.string x) (by simp [hx])
  injection e with e
  injection e with e1 e2 _
  subst e1; subst e2
  exact hv
theorem indexByte_eq (c : UInt8) (l : List UInt8) : indexByte l c = index l [c] := by
  induction l with
  | nil => rfl
  | cons b l ih =>
    rw [indexByte, index, ih]
    by_cases h : b = c
    · subst h; simp [List.isPrefixOf]
    · have h2 : (b == c) = false := by simpa using h
      have h3 : (c == b) = false := by simpa using fun e => h e.symm
      simp only [h2, List.isPrefixOf, h3, Bool.false_and]
set_option maxHeartbeats 1000000 in
theorem split_any (s : ByteArray) (c : UInt8) (w : World) (hs : s.size < 4294967281) :
    Calls Tryz.prog 68 #[.string s, .string ⟨#[c]⟩] w fun e w' => e = .returned (.slice (some ⟨w.heap.size, 0, none⟩) (splB c s).length (splB c s).length) ∧ w' = w.alloc (.cells ((splB c s).map Value.string).toArray 9) := by
  have hlen := splB_len c s
  have hle := countB_le ⟨#[c]⟩ (Nat.le_refl 1) s.size s (Nat.le_refl _)
  have ct := Any.strings_genSplit_core (P := Tryz.prog) (ρ := Tryz.splitL_ren) { Tryz.splitL with } Tryz.splitL.i9 s ⟨#[c]⟩ 0 (-1) (countB s ⟨#[c]⟩ + 1) w hs (Nat.le_refl 1) (Nat.zero_le _)
    (fun x cs hx => (Any.strings_Index_one { Tryz.splitL with } x c _).mono fun e w' ⟨h1, h2⟩ => ⟨by rw [h1, indexByte_eq], h2⟩)
    ((Any.strings_Count_one { Tryz.splitL with } s c w).mono fun e w' ⟨h1, h2⟩ => ⟨by rw [h1]; show _ = Ending.returned (Value.int .i64 ((count s.data.toList [c] : Nat) : Int)); rw [count_one]; rfl, h2⟩)
    (by decide) (by decide) (by rw [if_pos (by decide)]; omega)
  rw [Nat.add_sub_cancel, show splitB ⟨#[c]⟩ 0 (countB s ⟨#[c]⟩) s = splB c s from rfl, ← hlen, cellsOf_full] at ct
  clear hlen hle
  go_enter Tryz.func68, Tryz.ntmps68
  go_wp2_with fail
  refine ct.mono ?_
  rintro e w' ⟨rfl, rfl⟩
  go_wp2_with fail
  go_ret
  exact ⟨rfl, rfl⟩
set_option maxHeartbeats 1000000 in
set_option maxRecDepth 100000 in
theorem litecut_any (s : ByteArray) (c : UInt8) (w : World) (hs : s.size ≤ 4611686018427387904) :
    Calls Tryz.prog 116 #[.string s, .string ⟨#[c]⟩] w fun e w' => e = .returned (.tuple #[.string (bs (cut s.data.toList [c]).1), .string (bs (cut s.data.toList [c]).2.1), .bool (cut s.data.toList [c]).2.2]) ∧ Below w.heap.size w w' := by
  have hI := (Any.stringslite_Index_one (P := Tryz.prog) (ρ := Tryz.cutL_ren) { Tryz.cutL with } s c w)
  rw [indexByte_eq] at hI
  rcases indexB_cases s ⟨#[c]⟩ with hix | ⟨i, hix, hroom⟩
  · obtain ⟨e1, e2, e3⟩ := cutB_miss s ⟨#[c]⟩ hix
    replace e1 : bs (cut s.data.toList [c]).1 = _ := e1
    replace e2 : bs (cut s.data.toList [c]).2.1 = _ := e2
    replace e3 : (cut s.data.toList [c]).2.2 = _ := e3
    rw [e1, e2, e3]
    rw [show index s.data.toList [c] = -1 from hix] at hI
    clear e1 e2 e3 hix
    go_enter Tryz.func116, Tryz.ntmps116
    go_wp2_with fail
    refine hI.mono ?_
    rintro e w' ⟨rfl, rfl⟩
    go_wp2_with fail
    go_ret3
    exact ⟨rfl, Below.refl _ _⟩
  · obtain ⟨e1, e2, e3⟩ := cutB_hit s ⟨#[c]⟩ i hix
    replace e1 : bs (cut s.data.toList [c]).1 = _ := e1
    replace e2 : bs (cut s.data.toList [c]).2.1 = _ := e2
    replace e3 : (cut s.data.toList [c]).2.2 = _ := e3
    rw [e1, e2, e3]
    rw [show index s.data.toList [c] = i from hix] at hI
    have c0 : (ByteArray.mk #[c]).size = 1 := rfl
    have c1 : (0 : Int) ≤ ↑i := by omega
    have c2 : (↑i : Int) ≤ ↑s.size := by omega
    have c3 : (0 : Int) ≤ ↑i + 1 := by omega
    have c4 : (↑i + 1 : Int) ≤ ↑s.size := by omega
    have pw : IntKind.i64.wrap ((i : Int) + 1) = (i : Int) + 1 := by simp only [IntKind.wrap_i64]; omega
    clear e1 e2 e3 hix hroom c0
    go_enter Tryz.func116, Tryz.ntmps116
    go_wp2_with fail
    refine hI.mono ?_
    rintro e w' ⟨rfl, rfl⟩
    go_wp2_with fail
    go_region
    go_wp2_with fail
    go_ret3
    exact ⟨rfl, (Below.refl _ _).drew⟩
set_option maxHeartbeats 1000000 in
set_option maxRecDepth 100000 in
theorem cut_any (s : ByteArray) (c : UInt8) (w : World) (hs : s.size ≤ 4611686018427387904) :
    Calls Tryz.prog 79 #[.string s, .string ⟨#[c]⟩] w fun e w' => e = .returned (.tuple #[.string (bs (cut s.data.toList [c]).1), .string (bs (cut s.data.toList [c]).2.1), .bool (cut s.data.toList [c]).2.2]) ∧ Below w.heap.size w w' := by
  have HQ := hideP (litecut_any s c w hs)
  generalize cut s.data.toList [c] = r at HQ ⊢
  obtain ⟨a, b, d⟩ := r
  go_enter Tryz.func79, Tryz.ntmps79
  go_wp2_with fail
  refine HQ.out.mono ?_
  rintro e w' ⟨rfl, hb⟩
  go_wp2_with fail
  go_ret3
  exact ⟨rfl, hb⟩
end Go.Proofs.YtmepmiokpcddbabGreatDoor

set_option linter.unusedVariables false
set_option linter.unusedSimpArgs false
namespace Go.Proofs.YtmepmiokpcddbabGreatDoor
open Go.RowKit

/-- a boxed variable: its cells -/
def Box (w : World) (g : Nat) (t : TypeId) (cs : Array Value) : Prop := w.heap[g]? = some (.cells cs t (0, 0))
section
variable {w w' : World} {g : Nat} {t : TypeId} {cs : Array Value}
theorem Box.lt (h : Box w g t cs) : g < w.heap.size := (Array.getElem?_eq_some_iff.1 h).1
theorem Box.cell (h : Box w g t cs) (i : Nat) {v : Value} (hv : cs[i]? = some v) : w.cell? ⟨g, i, none⟩ = some v := by
  simp only [World.cell?]
  rw [h]
  simp [hv]
theorem Box.frozen (h : Box w g t cs) (i : Nat) : w.frozen? ⟨g, i, none⟩ = false := by simp [World.frozen?, show w.heap[g]? = _ from h]
theorem Box.keep (h : Box w g t cs) (hk : w'.heap[g]? = w.heap[g]?) : Box w' g t cs := hk.trans h
theorem Box.below (h : Box w g t cs) (hb : Below w.heap.size w w') : Box w' g t cs := h.keep (hb.block g h.lt)
theorem Box.drew (h : Box w g t cs) : Box w.drew g t cs := h
theorem Box.alloc (h : Box w g t cs) (o : Obj) : Box (w.alloc o) g t cs := h.keep (Below.heap_alloc _ _ _ h.lt)
theorem Box.new (w : World) (t : TypeId) (cs : Array Value) : Box (w.alloc (.cells cs t)) w.heap.size t cs := heap_alloc_new w _
theorem Box.set (h : Box w g t cs) (i : Nat) (v : Value) : Box (w.setCell ⟨g, i, none⟩ v) g t (cs.setIfInBounds i v) := by
  unfold Box at *
  simp [World.setCell, Array.getElem?_modify, h]
theorem Box.other (h : Box w g t cs) {a : Addr} (ha : a.block ≠ g) (v : Value) : Box (w.setCell a v) g t cs := h.keep (Below.heap_setCell _ _ _ _ (fun e => ha e.symm))
theorem Box.grown (h : Box w g t cs) {row : Option Nat} (hg : w.grownBy w' row) (hne : some g ≠ row) : Box w' g t cs := h.keep (hg.block g h.lt hne)
end
end Go.Proofs.YtmepmiokpcddbabGreatDoor

set_option linter.unusedVariables false
set_option linter.unusedSimpArgs false
namespace Go.Proofs.YtmepmiokpcddbabGreatDoor
open Go.RowKit

theorem box_four {w : World} {g : Nat} {t : TypeId} {a b c d : Value} (h : Box w g t #[a, b, c, d]) (x y z u : Value) :
    (w.cell? ⟨g, 0, none⟩ = some a ∧ (w.setCell ⟨g, 0, none⟩ x).cell? ⟨g, 1, none⟩ = some b ∧ ((w.setCell ⟨g, 0, none⟩ x).setCell ⟨g, 1, none⟩ y).cell? ⟨g, 2, none⟩ = some c ∧ (((w.setCell ⟨g, 0, none⟩ x).setCell ⟨g, 1, none⟩ y).setCell ⟨g, 2, none⟩ z).cell? ⟨g, 3, none⟩ = some d) ∧
    (w.frozen? ⟨g, 0, none⟩ = false ∧ (w.setCell ⟨g, 0, none⟩ x).frozen? ⟨g, 1, none⟩ = false ∧ ((w.setCell ⟨g, 0, none⟩ x).setCell ⟨g, 1, none⟩ y).frozen? ⟨g, 2, none⟩ = false ∧ (((w.setCell ⟨g, 0, none⟩ x).setCell ⟨g, 1, none⟩ y).setCell ⟨g, 2, none⟩ z).frozen? ⟨g, 3, none⟩ = false) ∧
    Box ((((w.setCell ⟨g, 0, none⟩ x).setCell ⟨g, 1, none⟩ y).setCell ⟨g, 2, none⟩ z).setCell ⟨g, 3, none⟩ u) g t #[x, y, z, u] := by
  have h1 := h.set 0 x
  have h2 := h1.set 1 y
  have h3 := h2.set 2 z
  have h4 := h3.set 3 u
  exact ⟨⟨h.cell 0 rfl, h1.cell 1 rfl, h2.cell 2 rfl, h3.cell 3 rfl⟩, ⟨h.frozen 0, h1.frozen 1, h2.frozen 2, h3.frozen 3⟩, h4⟩
theorem below_set1 {a w : World} {g i : Nat} {v : Value} (h : Below a.heap.size a w) (hg : a.heap.size ≤ g) : Below a.heap.size a (w.setCell ⟨g, i, none⟩ v) :=
  h.grown (row := some g) ⟨rfl, rfl, rfl, by simp [World.setCell], fun i _ hne => Below.heap_setCell w _ _ i (fun e => hne (by rw [e]))⟩ h.size (fun b hb => by injection hb with hb; subst hb; exact hg)
theorem below_four {a w : World} {g : Nat} (h : Below a.heap.size a w) (hg : a.heap.size ≤ g) (x y z u : Value) : Below a.heap.size a ((((w.setCell ⟨g, 0, none⟩ x).setCell ⟨g, 1, none⟩ y).setCell ⟨g, 2, none⟩ z).setCell ⟨g, 3, none⟩ u) :=
  below_set1 (below_set1 (below_set1 (below_set1 h hg) hg) hg) hg
end Go.Proofs.YtmepmiokpcddbabGreatDoor
