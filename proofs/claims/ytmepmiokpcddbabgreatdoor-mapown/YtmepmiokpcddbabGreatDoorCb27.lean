/-
  What package text calls of strconv and strings: contracts in the words of these texts.
  A box of four cells that is written (no program in it).
  text.readNumber, opText, readValue and readFrom.
  The sum of a text, the last space of a line, plainly (no program in it).
  Log entries, plainly (no program in it).
-/
import Derived.Test.YtmepmiokpcddbabGreatDoorCb26
import Derived.Test.YtmepmiokpcddbabGreatDoorCb14
import Derived.Test.YtmepmiokpcddbabGreatDoorCb2
import Derived.Lib.SmallJoins
import Derived.WalkKit
import Derived.WalkSpells
import Derived.WalkLawsBesides
import Derived.Test.YtmepmiokpcddbabGreatDoorCb3
import Derived.Lib.ItoaLen
import Derived.Test.YtmepmiokpcddbabGreatDoorCb1
set_option linter.unusedVariables false
set_option linter.unusedSimpArgs false
namespace Go.Proofs.YtmepmiokpcddbabGreatDoor
open Go.RowKit Go.Lib

/-- the two package variables that are read -/
structure Gl (w : World) : Prop where
  tab : TabIs Tryz.prog w "internal/strconv.uint64pow10" .u64 pow10Tab
  err : ∃ ev, w.cell? ⟨Tryz.atoiL_ren.g 15, 0, none⟩ = some ev ∧ (ev = .nilIface ∨ ∃ te pe, ev = .iface te pe)
theorem Gl.below {w w' : World} (h : Gl w) (hb : Below w.heap.size w w') : Gl w' := by
  obtain ⟨ev, h1, h2⟩ := h.err
  exact ⟨Go.Joins.tab_stays (g := (Tryz.prog.globalNamed "internal/strconv.uint64pow10").getD 0) (by kernel_rfl) h.tab hb (Nat.le_refl _), ev, (hb.cell (cell_lt h1)).trans h1, h2⟩
theorem below_drewN {B : Nat} {a w : World} (h : Below B a w) (n : Nat) : Below B a (w.drewN n) := h.trans ⟨rfl, rfl, rfl, Nat.le_refl _, fun _ _ => rfl⟩
theorem below_grow {w : World} {k : Nat} {os : Array Obj} : Below w.heap.size w (Sort.grow (w.drewN k) os) :=
  (below_drewN (Below.refl w.heap.size w) k).trans ⟨rfl, rfl, rfl, by simp [Sort.grow], fun i hi => by simp [Sort.grow, World.drewN, Array.getElem?_append, hi]⟩
theorem itoa_any (n : Int) (h0 : -9223372036854775808 ≤ n) (h1 : n ≤ 9223372036854775807) (w : World) (hg : Gl w) :
    Calls Tryz.prog 67 #[.int .i64 n] w fun e w' => e = .returned (.string (bs (itoa n))) ∧ Below w.heap.size w w' := by
  refine (Any.strconv_Itoa Tryz.itoaL n h0 h1 w hg.tab).mono ?_
  rintro e w' ⟨rfl, k, os, rfl⟩
  exact ⟨rfl, below_grow⟩
theorem parse_len (l : List UInt8) : ∀ acc, (acc + 1) * 10 ^ l.length ≤ 1000000000000000000 → parseUint10 acc l ≠ .range ∧ ∀ u, parseUint10 acc l = .ok u → u < (acc + 1) * 10 ^ l.length := by
  induction l with
  | nil => intro acc h; exact ⟨(fun e => by cases e), fun u e => by injection e with e; subst e; simp⟩
  | cons c l ih =>
    intro acc h
    rw [List.length_cons, Nat.pow_succ] at h
    have hp : 1 ≤ 10 ^ l.length := Nat.one_le_pow _ _ (by decide)
    have h1 : acc + 1 ≤ (acc + 1) * 10 ^ l.length := Nat.le_mul_of_pos_right _ hp
    have h2 : (acc + 1) * (10 ^ l.length * 10) = (acc + 1) * 10 ^ l.length * 10 := by rw [Nat.mul_assoc]
    rw [h2] at h
    rw [parseUint10]
    by_cases hd : 48 ≤ c.toNat ∧ c.toNat ≤ 57
    · rw [if_pos hd, if_neg (by omega), if_neg (by omega)]
      have h3 : (acc * 10 + (c.toNat - 48) + 1) * 10 ^ l.length ≤ (acc + 1) * 10 * 10 ^ l.length := Nat.mul_le_mul_right _ (by omega)
      have h4 : (acc + 1) * 10 * 10 ^ l.length = (acc + 1) * 10 ^ l.length * 10 := by rw [Nat.mul_assoc, Nat.mul_comm 10, ← Nat.mul_assoc]
      obtain ⟨g1, g2⟩ := ih (acc * 10 + (c.toNat - 48)) (by omega)
      refine ⟨g1, fun u e => ?_⟩
      have := g2 u e
      rw [List.length_cons, Nat.pow_succ, h2]
      omega
    · rw [if_neg hd]; exact ⟨(fun e => by cases e), fun u e => by cases e⟩
theorem atoi_len {l : List UInt8} (h : l.length ≤ 11) : atoiAll l ≠ .range := by
  have key : ∀ m : List UInt8, m.length ≤ 11 → parseMag m ≠ .range ∧ ∀ u, parseMag m = .ok u → u < 100000000000 := by
    intro m hm
    unfold parseMag
    split
    · exact ⟨(fun e => by cases e), fun u e => by cases e⟩
    · have hp : 10 ^ m.length ≤ 10 ^ 11 := Nat.pow_le_pow_right (by decide) hm
      obtain ⟨g1, g2⟩ := parse_len m 0 (by omega)
      exact ⟨g1, fun u e => by have := g2 u e; omega⟩
  cases l with
  | nil => intro e; cases e
  | cons c r =>
    simp only [atoiAll]
    have hm : (if c.toNat = 43 ∨ c.toNat = 45 then r else c :: r).length ≤ 11 := by
      split
      · simp at h; omega
      · exact h
    obtain ⟨g1, g2⟩ := key _ hm
    split
    · intro e; cases e
    · next e => exact absurd e g1
    · next u e =>
      have := g2 u e
      rw [if_neg (by omega), if_neg (by omega)]
      intro e; cases e
theorem atoi_bd {l : List UInt8} {z : Int} (h : atoiAll l = .ok z) : -9223372036854775808 ≤ z ∧ z ≤ 9223372036854775807 := atoiAll_bounds h
theorem atoi_any (s : ByteArray) (h : s.size ≤ 11) (w : World) (hg : Gl w) :
    Calls Tryz.prog 113 #[.string s] w fun e w' => ∃ z ev, e = .returned (.tuple #[.int .i64 z, ev]) ∧ (ev = .nilIface ∧ atoiAll s.data.toList = .ok z ∨ (∃ t v, ev = .iface t v) ∧ ∀ y, atoiAll s.data.toList ≠ .ok y) ∧ (-9223372036854775808 ≤ z ∧ z ≤ 9223372036854775807) ∧ Below w.heap.size w w' := by
  have hl : s.data.toList.length ≤ 11 := by simpa using h
  rcases ha : atoiAll s.data.toList with v | _ | _
  · refine (Any.strconv_Atoi_ok Tryz.atoiL s (by omega) v ha w).mono ?_
    rintro e w' ⟨rfl, hw⟩
    refine ⟨v, _, rfl, .inl ⟨rfl, rfl⟩, atoi_bd ha, ?_⟩
    rcases hw with rfl | ⟨t, rfl⟩
    · exact Below.refl _ _
    · exact bytesWorld_below _ _ _
  · obtain ⟨ev, h1, h2⟩ := hg.err
    refine (Any.strconv_Atoi_syntax Tryz.atoiL s (by omega) ha ev w h1 h2).mono ?_
    rintro e w' ⟨N, rfl, _, _, hb⟩
    exact ⟨0, _, rfl, .inr ⟨⟨_, _, rfl⟩, fun y e => by cases e⟩, ⟨by decide, by decide⟩, hb⟩
  · exact absurd ha (atoi_len hl)
theorem join_extra : Builder.Extra Tryz.prog Tryz.joinL_ren where
  sizeBuilder := by kernel_rfl
  liesBuilder := by kernel_rfl
  t5 := Tryz.underlying5
  a5 := Tryz.isAgg5
  z5 := Tryz.sizeOf5
  v5 := Tryz.zeroValue5
  infoByte := by kernel_rfl
  cellsByte := by kernel_rfl
  sizeByte := by kernel_rfl
  neB5 := by decide
theorem join_any (A : Option Addr) (c : Nat) (xs : List ByteArray) (sep : ByteArray) (w : World) (hA : VS w A (xs.map Value.string)) (h1 : 1 ≤ xs.length) (hN : xs.length ≤ 140737488355328) (hc : xs.length ≤ c)
    (hlen : (join (xs.map (·.data.toList)) sep.data.toList).length ≤ 140737488355328) :
    Calls Tryz.prog 65 #[.slice A xs.length c, .string sep] w fun e w' => e = .returned (.string (bs (join (xs.map (·.data.toList)) sep.data.toList))) ∧ Below w.heap.size w w' := by
  obtain ⟨b, o, rfl, hb, _⟩ := hA 0 (.string xs[0]) (by simp [List.getElem?_eq_getElem (show 0 < xs.length from h1)])
  refine Any.strings_Join { Tryz.joinL with } join_extra b o c xs sep w (fun j x hx => ?_) hb hN hc hlen
  obtain ⟨b', o', e, _, hv⟩ := hA j (.string x) (by simp [hx])
  injection e with e
  injection e with e1 e2 _
  subst e1; subst e2
  exact hv
theorem indexByte_eq (c : UInt8) (l : List UInt8) : indexByte l c = index l [c] := by
  induction l with
  | nil => rfl
  | cons b l ih =>
    rw [indexByte, index, ih]
    by_cases h : b = c
    · subst h; simp [List.isPrefixOf]
    · have h2 : (b == c) = false := by simpa using h
      have h3 : (c == b) = false := by simpa using fun e => h e.symm
      simp only [h2, List.isPrefixOf, h3, Bool.false_and]
set_option maxHeartbeats 1000000 in
theorem split_any (s : ByteArray) (c : UInt8) (w : World) (hs : s.size < 4294967281) :
    Calls Tryz.prog 68 #[.string s, .string ⟨#[c]⟩] w fun e w' => e = .returned (.slice (some ⟨w.heap.size, 0, none⟩) (splB c s).length (splB c s).length) ∧ w' = w.alloc (.cells ((splB c s).map Value.string).toArray 9) := by
  have hlen := splB_len c s
  have hle := countB_le ⟨#[c]⟩ (Nat.le_refl 1) s.size s (Nat.le_refl _)
  have ct := Any.strings_genSplit_core (P := Tryz.prog) (ρ := Tryz.splitL_ren) { Tryz.splitL with } Tryz.splitL.i9 s ⟨#[c]⟩ 0 (-1) (countB s ⟨#[c]⟩ + 1) w hs (Nat.le_refl 1) (Nat.zero_le _)
    (fun x cs hx => (Any.strings_Index_one { Tryz.splitL with } x c _).mono fun e w' ⟨h1, h2⟩ => ⟨by rw [h1, indexByte_eq], h2⟩)
    ((Any.strings_Count_one { Tryz.splitL with } s c w).mono fun e w' ⟨h1, h2⟩ => ⟨by rw [h1]; show _ = Ending.returned (Value.int .i64 ((count s.data.toList [c] : Nat) : Int)); rw [count_one]; rfl, h2⟩)
    (by decide) (by decide) (by rw [if_pos (by decide)]; omega)
  rw [Nat.add_sub_cancel, show splitB ⟨#[c]⟩ 0 (countB s ⟨#[c]⟩) s = splB c s from rfl, ← hlen, cellsOf_full] at ct
  clear hlen hle
  go_enter Tryz.func68, Tryz.ntmps68
  go_wp2_with fail
  refine ct.mono ?_
  rintro e w' ⟨rfl, rfl⟩
  go_wp2_with fail
  go_ret
  exact ⟨rfl, rfl⟩
set_option maxHeartbeats 1000000 in
set_option maxRecDepth 100000 in
theorem litecut_any (s : ByteArray) (c : UInt8) (w : World) (hs : s.size ≤ 4611686018427387904) :
    Calls Tryz.prog 116 #[.string s, .string ⟨#[c]⟩] w fun e w' => e = .returned (.tuple #[.string (bs (cut s.data.toList [c]).1), .string (bs (cut s.data.toList [c]).2.1), .bool (cut s.data.toList [c]).2.2]) ∧ Below w.heap.size w w' := by
  have hI := (Any.stringslite_Index_one (P := Tryz.prog) (ρ := Tryz.cutL_ren) { Tryz.cutL with } s c w)
  rw [indexByte_eq] at hI
  rcases indexB_cases s ⟨#[c]⟩ with hix | ⟨i, hix, hroom⟩
  · obtain ⟨e1, e2, e3⟩ := cutB_miss s ⟨#[c]⟩ hix
    replace e1 : bs (cut s.data.toList [c]).1 = _ := e1
    replace e2 : bs (cut s.data.toList [c]).2.1 = _ := e2
    replace e3 : (cut s.data.toList [c]).2.2 = _ := e3
    rw [e1, e2, e3]
    rw [show index s.data.toList [c] = -1 from hix] at hI
    clear e1 e2 e3 hix
    go_enter Tryz.func116, Tryz.ntmps116
    go_wp2_with fail
    refine hI.mono ?_
    rintro e w' ⟨rfl, rfl⟩
    go_wp2_with fail
    go_ret3
    exact ⟨rfl, Below.refl _ _⟩
  · obtain ⟨e1, e2, e3⟩ := cutB_hit s ⟨#[c]⟩ i hix
    replace e1 : bs (cut s.data.toList [c]).1 = _ := e1
    replace e2 : bs (cut s.data.toList [c]).2.1 = _ := e2
    replace e3 : (cut s.data.toList [c]).2.2 = _ := e3
    rw [e1, e2, e3]
    rw [show index s.data.toList [c] = i from hix] at hI
    have c0 : (ByteArray.mk #[c]).size = 1 := rfl
    have c1 : (0 : Int) ≤ ↑i := by omega
    have c2 : (↑i : Int) ≤ ↑s.size := by omega
    have c3 : (0 : Int) ≤ ↑i + 1 := by omega
    have c4 : (↑i + 1 : Int) ≤ ↑s.size := by omega
    have pw : IntKind.i64.wrap ((i : Int) + 1) = (i : Int) + 1 := by simp only [IntKind.wrap_i64]; omega
    clear e1 e2 e3 hix hroom c0
    go_enter Tryz.func116, Tryz.ntmps116
    go_wp2_with fail
    refine hI.mono ?_
    rintro e w' ⟨rfl, rfl⟩
    go_wp2_with fail
    go_region
    go_wp2_with fail
    go_ret3
    exact ⟨rfl, (Below.refl _ _).drew⟩
set_option maxHeartbeats 1000000 in
set_option maxRecDepth 100000 in
theorem cut_any (s : ByteArray) (c : UInt8) (w : World) (hs : s.size ≤ 4611686018427387904) :
    Calls Tryz.prog 79 #[.string s, .string ⟨#[c]⟩] w fun e w' => e = .returned (.tuple #[.string (bs (cut s.data.toList [c]).1), .string (bs (cut s.data.toList [c]).2.1), .bool (cut s.data.toList [c]).2.2]) ∧ Below w.heap.size w w' := by
  have HQ := hideP (litecut_any s c w hs)
  generalize cut s.data.toList [c] = r at HQ ⊢
  obtain ⟨a, b, d⟩ := r
  go_enter Tryz.func79, Tryz.ntmps79
  go_wp2_with fail
  refine HQ.out.mono ?_
  rintro e w' ⟨rfl, hb⟩
  go_wp2_with fail
  go_ret3
  exact ⟨rfl, hb⟩
end Go.Proofs.YtmepmiokpcddbabGreatDoor

set_option linter.unusedVariables false
set_option linter.unusedSimpArgs false
namespace Go.Proofs.YtmepmiokpcddbabGreatDoor
open Go.RowKit

theorem box_four {w : World} {g : Nat} {t : TypeId} {a b c d : Value} (h : Box w g t #[a, b, c, d]) (x y z u : Value) :
    (w.cell? ⟨g, 0, none⟩ = some a ∧ (w.setCell ⟨g, 0, none⟩ x).cell? ⟨g, 1, none⟩ = some b ∧ ((w.setCell ⟨g, 0, none⟩ x).setCell ⟨g, 1, none⟩ y).cell? ⟨g, 2, none⟩ = some c ∧ (((w.setCell ⟨g, 0, none⟩ x).setCell ⟨g, 1, none⟩ y).setCell ⟨g, 2, none⟩ z).cell? ⟨g, 3, none⟩ = some d) ∧
    (w.frozen? ⟨g, 0, none⟩ = false ∧ (w.setCell ⟨g, 0, none⟩ x).frozen? ⟨g, 1, none⟩ = false ∧ ((w.setCell ⟨g, 0, none⟩ x).setCell ⟨g, 1, none⟩ y).frozen? ⟨g, 2, none⟩ = false ∧ (((w.setCell ⟨g, 0, none⟩ x).setCell ⟨g, 1, none⟩ y).setCell ⟨g, 2, none⟩ z).frozen? ⟨g, 3, none⟩ = false) ∧
    Box ((((w.setCell ⟨g, 0, none⟩ x).setCell ⟨g, 1, none⟩ y).setCell ⟨g, 2, none⟩ z).setCell ⟨g, 3, none⟩ u) g t #[x, y, z, u] := by
  have h1 := h.set 0 x
  have h2 := h1.set 1 y
  have h3 := h2.set 2 z
  have h4 := h3.set 3 u
  exact ⟨⟨h.cell 0 rfl, h1.cell 1 rfl, h2.cell 2 rfl, h3.cell 3 rfl⟩, ⟨h.frozen 0, h1.frozen 1, h2.frozen 2, h3.frozen 3⟩, h4⟩
theorem below_set1 {a w : World} {g i : Nat} {v : Value} (h : Below a.heap.size a w) (hg : a.heap.size ≤ g) : Below a.heap.size a (w.setCell ⟨g, i, none⟩ v) :=
  h.grown (row := some g) ⟨rfl, rfl, rfl, by simp [World.setCell], fun i _ hne => Below.heap_setCell w _ _ i (fun e => hne (by rw [e]))⟩ h.size (fun b hb => by injection hb with hb; subst hb; exact hg)
theorem below_four {a w : World} {g : Nat} (h : Below a.heap.size a w) (hg : a.heap.size ≤ g) (x y z u : Value) : Below a.heap.size a ((((w.setCell ⟨g, 0, none⟩ x).setCell ⟨g, 1, none⟩ y).setCell ⟨g, 2, none⟩ z).setCell ⟨g, 3, none⟩ u) :=
  below_set1 (below_set1 (below_set1 (below_set1 h hg) hg) hg) hg
end Go.Proofs.YtmepmiokpcddbabGreatDoor

set_option linter.unusedVariables false
set_option linter.unusedSimpArgs false
namespace Go.Proofs.YtmepmiokpcddbabGreatDoor
open Go.RowKit Go.Lib

theorem rdN_of {l : List UInt8} {z : Int} (h : l.length ≤ 11) (h1 : atoiAll l = .ok z) : rdN l = if itoa z = l then some z else none := by
  unfold rdN; rw [if_neg (by omega), h1]
theorem rdN_no {l : List UInt8} (h1 : ∀ z, atoiAll l ≠ .ok z) : rdN l = none := by
  unfold rdN
  split
  · rfl
  · split
    · next v e => exact absurd e (h1 v)
    · rfl
theorem list_eq (s : ByteArray) : s.toList = s.data.toList := ByteArray.toList_eq s
set_option maxHeartbeats 1000000 in
theorem rdnum_any (s : ByteArray) (w : World) (hg : Gl w) :
    Calls Tryz.prog 70 #[.string s] w fun e w' => (∃ z : Int, e = .returned (.tuple #[.int .i64 z, .bool (rdN s.data.toList).isSome]) ∧ ∀ n, rdN s.data.toList = some n → z = n) ∧ Below w.heap.size w w' := by
  have hl : s.data.toList.length = s.size := by simp
  by_cases h11 : 11 < s.size
  · have g1 : (11 : Int) < (s.size : Int) := by omega
    have HR := hideP (show rdN s.data.toList = none by unfold rdN; rw [if_pos (by omega)])
    clear hl h11
    go_enter Tryz.func70, Tryz.ntmps70
    go_wp2_with fail
    go_ret2
    exact ⟨⟨0, by rw [HR.out]; rfl, fun n e => by rw [HR.out] at e; cases e⟩, Below.refl _ _⟩
  · have g1 : ¬ (11 : Int) < (s.size : Int) := by omega
    have HA := hideP (atoi_any s (by omega) w hg)
    have HL := hideP (show s.data.toList.length ≤ 11 by omega)
    have hlt : s.size ≤ 11 := by omega
    clear hl h11
    go_enter Tryz.func70, Tryz.ntmps70
    go_wp2_with fail
    refine HA.out.mono ?_
    rintro e w1 ⟨z, ev, rfl, hc, hz, hb⟩
    rcases hc with ⟨rfl, ha⟩ | ⟨⟨t, v, rfl⟩, ha⟩
    · have HI := hideP (itoa_any z hz.1 hz.2 w1 (hg.below hb))
      have HN := hideP (rdN_of HL.out ha)
      clear ha hg hz
      have HB := hideP hb
      clear hb
      go_wp2_with fail
      refine HI.out.mono ?_
      rintro e w2 ⟨rfl, hb2⟩
      have hb3 := HB.out.trans (hb2.mono HB.out.size)
      by_cases he : itoa z = s.data.toList
      · have d1 : ((bs (itoa z)).toList == s.toList) = true := by rw [list_eq, list_eq, bs_data, he]; simp
        have HR := hideP (show rdN s.data.toList = some z by rw [HN.out, if_pos he])
        clear he
        go_wp2_with fail
        go_ret2
        exact ⟨⟨z, by rw [HR.out]; rfl, fun n e => by rw [HR.out] at e; injection e⟩, hb3⟩
      · have d1 : ((bs (itoa z)).toList == s.toList) = false := by rw [list_eq, list_eq, bs_data]; simpa using he
        have HR := hideP (show rdN s.data.toList = none by rw [HN.out, if_neg he])
        clear he
        go_wp2_with fail
        go_ret2
        exact ⟨⟨z, by rw [HR.out]; rfl, fun n e => by rw [HR.out] at e; cases e⟩, hb3⟩
    · have HR := hideP (rdN_no ha)
      clear ha
      go_wp2_with fail
      go_ret2
      exact ⟨⟨z, by rw [HR.out]; rfl, fun n e => by rw [HR.out] at e; cases e⟩, hb⟩
theorem ret_str {a b : ByteArray} (h : a = b) : Ending.returned (.string a) = .returned (.string b) := by rw [h]
theorem bs_size (l : List UInt8) : (bs l).size = l.length := rfl
theorem key_size {s : ByteArray} (h : keyB s = true) : s.size ≤ 6 := by simp [keyB] at h; omega
theorem itoa_size {n : Int} (h0 : -9223372036854775808 ≤ n) (h1 : n ≤ 9223372036854775807) : (bs (itoa n)).size ≤ 21 := by rw [bs_size]; exact itoa_length_le n h0 h1
/-- four cells that are stored one behind the other -/
def op0 : Array Value := #[.int .i64 0, .string ByteArray.empty, .string ByteArray.empty, .int .i64 0]
set_option maxHeartbeats 1000000 in
set_option maxRecDepth 100000 in
theorem rdval_any (kd : Int) (key val : ByteArray) (w : World) (hg : Gl w) :
    Calls Tryz.prog 111 #[.int .i64 kd, .string key, .string val] w fun e w' => (∃ z : Int, e = .returned (.tuple #[opV ⟨kd, key, ByteArray.empty, z⟩, .bool (rdN val.data.toList).isSome]) ∧ ∀ n, rdN val.data.toList = some n → z = n) ∧ Below w.heap.size w w' := by
  have HB := (Below.refl w.heap.size w).alloc (Nat.le_refl _) (.cells #[.int .i64 0, .string ⟨#[]⟩, .string ⟨#[]⟩, .int .i64 0] 93)
  have X := Box.new w 93 #[.int .i64 0, .string ⟨#[]⟩, .string ⟨#[]⟩, .int .i64 0]
  have hg1 := hg.below HB
  go_enter Tryz.func111, Tryz.ntmps111
  go_wp2_with fail
  generalize w.alloc (.cells #[.int .i64 0, .string ⟨#[]⟩, .string ⟨#[]⟩, .int .i64 0] 93) = w1 at HB X hg1 ⊢
  refine (rdnum_any val w1 hg1).mono ?_
  rintro e w2 ⟨⟨z, rfl, hz⟩, hb2⟩
  have hb3 := HB.trans (hb2.mono HB.size)
  obtain ⟨⟨c0, c1, c2, c3⟩, ⟨f0, f1, f2, f3⟩, R⟩ := box_four (X.below hb2) (.int .i64 kd) (.string key) (.string ⟨#[]⟩) (.int .i64 z)
  have r0 := R.cell 0 (v := .int .i64 kd) rfl
  have r1 := R.cell 1 (v := .string key) rfl
  have r2 := R.cell 2 (v := .string ⟨#[]⟩) rfl
  have r3 := R.cell 3 (v := .int .i64 z) rfl
  have HF := hideP (below_four hb3 (Nat.le_refl _) (.int .i64 kd) (.string key) (.string ⟨#[]⟩) (.int .i64 z))
  have HZ := hideP hz
  clear X HB hb2 hg hg1 hb3 R hz
  generalize hq : (rdN val.data.toList).isSome = q at ⊢
  have HQ := hideP hq
  clear hq
  go_wp2_with fail
  exact bodyPost_ret (v := .tuple #[opV ⟨kd, key, ByteArray.empty, z⟩, .bool q]) (by simp [results, Tryz.results111, go_sem, r0, r1, r2, r3, opV]; rfl) rfl ⟨⟨z, by rw [HQ.out], HZ.out⟩, HF.out⟩
set_option maxHeartbeats 1000000 in
set_option maxRecDepth 100000 in
theorem rdfrom_any (key rest : ByteArray) (w : World) (hg : Gl w) (hs : rest.size ≤ 4611686018427387904) :
    Calls Tryz.prog 112 #[.string key, .string rest] w fun e w' => (∃ o : Opr, e = .returned (.tuple #[opV o, .bool (rdF key.data.toList rest.data.toList).isSome]) ∧ ∀ p, rdF key.data.toList rest.data.toList = some p → o = p) ∧ Below w.heap.size w w' := by
  have HB := (Below.refl w.heap.size w).alloc (Nat.le_refl _) (.cells #[.int .i64 0, .string ⟨#[]⟩, .string ⟨#[]⟩, .int .i64 0] 93)
  have X := Box.new w 93 #[.int .i64 0, .string ⟨#[]⟩, .string ⟨#[]⟩, .int .i64 0]
  have hg1 := hg.below HB
  have HC := hideP (cut_any rest 42 (w.alloc (.cells #[.int .i64 0, .string ⟨#[]⟩, .string ⟨#[]⟩, .int .i64 0] 93)) hs)
  have HR := hideP (show rdF key.data.toList rest.data.toList = match cut rest.data.toList [42] with
    | (f, a, true) => (rdN a).map fun n => ⟨5, bs key.data.toList, bs f, n⟩
    | (f, _, false) => some ⟨3, bs key.data.toList, bs f, 0⟩ from rfl)
  generalize hr : cut rest.data.toList [42] = r at HC HR
  clear hr
  obtain ⟨f, a, b⟩ := r
  go_enter Tryz.func112, Tryz.ntmps112
  go_wp2_with fail
  refine HC.out.mono ?_
  clear HC
  generalize w.alloc (.cells #[.int .i64 0, .string ⟨#[]⟩, .string ⟨#[]⟩, .int .i64 0] 93) = w1 at HB X hg1 ⊢
  rintro e w2 ⟨rfl, hb2⟩
  have hb3 := HB.trans (hb2.mono HB.size)
  have X2 := X.below hb2
  have hg2 := hg1.below hb2
  clear X HB hb2 hg hg1
  cases b
  · obtain ⟨⟨c0, c1, c2, c3⟩, ⟨f0, f1, f2, f3⟩, R⟩ := box_four X2 (.int .i64 3) (.string key) (.string (bs f)) (.int .i64 0)
    have r0 := R.cell 0 (v := .int .i64 3) rfl
    have r1 := R.cell 1 (v := .string key) rfl
    have r2 := R.cell 2 (v := .string (bs f)) rfl
    have r3 := R.cell 3 (v := .int .i64 0) rfl
    have HF := hideP (below_four hb3 (Nat.le_refl _) (.int .i64 3) (.string key) (.string (bs f)) (.int .i64 0))
    have HV := hideP (show rdF key.data.toList rest.data.toList = some ⟨3, key, bs f, 0⟩ by rw [HR.out, bs_of])
    clear hb3 R X2 hg2 HR
    generalize bs f = s2 at *
    go_wp2_with fail
    exact bodyPost_ret (v := .tuple #[opV ⟨3, key, s2, 0⟩, .bool true]) (by simp [results, Tryz.results112, go_sem, r0, r1, r2, r3, opV]) rfl ⟨⟨⟨3, key, s2, 0⟩, by rw [HV.out]; rfl, fun p hp => by rw [HV.out] at hp; injection hp⟩, HF.out⟩
  · have HV := hideP (show rdF key.data.toList rest.data.toList = (rdN a).map fun n => ⟨5, key, bs f, n⟩ by rw [HR.out, bs_of])
    clear HR
    have HN := hideP (rdnum_any (bs a) w2 hg2)
    generalize bs f = s2 at HV ⊢
    have HB3 := hideP hb3
    clear hb3
    go_wp2_with fail
    refine HN.out.mono ?_
    rintro e w3 ⟨⟨z, rfl, hz⟩, hb4⟩
    rw [bs_data] at hz ⊢
    have hb5 := HB3.out.trans (hb4.mono HB3.out.size)
    obtain ⟨⟨c0, c1, c2, c3⟩, ⟨f0, f1, f2, f3⟩, R⟩ := box_four (X2.below hb4) (.int .i64 5) (.string key) (.string s2) (.int .i64 z)
    have r0 := R.cell 0 (v := .int .i64 5) rfl
    have r1 := R.cell 1 (v := .string key) rfl
    have r2 := R.cell 2 (v := .string s2) rfl
    have r3 := R.cell 3 (v := .int .i64 z) rfl
    have HF := hideP (below_four hb5 (Nat.le_refl _) (.int .i64 5) (.string key) (.string s2) (.int .i64 z))
    have HZ := hideP hz
    clear hb5 R X2 hg2 hz hb4 HN
    generalize hq : (rdN a).isSome = q at ⊢
    have HQ := hideP hq
    clear hq
    go_wp2_with fail
    refine bodyPost_ret (v := .tuple #[opV ⟨5, key, s2, z⟩, .bool q]) (by simp [results, Tryz.results112, go_sem, r0, r1, r2, r3, opV]) rfl ⟨⟨⟨5, key, s2, z⟩, ?_, ?_⟩, HF.out⟩
    · rw [HV.out, ← HQ.out]; simp
    · intro p hp
      rw [HV.out] at hp
      cases hn : rdN a with
      | none => rw [hn] at hp; cases hp
      | some n => rw [hn] at hp; injection hp with hp; rw [← hp, HZ.out n hn]
end Go.Proofs.YtmepmiokpcddbabGreatDoor

set_option linter.unusedVariables false
set_option linter.unusedSimpArgs false
namespace Go.Proofs.YtmepmiokpcddbabGreatDoor
open Go.Lib

/-- each byte times its place -/
def wsum (i : Nat) : List UInt8 → Nat
  | [] => 0
  | b :: l => b.toNat * (i + 1) + wsum (i + 1) l
/-- the sum of a text -/
def sm (l : List UInt8) : Nat := wsum 0 l % 65521
theorem wsum_app (a b : List UInt8) : ∀ i, wsum i (a ++ b) = wsum i a + wsum (i + a.length) b := by
  induction a with
  | nil => intro i; simp [wsum]
  | cons x a ih =>
    intro i
    rw [List.cons_append, wsum, wsum, ih, List.length_cons, show i + 1 + a.length = i + (a.length + 1) by omega, Nat.add_assoc]
theorem sm_step {l : List UInt8} {k : Nat} (h : k < l.length) : sm (l.take (k + 1)) = (sm (l.take k) + l[k].toNat * (k + 1)) % 65521 := by
  unfold sm
  rw [List.take_succ_eq_append_getElem h, wsum_app]
  have e : 0 + (l.take k).length = k := by simp; omega
  rw [e, wsum, wsum, Nat.add_zero]
  generalize wsum 0 (l.take k) = p
  generalize l[k].toNat * (k + 1) = q
  omega
theorem sm_lt (l : List UInt8) : sm l < 65521 := Nat.mod_lt _ (by decide)
/-- from behind -/
def smB (l : List UInt8) (k : Nat) : Nat := wsum k (l.drop k) % 65521
theorem smB_step {l : List UInt8} {k : Nat} (h : k < l.length) : smB l k = (smB l (k + 1) + (k + 1) * l[k].toNat) % 65521 := by
  unfold smB
  rw [List.drop_eq_getElem_cons h, wsum, Nat.mul_comm (k + 1)]
  generalize wsum (k + 1) (l.drop (k + 1)) = p
  generalize l[k].toNat * (k + 1) = q
  omega
theorem smB_zero (l : List UInt8) : smB l 0 = sm l := rfl
theorem smB_end (l : List UInt8) : smB l l.length = 0 := by unfold smB; rw [List.drop_length]; rfl
/-- one byte is another one: the sum differs -/
theorem sm_set {l : List UInt8} {i : Nat} {v : UInt8} (h : i < l.length) (hl : l.length ≤ 256) (hv : v ≠ l[i]) : sm (l.set i v) ≠ sm l := by
  intro e
  have e1 : l = l.take i ++ l[i] :: l.drop (i + 1) := by rw [← List.drop_eq_getElem_cons h, List.take_append_drop]
  have e2 : l.set i v = l.take i ++ v :: l.drop (i + 1) := by
    rw [List.set_eq_take_append_cons_drop, if_pos h]
  have hi : (l.take i).length = i := by simp; omega
  unfold sm at e
  rw [e2] at e
  rw [show wsum 0 l = wsum 0 (l.take i ++ l[i] :: l.drop (i + 1)) from congrArg _ e1] at e
  rw [wsum_app, wsum_app, wsum, wsum, hi] at e
  have hne : v.toNat ≠ l[i].toNat := fun h => hv (UInt8.toNat_inj.1 h)
  have b1 := v.toNat_lt
  have b2 := (l[i]).toNat_lt
  generalize wsum 0 (l.take i) = p at e
  generalize wsum (0 + i + 1) (l.drop (i + 1)) = q at e
  generalize v.toNat = a at *
  generalize (l[i]).toNat = b at *
  have hm : i + 1 ≤ 256 := by omega
  rw [Nat.zero_add] at e
  generalize hs : i + 1 = s at *
  have h1 : a * s + (p + q) = a * s + (p + q) := rfl
  rcases Nat.lt_or_ge a b with hab | hab
  · obtain ⟨d, rfl⟩ : ∃ d, b = a + d := ⟨b - a, by omega⟩
    have hd : d * s ≤ 255 * 256 := Nat.mul_le_mul (by omega) hm
    have hd1 : 1 ≤ d * s := Nat.mul_pos (by omega) (by omega)
    rw [Nat.add_mul] at e
    generalize d * s = x at *
    generalize a * s = y at *
    omega
  · obtain ⟨d, rfl⟩ : ∃ d, a = b + d := ⟨a - b, by omega⟩
    have hd : d * s ≤ 255 * 256 := Nat.mul_le_mul (by omega) hm
    have hd1 : 1 ≤ d * s := Nat.mul_pos (by omega) (by omega)
    rw [Nat.add_mul] at e
    generalize d * s = x at *
    generalize b * s = y at *
    omega

/-! the last space -/
theorem at_last (c : UInt8) (l : List UInt8) : c ∉ l ∨ ∃ a r, l = a ++ c :: r ∧ c ∉ r := by
  rcases at_byte c l.reverse with h | ⟨a, r, h1, h2⟩
  · exact .inl (fun hm => h (List.mem_reverse.2 hm))
  · refine .inr ⟨r.reverse, a.reverse, ?_, fun hm => h2 (List.mem_reverse.1 hm)⟩
    have := congrArg List.reverse h1
    simpa using this
theorem occ_at (c : UInt8) (l : List UInt8) (j : Nat) : occAt l [c] j = decide (l[j]? = some c) := by
  unfold occAt
  by_cases h : j < l.length
  · rw [List.drop_eq_getElem_cons h, List.getElem?_eq_getElem h]
    simp only [List.isPrefixOf, Bool.and_true]
    by_cases e : c = l[j]
    · simp [e]
    · have : ¬ l[j] = c := fun h => e h.symm
      simp [e, this]
  · rw [List.drop_of_length_le (by omega), List.getElem?_eq_none (by omega)]
    simp [List.isPrefixOf]
theorem last_no {c : UInt8} {l : List UInt8} (h : c ∉ l) : lastIndex l [c] = -1 := by
  unfold lastIndex
  split
  · rcases lastOcc_spec l [c] (l.length - [c].length + 1) with ⟨h1, _⟩ | ⟨i, _, _, h2, _⟩
    · exact h1
    · rw [occ_at] at h2
      exact absurd (List.mem_of_getElem? (of_decide_eq_true h2)) h
  · rfl
theorem last_hit {c : UInt8} {a r : List UInt8} (h : c ∉ r) : lastIndex (a ++ c :: r) [c] = a.length := by
  unfold lastIndex
  rw [if_pos (by simp; omega)]
  have hl : (a ++ c :: r).length - [c].length + 1 = a.length + r.length + 1 := by simp
  rw [hl]
  have ho : occAt (a ++ c :: r) [c] a.length = true := by rw [occ_at]; simp
  rcases lastOcc_spec (a ++ c :: r) [c] (a.length + r.length + 1) with ⟨_, h2⟩ | ⟨i, hi, h1, h2, h3⟩
  · have := h2 a.length (by omega)
    rw [ho] at this; cases this
  · rw [h1]
    rcases Nat.lt_trichotomy i a.length with hlt | heq | hgt
    · have := h3 a.length hlt (by omega)
      rw [ho] at this; cases this
    · rw [heq]
    · rw [occ_at] at h2
      have h4 := of_decide_eq_true h2
      rw [List.getElem?_append_right (by omega)] at h4
      obtain ⟨m, hm⟩ : ∃ m, i - a.length = m + 1 := ⟨i - a.length - 1, by omega⟩
      rw [hm, List.getElem?_cons_succ] at h4
      exact absurd (List.mem_of_getElem? h4) h
end Go.Proofs.YtmepmiokpcddbabGreatDoor

set_option linter.unusedVariables false
set_option linter.unusedSimpArgs false
namespace Go.Proofs.YtmepmiokpcddbabGreatDoor

/-- an entry -/
structure Ent where
  isM : Bool
  d : List Opr
  cs : List ByteArray
  os : List Int
def ent0 : Ent := ⟨false, [], [], []⟩
/-- its error -/
def chkE (x : Ent) : Int := if x.isM then chkM x.cs x.os else chkD x.d
/-- without the field that does not count -/
def dropE (x : Ent) : Ent := if x.isM then ⟨true, [], x.cs, x.os⟩ else ⟨false, x.d, [], []⟩
theorem dropE_twice (x : Ent) : dropE (dropE x) = dropE x := by
  obtain ⟨m, d, cs, os⟩ := x
  cases m <;> rfl
theorem chkE_drop (x : Ent) : chkE (dropE x) = chkE x := by
  obtain ⟨m, d, cs, os⟩ := x
  cases m <;> rfl
end Go.Proofs.YtmepmiokpcddbabGreatDoor
