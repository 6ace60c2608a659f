/-
  Slices of one-cell values in memory: what they read as, rows of the call's own, append (no body of the program in it).
  What package text calls of strconv and strings: contracts in the words of these texts.
-/
import Derived.Test.YtcjfkbponikadaaGreatDoorBt2
import Derived.Test.YtcjfkbponikadaaGreatDoorProg
import Derived.Maps.AppendAt
import Derived.Deep.AppendLies
import Derived.Lib.AppendZerosOnto
import Derived.OwnWalk
import Derived.Test.YtcjfkbponikadaaGreatDoorBt1
import Derived.Test.YtcjfkbponikadaaGreatDoorBt3
import Derived.Lib.SmallJoins
import Derived.WalkKit
import Derived.WalkSpells
import Derived.WalkLawsBesides
set_option linter.unusedVariables false
set_option linter.unusedSimpArgs false
namespace Go.Proofs.YtcjfkbponikadaaGreatDoor
open Go.RowKit

/-- a slice reads as a list of values -/
def VS (w : World) (A : Option Addr) (vs : List Value) : Prop := ∀ i v, vs[i]? = some v → ∃ b o, A = some ⟨b, o, none⟩ ∧ b < w.heap.size ∧ w.cell? ⟨b, o + i, none⟩ = some v
theorem VS.below {w w' : World} {A : Option Addr} {vs : List Value} (h : VS w A vs) (hb : Below w.heap.size w w') : VS w' A vs := fun i p hp => by
  obtain ⟨b, o, e, hlt, h1⟩ := h i p hp
  exact ⟨b, o, e, Nat.lt_of_lt_of_le hlt hb.size, (hb.cell hlt).trans h1⟩
theorem VS.nil {w : World} {A : Option Addr} : VS w A [] := fun i p hp => by simp at hp
theorem VS.take_ {w : World} {A : Option Addr} {vs : List Value} (h : VS w A vs) (q : Nat) : VS w A (vs.take q) := fun i p hp => by
  rw [List.getElem?_take] at hp
  split at hp
  · exact h i p hp
  · cases hp
theorem VS.drop_ {w : World} {b o : Nat} {vs : List Value} (h : VS w (some ⟨b, o, none⟩) vs) (q : Nat) : VS w (some ⟨b, o + q, none⟩) (vs.drop q) := fun i p hp => by
  rw [List.getElem?_drop] at hp
  obtain ⟨b', o', e, hlt, h1⟩ := h _ p hp
  injection e with e
  injection e with e1 e2 _
  subst e1; subst e2
  rw [← Nat.add_assoc] at h1
  exact ⟨_, _, rfl, hlt, h1⟩
/-- a slice that the call itself has made: its row lies from block B on -/
def OR (w : World) (B : Nat) (t : TypeId) (A : Option Addr) (c : Nat) (xs : List Value) : Prop := w.ownsRow B t 1 (.slice A xs.length c) xs.length xs
section
variable {w w' : World} {B B' : Nat} {t : TypeId} {A : Option Addr} {c : Nat} {xs : List Value}
theorem OR.mono (h : OR w B t A c xs) (hB : B' ≤ B) : OR w B' t A c xs :=
  ⟨h.1, h.2.imp id fun ⟨g, cap, cur, h1, h2, h3⟩ => ⟨g, cap, cur, h1, Nat.le_trans hB h2, h3⟩⟩
theorem OR.below (h : OR w B t A c xs) (hb : Below w.heap.size w w') : OR w' B t A c xs :=
  ⟨h.1, h.2.imp id fun ⟨g, cap, cur, h1, h2, h3, h4⟩ => ⟨g, cap, cur, h1, h2, (hb.block g (Array.getElem?_eq_some_iff.1 h3).1).trans h3, h4⟩⟩
theorem OR.vs (h : OR w B t A c xs) : VS w A xs := by
  rcases Nat.eq_zero_or_pos xs.length with h0 | h0
  · rw [List.length_eq_zero_iff.1 h0]; exact VS.nil
  · obtain ⟨g, cap, hv, _, hlt⟩ := World.ownsRow.form h h0
    injection hv with a b d
    subst a; subst d
    refine fun i p hp => ⟨g, 0, rfl, hlt, ?_⟩
    have := h.cells (g := g) rfl _ _ hp
    rw [Addr.add_lit] at this
    exact this
theorem OR.of_own {n : Nat} {v : Value} (h : w.ownsRow B t 1 v n xs) : ∃ A c, v = .slice A xs.length c ∧ OR w B t A c xs := by
  have hn : n = xs.length := by have := h.1; omega
  subst hn
  rcases h.2 with ⟨rfl, h0⟩ | ⟨g, cap, cur, rfl, h2⟩
  · exact ⟨none, 0, by rw [h0], by unfold OR; rw [h0]; exact h0 ▸ h⟩
  · exact ⟨_, _, rfl, h⟩
theorem OR.nil (w : World) (B : Nat) (t : TypeId) : OR w B t none 0 [] := World.ownsRow_nil w _ _ _
theorem OR.caps (h : OR w B t A c xs) : xs.length ≤ c ∧ c ≤ maxLen ∧ (A = none → c = 0) ∧ (∀ a, A = some a → ∃ g, a = ⟨g, 0, none⟩ ∧ B ≤ g ∧ g < w.heap.size) := by
  rcases h.2 with ⟨hv, h0⟩ | ⟨g, cap, cur, hv, h2, h3, h4, h5, _⟩
  · injection hv with a b d
    subst a; subst d
    exact ⟨by omega, Nat.zero_le _, (fun _ => rfl), (fun a e => by cases e)⟩
  · injection hv with a b d
    subst a; subst d
    exact ⟨h4, h5, (fun e => by cases e), (fun a e => by injection e with e; exact ⟨g, e.symm, h2, (Array.getElem?_eq_some_iff.1 h3).1⟩)⟩
end
/-- append of new values onto a row of the call's own -/
theorem app_row {P : Program} {st t : TypeId} {z : Value} {bytes : Nat} (hS : P.underlying st = some (.slice t)) (hI : (P.info? t).map (fun i => (i.zero, i.size, i.bytes)) = some (some z, 1, bytes)) (hz : z.cells.size = 1)
    (w : World) (base : Nat) (ty : TypeId) (A : Option Addr) (c : Nat) (xs : List Value) (hown : OR w base t A c xs) (news : List Value) (h1 : ∀ u ∈ news, u.oneCell' = true)
    (h63 : (xs.length + news.length) * bytes ≤ 140737488355328) (hby : 1 ≤ bytes) (hbase : base ≤ w.heap.size) :
    ∃ A' c' w', (Builtin.append_ #[st, st] ty #[.slice A xs.length c, .slice (some ⟨w.heap.size, 0, none⟩) news.length news.length]).run P (w.alloc (.cells news.toArray t)) = .ok (.slice A' (xs ++ news).length c') w' ∧ OR w' base t A' c' (xs ++ news) ∧ (∀ B a, B ≤ base → Below B a w → Below B a w') ∧ (w.alloc (.cells news.toArray t)).grownBy w' (Value.slice A xs.length c).ownBlock ∧
      ((Value.slice A' (xs ++ news).length c').ownBlock = (Value.slice A xs.length c).ownBlock ∨ (Value.slice A' (xs ++ news).length c').ownBlock = some (w.heap.size + 1)) := by
  obtain ⟨i0, hi, hz0, hz1, hz2⟩ := info_parts hI
  have hle : xs.length + news.length ≤ 140737488355328 := Nat.le_trans (Nat.le_mul_of_pos_right _ hby) h63
  have hm : xs.length + news.length ≤ maxLen := by unfold maxLen; omega
  have hc : ∀ j u, news[j]? = some u → (w.alloc (.cells news.toArray t)).cell? ((⟨w.heap.size, 0, none⟩ : Addr).add j) = some u := by
    intro j u hu
    rw [Addr.add_lit]
    simp only [World.cell?]
    rw [heap_alloc_new]
    simp [hu]
  have hown' : (w.alloc (.cells news.toArray t)).ownsRow base t 1 (.slice A xs.length c) xs.length xs := World.ownsRow.alloc hown _
  obtain ⟨v', w', hrun, h2, h3, _, h5⟩ := run_append_own_at (P := P) (w.alloc (.cells news.toArray t)) base st ty t i0 _ 1 bytes hS hi hz0 hz1 hz2 hz (by decide) _ xs.length xs hown' ⟨w.heap.size, 0, none⟩ news.length news.length news (by simp) hc h1 hm h63 (by simp; omega)
  rw [← List.length_append] at h2
  obtain ⟨A', c', rfl, ho⟩ := OR.of_own h2
  refine ⟨A', c', w', hrun, ho, fun B a hB hb => ?_, h3, by simpa using h5⟩
  have hb' := hb.alloc (Nat.le_trans hB hbase) (.cells news.toArray t)
  exact hb'.grown h3 (by simp; omega) fun k hk => Nat.le_trans hB (World.ownsRow.lt hown' k hk).1
/-- rows that lie apart -/
theorem rows_apart {v v' : Value} {m : Nat} (h1 : ∀ k, v.ownBlock = some k → m ≤ k) (h2 : ∀ k, v'.ownBlock = some k → k < m) : v.ownBlock = none ∨ v.ownBlock ≠ v'.ownBlock := by
  cases h : v.ownBlock with
  | none => exact .inl rfl
  | some k => exact .inr fun e => by have := h1 k h; have := h2 k e.symm; omega
theorem boolInfo : (Tryz.prog.info? 4).map (fun i => (i.zero, i.size, i.bytes)) = some (some (.bool false), 1, 1) := by kernel_rfl
theorem strInfo : (Tryz.prog.info? 9).map (fun i => (i.zero, i.size, i.bytes)) = some (some (.string ByteArray.empty), 1, 16) := by kernel_rfl
end Go.Proofs.YtcjfkbponikadaaGreatDoor

set_option linter.unusedVariables false
set_option linter.unusedSimpArgs false
namespace Go.Proofs.YtcjfkbponikadaaGreatDoor
open Go.RowKit Go.Lib

/-- the two package variables that are read -/
structure Gl (w : World) : Prop where
  tab : TabIs Tryz.prog w "internal/strconv.uint64pow10" .u64 pow10Tab
  err : ∃ ev, w.cell? ⟨Tryz.atoiL_ren.g 15, 0, none⟩ = some ev ∧ (ev = .nilIface ∨ ∃ te pe, ev = .iface te pe)
theorem Gl.below {w w' : World} (h : Gl w) (hb : Below w.heap.size w w') : Gl w' := by
  obtain ⟨ev, h1, h2⟩ := h.err
  exact ⟨Go.Joins.tab_stays (g := (Tryz.prog.globalNamed "internal/strconv.uint64pow10").getD 0) (by kernel_rfl) h.tab hb (Nat.le_refl _), ev, (hb.cell (cell_lt h1)).trans h1, h2⟩
theorem below_drewN {B : Nat} {a w : World} (h : Below B a w) (n : Nat) : Below B a (w.drewN n) := h.trans ⟨rfl, rfl, rfl, Nat.le_refl _, fun _ _ => rfl⟩
theorem below_grow {w : World} {k : Nat} {os : Array Obj} : Below w.heap.size w (Sort.grow (w.drewN k) os) :=
  (below_drewN (Below.refl w.heap.size w) k).trans ⟨rfl, rfl, rfl, by simp [Sort.grow], fun i hi => by simp [Sort.grow, World.drewN, Array.getElem?_append, hi]⟩
theorem itoa_any (n : Int) (h0 : -9223372036854775808 ≤ n) (h1 : n ≤ 9223372036854775807) (w : World) (hg : Gl w) :
    Calls Tryz.prog 71 #[.int .i64 n] w fun e w' => e = .returned (.string (bs (itoa n))) ∧ Below w.heap.size w w' := by
  refine (Any.strconv_Itoa Tryz.itoaL n h0 h1 w hg.tab).mono ?_
  rintro e w' ⟨rfl, k, os, rfl⟩
  exact ⟨rfl, below_grow⟩
theorem parse_len (l : List UInt8) : ∀ acc, (acc + 1) * 10 ^ l.length ≤ 1000000000000000000 → parseUint10 acc l ≠ .range ∧ ∀ u, parseUint10 acc l = .ok u → u < (acc + 1) * 10 ^ l.length := by
  induction l with
  | nil => intro acc h; exact ⟨(fun e => by cases e), fun u e => by injection e with e; subst e; simp⟩
  | cons c l ih =>
    intro acc h
    rw [List.length_cons, Nat.pow_succ] at h
    have hp : 1 ≤ 10 ^ l.length := Nat.one_le_pow _ _ (by decide)
    have h1 : acc + 1 ≤ (acc + 1) * 10 ^ l.length := Nat.le_mul_of_pos_right _ hp
    have h2 : (acc + 1) * (10 ^ l.length * 10) = (acc + 1) * 10 ^ l.length * 10 := by rw [Nat.mul_assoc]
    rw [h2] at h
    rw [parseUint10]
    by_cases hd : 48 ≤ c.toNat ∧ c.toNat ≤ 57
    · rw [if_pos hd, if_neg (by omega), if_neg (by omega)]
      have h3 : (acc * 10 + (c.toNat - 48) + 1) * 10 ^ l.length ≤ (acc + 1) * 10 * 10 ^ l.length := Nat.mul_le_mul_right _ (by omega)
      have h4 : (acc + 1) * 10 * 10 ^ l.length = (acc + 1) * 10 ^ l.length * 10 := by rw [Nat.mul_assoc, Nat.mul_comm 10, ← Nat.mul_assoc]
      obtain ⟨g1, g2⟩ := ih (acc * 10 + (c.toNat - 48)) (by omega)
      refine ⟨g1, fun u e => ?_⟩
      have := g2 u e
      rw [List.length_cons, Nat.pow_succ, h2]
      omega
    · rw [if_neg hd]; exact ⟨(fun e => by cases e), fun u e => by cases e⟩
theorem atoi_len {l : List UInt8} (h : l.length ≤ 11) : atoiAll l ≠ .range := by
  have key : ∀ m : List UInt8, m.length ≤ 11 → parseMag m ≠ .range ∧ ∀ u, parseMag m = .ok u → u < 100000000000 := by
    intro m hm
    unfold parseMag
    split
    · exact ⟨(fun e => by cases e), fun u e => by cases e⟩
    · have hp : 10 ^ m.length ≤ 10 ^ 11 := Nat.pow_le_pow_right (by decide) hm
      obtain ⟨g1, g2⟩ := parse_len m 0 (by omega)
      exact ⟨g1, fun u e => by have := g2 u e; omega⟩
  cases l with
  | nil => intro e; cases e
  | cons c r =>
    simp only [atoiAll]
    have hm : (if c.toNat = 43 ∨ c.toNat = 45 then r else c :: r).length ≤ 11 := by
      split
      · simp at h; omega
      · exact h
    obtain ⟨g1, g2⟩ := key _ hm
    split
    · intro e; cases e
    · next e => exact absurd e g1
    · next u e =>
      have := g2 u e
      rw [if_neg (by omega), if_neg (by omega)]
      intro e; cases e
theorem atoi_bd {l : List UInt8} {z : Int} (h : atoiAll l = .ok z) : -9223372036854775808 ≤ z ∧ z ≤ 9223372036854775807 := atoiAll_bounds h
theorem atoi_any (s : ByteArray) (h : s.size ≤ 11) (w : World) (hg : Gl w) :
    Calls Tryz.prog 119 #[.string s] w fun e w' => ∃ z ev, e = .returned (.tuple #[.int .i64 z, ev]) ∧ (ev = .nilIface ∧ atoiAll s.data.toList = .ok z ∨ (∃ t v, ev = .iface t v) ∧ ∀ y, atoiAll s.data.toList ≠ .ok y) ∧ (-9223372036854775808 ≤ z ∧ z ≤ 9223372036854775807) ∧ Below w.heap.size w w' := by
  have hl : s.data.toList.length ≤ 11 := by simpa using h
  rcases ha : atoiAll s.data.toList with v | _ | _
  · refine (Any.strconv_Atoi_ok Tryz.atoiL s (by omega) v ha w).mono ?_
    rintro e w' ⟨rfl, hw⟩
    refine ⟨v, _, rfl, .inl ⟨rfl, rfl⟩, atoi_bd ha, ?_⟩
    rcases hw with rfl | ⟨t, rfl⟩
    · exact Below.refl _ _
    · exact bytesWorld_below _ _ _
  · obtain ⟨ev, h1, h2⟩ := hg.err
    refine (Any.strconv_Atoi_syntax Tryz.atoiL s (by omega) ha ev w h1 h2).mono ?_
    rintro e w' ⟨N, rfl, _, _, hb⟩
    exact ⟨0, _, rfl, .inr ⟨⟨_, _, rfl⟩, fun y e => by cases e⟩, ⟨by decide, by decide⟩, hb⟩
  · exact absurd ha (atoi_len hl)
theorem join_extra : Builder.Extra Tryz.prog Tryz.joinL_ren where
  sizeBuilder := by kernel_rfl
  liesBuilder := by kernel_rfl
  t5 := Tryz.underlying5
  a5 := Tryz.isAgg5
  z5 := Tryz.sizeOf5
  v5 := Tryz.zeroValue5
  infoByte := by kernel_rfl
  cellsByte := by kernel_rfl
  sizeByte := by kernel_rfl
  neB5 := by decide
theorem join_any (A : Option Addr) (c : Nat) (xs : List ByteArray) (sep : ByteArray) (w : World) (hA : VS w A (xs.map Value.string)) (h1 : 1 ≤ xs.length) (hN : xs.length ≤ 140737488355328) (hc : xs.length ≤ c)
    (hlen : (join (xs.map (·.data.toList)) sep.data.toList).length ≤ 140737488355328) :
    Calls Tryz.prog 69 #[.slice A xs.length c, .string sep] w fun e w' => e = .returned (.string (bs (join (xs.map (·.data.toList)) sep.data.toList))) ∧ Below w.heap.size w w' := by
  obtain ⟨b, o, rfl, hb, _⟩ := hA 0 (.string xs[0]) (by simp [List.getElem?_eq_getElem (show 0 < xs.length from h1)])
  refine Any.strings_Join { Tryz.joinL with } join_extra b o c xs sep w (fun j x hx => ?_) hb hN hc hlen
  obtain ⟨b', o', e, _, hv⟩ := hA j (.string x) (by simp [hx])
  injection e with e
  injection e with e1 e2 _
  subst e1; subst e2
  exact hv
theorem indexByte_eq (c : UInt8) (l : List UInt8) : indexByte l c = index l [c] := by
  induction l with
  | nil => rfl
  | cons b l ih =>
    rw [indexByte, index, ih]
    by_cases h : b = c
    · subst h; simp [List.isPrefixOf]
    · have h2 : (b == c) = false := by simpa using h
      have h3 : (c == b) = false := by simpa using fun e => h e.symm
      simp only [h2, List.isPrefixOf, h3, Bool.false_and]
set_option maxHeartbeats 1000000 in
theorem split_any (s : ByteArray) (c : UInt8) (w : World) (hs : s.size < 4294967281) :
    Calls Tryz.prog 72 #[.string s, .string ⟨#[c]⟩] w fun e w' => e = .returned (.slice (some ⟨w.heap.size, 0, none⟩) (splB c s).length (splB c s).length) ∧ w' = w.alloc (.cells ((splB c s).map Value.string).toArray 9) := by
  have hlen := splB_len c s
  have hle := countB_le ⟨#[c]⟩ (Nat.le_refl 1) s.size s (Nat.le_refl _)
  have ct := Any.strings_genSplit_core (P := Tryz.prog) (ρ := Tryz.splitL_ren) { Tryz.splitL with } Tryz.splitL.i9 s ⟨#[c]⟩ 0 (-1) (countB s ⟨#[c]⟩ + 1) w hs (Nat.le_refl 1) (Nat.zero_le _)
    (fun x cs hx => (Any.strings_Index_one { Tryz.splitL with } x c _).mono fun e w' ⟨h1, h2⟩ => ⟨by rw [h1, indexByte_eq], h2⟩)
    ((Any.strings_Count_one { Tryz.splitL with } s c w).mono fun e w' ⟨h1, h2⟩ => ⟨by rw [h1]; show _ = Ending.returned (Value.int .i64 ((count s.data.toList [c] : Nat) : Int)); rw [count_one]; rfl, h2⟩)
    (by decide) (by decide) (by rw [if_pos (by decide)]; omega)
  rw [Nat.add_sub_cancel, show splitB ⟨#[c]⟩ 0 (countB s ⟨#[c]⟩) s = splB c s from rfl, ← hlen, cellsOf_full] at ct
  clear hlen hle
  go_enter Tryz.func72, Tryz.ntmps72
  go_wp2_with fail
  refine ct.mono ?_
  rintro e w' ⟨rfl, rfl⟩
  go_wp2_with fail
  go_ret
  exact ⟨rfl, rfl⟩
set_option maxHeartbeats 1000000 in
set_option maxRecDepth 100000 in
theorem litecut_any (s : ByteArray) (c : UInt8) (w : World) (hs : s.size ≤ 4611686018427387904) :
    Calls Tryz.prog 122 #[.string s, .string ⟨#[c]⟩] w fun e w' => e = .returned (.tuple #[.string (bs (cut s.data.toList [c]).1), .string (bs (cut s.data.toList [c]).2.1), .bool (cut s.data.toList [c]).2.2]) ∧ Below w.heap.size w w' := by
  have hI := (Any.stringslite_Index_one (P := Tryz.prog) (ρ := Tryz.cutL_ren) { Tryz.cutL with } s c w)
  rw [indexByte_eq] at hI
  rcases indexB_cases s ⟨#[c]⟩ with hix | ⟨i, hix, hroom⟩
  · obtain ⟨e1, e2, e3⟩ := cutB_miss s ⟨#[c]⟩ hix
    replace e1 : bs (cut s.data.toList [c]).1 = _ := e1
    replace e2 : bs (cut s.data.toList [c]).2.1 = _ := e2
    replace e3 : (cut s.data.toList [c]).2.2 = _ := e3
    rw [e1, e2, e3]
    rw [show index s.data.toList [c] = -1 from hix] at hI
    clear e1 e2 e3 hix
    go_enter Tryz.func122, Tryz.ntmps122
    go_wp2_with fail
    refine hI.mono ?_
    rintro e w' ⟨rfl, rfl⟩
    go_wp2_with fail
    go_ret3
    exact ⟨rfl, Below.refl _ _⟩
  · obtain ⟨e1, e2, e3⟩ := cutB_hit s ⟨#[c]⟩ i hix
    replace e1 : bs (cut s.data.toList [c]).1 = _ := e1
    replace e2 : bs (cut s.data.toList [c]).2.1 = _ := e2
    replace e3 : (cut s.data.toList [c]).2.2 = _ := e3
    rw [e1, e2, e3]
    rw [show index s.data.toList [c] = i from hix] at hI
    have c0 : (ByteArray.mk #[c]).size = 1 := rfl
    have c1 : (0 : Int) ≤ ↑i := by omega
    have c2 : (↑i : Int) ≤ ↑s.size := by omega
    have c3 : (0 : Int) ≤ ↑i + 1 := by omega
    have c4 : (↑i + 1 : Int) ≤ ↑s.size := by omega
    have pw : IntKind.i64.wrap ((i : Int) + 1) = (i : Int) + 1 := by simp only [IntKind.wrap_i64]; omega
    clear e1 e2 e3 hix hroom c0
    go_enter Tryz.func122, Tryz.ntmps122
    go_wp2_with fail
    refine hI.mono ?_
    rintro e w' ⟨rfl, rfl⟩
    go_wp2_with fail
    go_region
    go_wp2_with fail
    go_ret3
    exact ⟨rfl, (Below.refl _ _).drew⟩
set_option maxHeartbeats 1000000 in
set_option maxRecDepth 100000 in
theorem cut_any (s : ByteArray) (c : UInt8) (w : World) (hs : s.size ≤ 4611686018427387904) :
    Calls Tryz.prog 83 #[.string s, .string ⟨#[c]⟩] w fun e w' => e = .returned (.tuple #[.string (bs (cut s.data.toList [c]).1), .string (bs (cut s.data.toList [c]).2.1), .bool (cut s.data.toList [c]).2.2]) ∧ Below w.heap.size w w' := by
  have HQ := hideP (litecut_any s c w hs)
  generalize cut s.data.toList [c] = r at HQ ⊢
  obtain ⟨a, b, d⟩ := r
  go_enter Tryz.func83, Tryz.ntmps83
  go_wp2_with fail
  refine HQ.out.mono ?_
  rintro e w' ⟨rfl, hb⟩
  go_wp2_with fail
  go_ret3
  exact ⟨rfl, hb⟩
end Go.Proofs.YtcjfkbponikadaaGreatDoor
