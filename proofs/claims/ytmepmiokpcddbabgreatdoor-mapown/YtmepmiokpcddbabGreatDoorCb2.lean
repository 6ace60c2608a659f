/-
  A cut and a gift, plainly (no program in it).
  Slices of one-cell values in memory: what they read as, rows of the call's own, append (no body of the program in it).
  Rows of numbers (no body of the program in it).
  Slices of ints in memory (no body of the program in it).
  Operations and transactions as lists, and their cells in memory (no program in it).
  Is a key in a list? (no program in it)
  Partition maps in memory.
-/
import Derived.Test.YtmepmiokpcddbabGreatDoorCb1
import Derived.Test.YtmepmiokpcddbabGreatDoorProg
import Derived.Maps.AppendAt
import Derived.Deep.AppendLies
import Derived.Lib.AppendZerosOnto
import Derived.OwnWalk
import Derived.WalkKit
import Derived.WalkSpells
import Derived.WalkLawsBesides
import Derived.Deep.QuietTactic
import Derived.BigQuiet
set_option linter.unusedVariables false
set_option linter.unusedSimpArgs false
namespace Go.Proofs.YtmepmiokpcddbabGreatDoor

/-- the cuts with one more -/
def cutC (cs : List ByteArray) (key : ByteArray) : List ByteArray := cs.take (atC cs key) ++ ([key] ++ cs.drop (atC cs key))
/-- the owners with one twice -/
def cutO (cs : List ByteArray) (os : List Int) (key : ByteArray) : List Int := os.take (atC cs key + 1) ++ os.drop (atC cs key)
section
variable {cs : List ByteArray} {os : List Int} {key : ByteArray}
theorem cutC_len : (cutC cs key).length = cs.length + 1 := by
  have := atC_le cs key
  simp only [cutC, List.length_append, List.length_take, List.length_singleton, List.length_drop]; omega
theorem cutO_len (h : os.length = cs.length + 1) : (cutO cs os key).length = os.length + 1 := by
  have := atC_le cs key
  simp only [cutO, List.length_append, List.length_take, List.length_drop]; omega
theorem cutC_low {i : Nat} (h : i < atC cs key) : (cutC cs key).getD i ByteArray.empty = cs.getD i ByteArray.empty := by
  have := atC_le cs key
  simp only [cutC, List.getD_eq_getElem?_getD]
  rw [List.getElem?_append_left (by rw [List.length_take]; omega), List.getElem?_take, if_pos h]
theorem cutC_high {i : Nat} (h : atC cs key ≤ i) : (cutC cs key).getD (i + 1) ByteArray.empty = cs.getD i ByteArray.empty := by
  have := atC_le cs key
  simp only [cutC, List.getD_eq_getElem?_getD]
  have hl : (cs.take (atC cs key)).length = atC cs key := by rw [List.length_take]; omega
  rw [List.getElem?_append_right (by omega), hl, List.getElem?_append_right (by simp only [List.length_singleton]; omega), List.getElem?_drop, List.length_singleton]
  congr 2
  omega
theorem cutO_low (ho : os.length = cs.length + 1) {i : Nat} (h : i ≤ atC cs key) : (cutO cs os key).getD i 0 = os.getD i 0 := by
  have := atC_le cs key
  simp only [cutO, List.getD_eq_getElem?_getD]
  rw [List.getElem?_append_left (by rw [List.length_take]; omega), List.getElem?_take, if_pos (by omega)]
theorem cutO_high (ho : os.length = cs.length + 1) {i : Nat} (h : atC cs key ≤ i) : (cutO cs os key).getD (i + 1) 0 = os.getD i 0 := by
  have := atC_le cs key
  simp only [cutO, List.getD_eq_getElem?_getD]
  have hl : (os.take (atC cs key + 1)).length = atC cs key + 1 := by rw [List.length_take]; omega
  rw [List.getElem?_append_right (by omega), hl, List.getElem?_drop]
  congr 2
  omega
theorem plN_succ (cs : List ByteArray) (os : List Int) (k : Nat) : plN cs os (k + 1) = if os.getD (k + 1) 0 = os.getD k 0 then plN cs os k else ((plN cs os k).1 ++ [cs.getD k ByteArray.empty], (plN cs os k).2 ++ [os.getD (k + 1) 0]) := rfl
theorem plN_cut_low (ho : os.length = cs.length + 1) {k : Nat} (hk : k ≤ atC cs key) : plN (cutC cs key) (cutO cs os key) k = plN cs os k := by
  induction k with
  | zero => simp only [plN]; rw [cutO_low ho (by omega)]
  | succ k ih => simp only [plN]; rw [cutO_low ho hk, cutO_low ho (show k ≤ _ by omega), cutC_low (by omega), ih (by omega)]
/-- a cut is not plain -/
theorem plN_cut (ho : os.length = cs.length + 1) {k : Nat} (hk : atC cs key ≤ k) : plN (cutC cs key) (cutO cs os key) (k + 1) = plN cs os k := by
  induction k with
  | zero =>
    have h0 : atC cs key = 0 := by omega
    rw [plN_succ, cutO_high ho (by omega), cutO_low ho (by omega), if_pos rfl, plN_cut_low ho (by omega)]
  | succ k ih =>
    rcases Nat.lt_or_ge k (atC cs key) with h | h
    · have h0 : atC cs key = k + 1 := by omega
      rw [plN_succ, cutO_high ho (by omega), cutO_low ho (by omega), if_pos rfl, plN_cut_low ho (by omega)]
    · rw [plN_succ, cutO_high ho (by omega), cutO_high ho (by omega), cutC_high (by omega), ih h]
      rfl
theorem plN_cut_all (ho : os.length = cs.length + 1) : plN (cutC cs key) (cutO cs os key) (cutC cs key).length = plN cs os cs.length := by
  rw [cutC_len]; exact plN_cut ho (atC_le _ _)
theorem cut_ok (h : OkM cs os) (hk : keyB key = true) (hn : key ∉ cs) (h12 : cs.length < 12) : OkM (cutC cs key) (cutO cs os key) := by
  have hle := atC_le cs key
  obtain ⟨h1, h2⟩ := cutsB_iff.1 h.cuts
  have hlo : ∀ x ∈ cs.take (atC cs key), ltB x key = true := fun x hx => by
    obtain ⟨i, hi, e⟩ := List.getElem_of_mem hx
    rw [List.length_take] at hi
    rw [List.getElem_take] at e
    obtain ⟨hil, hl⟩ := atC_below (show i < atC cs key by omega)
    rw [e] at hl
    cases hx2 : ltB x key with
    | true => rfl
    | false =>
      have := ltB_total hx2 (leB_iff.1 hl)
      subst this
      exact absurd (List.mem_of_mem_take hx) hn
  have hhi : ∀ x ∈ cs.drop (atC cs key), ltB key x = true := fun x hx => by
    obtain ⟨i, hi, e⟩ := List.getElem_of_mem hx
    rw [List.length_drop] at hi
    rw [List.getElem_drop] at e
    have := (atC_iff h2 (key := key) (show atC cs key + i < cs.length by omega))
    cases hx2 : leB cs[atC cs key + i] key with
    | true => exact absurd (this.1 hx2) (by omega)
    | false => rw [← e]; exact leB_no.1 hx2
  refine ⟨by rw [cutC_len]; omega, by rw [cutC_len, cutO_len h.len, h.len], cutsB_iff.2 ⟨fun k hk' => ?_, ?_⟩, fun n hn' => ?_⟩
  · rcases List.mem_append.1 hk' with hx | hx
    · exact h1 k (List.mem_of_mem_take hx)
    · rcases List.mem_cons.1 hx with rfl | hx
      · exact ⟨hk, keyB_ne_empty hk⟩
      · exact h1 k (List.mem_of_mem_drop hx)
  · refine List.pairwise_append.2 ⟨h2.sublist (List.take_sublist _ _), List.pairwise_cons.2 ⟨fun x hx => hhi x hx, h2.sublist (List.drop_sublist _ _)⟩, fun x hx y hy => ?_⟩
    rcases List.mem_cons.1 hy with rfl | hy
    · exact hlo x hx
    · exact ltB_trans (hlo x hx) (hhi y hy)
  · rcases List.mem_append.1 hn' with hx | hx
    · exact h.own n (List.mem_of_mem_take hx)
    · exact h.own n (List.mem_of_mem_drop hx)
theorem whV_plN (h : OkM cs os) (k : ByteArray) : whV (plN cs os cs.length).1 (plN cs os cs.length).2 k = whV cs os k := by
  rw [plN_whose (cutsB_iff.1 h.cuts).2 k (Nat.le_refl _), List.take_length]; rfl
/-- a cut changes nobody's keys -/
theorem whV_cut (h : OkM cs os) (hk : keyB key = true) (hn : key ∉ cs) (h12 : cs.length < 12) (k : ByteArray) : whV (cutC cs key) (cutO cs os key) k = whV cs os k := by
  rw [← whV_plN (cut_ok h hk hn h12) k, plN_cut_all h.len, whV_plN h k]
theorem whV_mem (h : OkM cs os) (k : ByteArray) : whV cs os k ∈ os := by
  have := atC_le cs k
  have hl := h.len
  unfold whV
  rw [List.getD_eq_getElem?_getD, List.getElem?_eq_getElem (show atC cs k < os.length by omega)]
  exact List.getElem_mem _
theorem give_ok (h : OkM cs os) {i : Nat} {n : Int} (h0 : 0 ≤ n) (h3 : n ≤ 3) : OkM cs (os.set i n) :=
  ⟨h.few, by rw [List.length_set]; exact h.len, h.cuts, fun x hx => by
    rcases List.mem_or_eq_of_mem_set hx with hx | rfl
    · exact h.own x hx
    · exact ⟨h0, h3⟩⟩
theorem whV_give_same (h : OkM cs os) {i : Nat} {n : Int} {k : ByteArray} (hi : atC cs k = i) : whV cs (os.set i n) k = n := by
  have := atC_le cs k
  have hl := h.len
  unfold whV
  rw [hi, List.getD_eq_getElem?_getD, List.getElem?_set, if_pos rfl, if_pos (by omega)]
  rfl
theorem whV_give_other {i : Nat} {n : Int} {k : ByteArray} (hi : atC cs k ≠ i) : whV cs (os.set i n) k = whV cs os k := by
  unfold whV
  rw [List.getD_eq_getElem?_getD, List.getElem?_set, if_neg (fun e => hi e.symm), List.getD_eq_getElem?_getD]
theorem give_back {i : Nat} {n : Int} (hi : i < os.length) : (os.set i n).set i (os.getD i 0) = os := by
  rw [List.set_set, List.getD_eq_getElem?_getD, List.getElem?_eq_getElem hi]
  exact List.set_getElem_self hi
theorem give_cat {i : Nat} {n : Int} (hi : i < os.length) : os.take i ++ ([n] ++ os.drop (i + 1)) = os.set i n := by
  rw [List.set_eq_take_append_cons_drop, if_pos hi]; rfl
/-- the first cut that is not below a key -/
theorem atC_lt (hn : key ∉ cs) : (cs.takeWhile fun c => ltB c key).length = atC cs key := by
  unfold atC
  congr 1
  have : ∀ l : List ByteArray, (∀ c ∈ l, c ≠ key) → (l.takeWhile fun c => ltB c key) = l.takeWhile fun c => leB c key := fun l => by
    induction l with
    | nil => intro _; rfl
    | cons c r ih =>
      intro hl
      have hc : ltB c key = leB c key := by
        cases hx : leB c key with
        | false => exact ltB_asymm (leB_no.1 hx)
        | true =>
          cases hy : ltB c key with
          | true => rfl
          | false => exact absurd (ltB_total hy (leB_iff.1 hx)) (hl c (by simp))
      simp only [List.takeWhile_cons, hc, ih fun x hx => hl x (by simp [hx])]
  exact this cs fun c hc e => hn (e ▸ hc)
theorem atC_of {i : Nat} (hi : i ≤ cs.length) (h1 : ∀ j (hj : j < cs.length), j < i → leB cs[j] key = true) (h2 : ∀ hj : i < cs.length, leB cs[i] key = false) : atC cs key = i := by
  have h3 := atC_le cs key
  rcases Nat.lt_trichotomy (atC cs key) i with h | h | h
  · have h4 := h1 _ (show atC cs key < cs.length by omega) h
    rw [atC_next (show atC cs key < cs.length by omega)] at h4
    cases h4
  · exact h
  · obtain ⟨h5, h6⟩ := atC_below h
    rw [h2 h5] at h6
    cases h6
end
end Go.Proofs.YtmepmiokpcddbabGreatDoor

set_option linter.unusedVariables false
set_option linter.unusedSimpArgs false
namespace Go.Proofs.YtmepmiokpcddbabGreatDoor
open Go.RowKit

/-- a slice reads as a list of values -/
def VS (w : World) (A : Option Addr) (vs : List Value) : Prop := ∀ i v, vs[i]? = some v → ∃ b o, A = some ⟨b, o, none⟩ ∧ b < w.heap.size ∧ w.cell? ⟨b, o + i, none⟩ = some v
theorem VS.below {w w' : World} {A : Option Addr} {vs : List Value} (h : VS w A vs) (hb : Below w.heap.size w w') : VS w' A vs := fun i p hp => by
  obtain ⟨b, o, e, hlt, h1⟩ := h i p hp
  exact ⟨b, o, e, Nat.lt_of_lt_of_le hlt hb.size, (hb.cell hlt).trans h1⟩
theorem VS.nil {w : World} {A : Option Addr} : VS w A [] := fun i p hp => by simp at hp
theorem VS.take_ {w : World} {A : Option Addr} {vs : List Value} (h : VS w A vs) (q : Nat) : VS w A (vs.take q) := fun i p hp => by
  rw [List.getElem?_take] at hp
  split at hp
  · exact h i p hp
  · cases hp
theorem VS.drop_ {w : World} {b o : Nat} {vs : List Value} (h : VS w (some ⟨b, o, none⟩) vs) (q : Nat) : VS w (some ⟨b, o + q, none⟩) (vs.drop q) := fun i p hp => by
  rw [List.getElem?_drop] at hp
  obtain ⟨b', o', e, hlt, h1⟩ := h _ p hp
  injection e with e
  injection e with e1 e2 _
  subst e1; subst e2
  rw [← Nat.add_assoc] at h1
  exact ⟨_, _, rfl, hlt, h1⟩
/-- a slice that the call itself has made: its row lies from block B on -/
def OR (w : World) (B : Nat) (t : TypeId) (A : Option Addr) (c : Nat) (xs : List Value) : Prop := w.ownsRow B t 1 (.slice A xs.length c) xs.length xs
section
variable {w w' : World} {B B' : Nat} {t : TypeId} {A : Option Addr} {c : Nat} {xs : List Value}
theorem OR.mono (h : OR w B t A c xs) (hB : B' ≤ B) : OR w B' t A c xs :=
  ⟨h.1, h.2.imp id fun ⟨g, cap, cur, h1, h2, h3⟩ => ⟨g, cap, cur, h1, Nat.le_trans hB h2, h3⟩⟩
theorem OR.below (h : OR w B t A c xs) (hb : Below w.heap.size w w') : OR w' B t A c xs :=
  ⟨h.1, h.2.imp id fun ⟨g, cap, cur, h1, h2, h3, h4⟩ => ⟨g, cap, cur, h1, h2, (hb.block g (Array.getElem?_eq_some_iff.1 h3).1).trans h3, h4⟩⟩
theorem OR.vs (h : OR w B t A c xs) : VS w A xs := by
  rcases Nat.eq_zero_or_pos xs.length with h0 | h0
  · rw [List.length_eq_zero_iff.1 h0]; exact VS.nil
  · obtain ⟨g, cap, hv, _, hlt⟩ := World.ownsRow.form h h0
    injection hv with a b d
    subst a; subst d
    refine fun i p hp => ⟨g, 0, rfl, hlt, ?_⟩
    have := h.cells (g := g) rfl _ _ hp
    rw [Addr.add_lit] at this
    exact this
theorem OR.of_own {n : Nat} {v : Value} (h : w.ownsRow B t 1 v n xs) : ∃ A c, v = .slice A xs.length c ∧ OR w B t A c xs := by
  have hn : n = xs.length := by have := h.1; omega
  subst hn
  rcases h.2 with ⟨rfl, h0⟩ | ⟨g, cap, cur, rfl, h2⟩
  · exact ⟨none, 0, by rw [h0], by unfold OR; rw [h0]; exact h0 ▸ h⟩
  · exact ⟨_, _, rfl, h⟩
theorem OR.nil (w : World) (B : Nat) (t : TypeId) : OR w B t none 0 [] := World.ownsRow_nil w _ _ _
theorem OR.caps (h : OR w B t A c xs) : xs.length ≤ c ∧ c ≤ maxLen ∧ (A = none → c = 0) ∧ (∀ a, A = some a → ∃ g, a = ⟨g, 0, none⟩ ∧ B ≤ g ∧ g < w.heap.size) := by
  rcases h.2 with ⟨hv, h0⟩ | ⟨g, cap, cur, hv, h2, h3, h4, h5, _⟩
  · injection hv with a b d
    subst a; subst d
    exact ⟨by omega, Nat.zero_le _, (fun _ => rfl), (fun a e => by cases e)⟩
  · injection hv with a b d
    subst a; subst d
    exact ⟨h4, h5, (fun e => by cases e), (fun a e => by injection e with e; exact ⟨g, e.symm, h2, (Array.getElem?_eq_some_iff.1 h3).1⟩)⟩
end
/-- append of new values onto a row of the call's own -/
theorem app_row {P : Program} {st t : TypeId} {z : Value} {bytes : Nat} (hS : P.underlying st = some (.slice t)) (hI : (P.info? t).map (fun i => (i.zero, i.size, i.bytes)) = some (some z, 1, bytes)) (hz : z.cells.size = 1)
    (w : World) (base : Nat) (ty : TypeId) (A : Option Addr) (c : Nat) (xs : List Value) (hown : OR w base t A c xs) (news : List Value) (h1 : ∀ u ∈ news, u.oneCell' = true)
    (h63 : (xs.length + news.length) * bytes ≤ 140737488355328) (hby : 1 ≤ bytes) (hbase : base ≤ w.heap.size) :
    ∃ A' c' w', (Builtin.append_ #[st, st] ty #[.slice A xs.length c, .slice (some ⟨w.heap.size, 0, none⟩) news.length news.length]).run P (w.alloc (.cells news.toArray t)) = .ok (.slice A' (xs ++ news).length c') w' ∧ OR w' base t A' c' (xs ++ news) ∧ (∀ B a, B ≤ base → Below B a w → Below B a w') ∧ (w.alloc (.cells news.toArray t)).grownBy w' (Value.slice A xs.length c).ownBlock ∧
      ((Value.slice A' (xs ++ news).length c').ownBlock = (Value.slice A xs.length c).ownBlock ∨ (Value.slice A' (xs ++ news).length c').ownBlock = some (w.heap.size + 1)) := by
  obtain ⟨i0, hi, hz0, hz1, hz2⟩ := info_parts hI
  have hle : xs.length + news.length ≤ 140737488355328 := Nat.le_trans (Nat.le_mul_of_pos_right _ hby) h63
  have hm : xs.length + news.length ≤ maxLen := by unfold maxLen; omega
  have hc : ∀ j u, news[j]? = some u → (w.alloc (.cells news.toArray t)).cell? ((⟨w.heap.size, 0, none⟩ : Addr).add j) = some u := by
    intro j u hu
    rw [Addr.add_lit]
    simp only [World.cell?]
    rw [heap_alloc_new]
    simp [hu]
  have hown' : (w.alloc (.cells news.toArray t)).ownsRow base t 1 (.slice A xs.length c) xs.length xs := World.ownsRow.alloc hown _
  obtain ⟨v', w', hrun, h2, h3, _, h5⟩ := run_append_own_at (P := P) (w.alloc (.cells news.toArray t)) base st ty t i0 _ 1 bytes hS hi hz0 hz1 hz2 hz (by decide) _ xs.length xs hown' ⟨w.heap.size, 0, none⟩ news.length news.length news (by simp) hc h1 hm h63 (by simp; omega)
  rw [← List.length_append] at h2
  obtain ⟨A', c', rfl, ho⟩ := OR.of_own h2
  refine ⟨A', c', w', hrun, ho, fun B a hB hb => ?_, h3, by simpa using h5⟩
  have hb' := hb.alloc (Nat.le_trans hB hbase) (.cells news.toArray t)
  exact hb'.grown h3 (by simp; omega) fun k hk => Nat.le_trans hB (World.ownsRow.lt hown' k hk).1
/-- rows that lie apart -/
theorem rows_apart {v v' : Value} {m : Nat} (h1 : ∀ k, v.ownBlock = some k → m ≤ k) (h2 : ∀ k, v'.ownBlock = some k → k < m) : v.ownBlock = none ∨ v.ownBlock ≠ v'.ownBlock := by
  cases h : v.ownBlock with
  | none => exact .inl rfl
  | some k => exact .inr fun e => by have := h1 k h; have := h2 k e.symm; omega
theorem boolInfo : (Tryz.prog.info? 4).map (fun i => (i.zero, i.size, i.bytes)) = some (some (.bool false), 1, 1) := by kernel_rfl
theorem strInfo : (Tryz.prog.info? 9).map (fun i => (i.zero, i.size, i.bytes)) = some (some (.string ByteArray.empty), 1, 16) := by kernel_rfl
end Go.Proofs.YtmepmiokpcddbabGreatDoor

set_option linter.unusedVariables false
set_option linter.unusedSimpArgs false
namespace Go.Proofs.YtmepmiokpcddbabGreatDoor
open Go.RowKit

theorem intInfo : (Tryz.prog.info? 3).map (fun i => (i.zero, i.size, i.bytes)) = some (some (.int .i64 0), 1, 8) := by kernel_rfl
def nV (l : List Nat) : List Value := l.map fun (k : Nat) => Value.int .i64 (k : Int)
theorem nV_append (l m : List Nat) : nV (l ++ m) = nV l ++ nV m := by simp [nV]
theorem nV_length (l : List Nat) : (nV l).length = l.length := by simp [nV]
/-- numbers are handed back -/
def RetN (w : World) (l : List Nat) (e : Ending) (w' : World) : Prop := ∃ A c, e = .returned (.slice A l.length c) ∧ OR w' w.heap.size 3 A c (nV l) ∧ Below w.heap.size w w'
end Go.Proofs.YtmepmiokpcddbabGreatDoor

set_option linter.unusedVariables false
set_option linter.unusedSimpArgs false
namespace Go.Proofs.YtmepmiokpcddbabGreatDoor
open Go.RowKit

/-- a slice of ints that reads as a list -/
def IS (w : World) (A : Option Addr) (zs : List Int) : Prop := ∀ i z, zs[i]? = some z → ∃ b o, A = some ⟨b, o, none⟩ ∧ b < w.heap.size ∧ w.cell? ⟨b, o + i, none⟩ = some (.int .i64 z)
theorem IS.below {w w' : World} {A : Option Addr} {zs : List Int} (h : IS w A zs) (hb : Below w.heap.size w w') : IS w' A zs := fun i p hp => by
  obtain ⟨b, o, e, hlt, h1⟩ := h i p hp
  exact ⟨b, o, e, Nat.lt_of_lt_of_le hlt hb.size, (hb.cell hlt).trans h1⟩
theorem IS.nil {w : World} {A : Option Addr} : IS w A [] := fun i p hp => by simp at hp
theorem IS.take_ {w : World} {A : Option Addr} {zs : List Int} (h : IS w A zs) (q : Nat) : IS w A (zs.take q) := fun i p hp => by
  rw [List.getElem?_take] at hp
  split at hp
  · exact h i p hp
  · cases hp
theorem IS.drop_ {w : World} {b o : Nat} {zs : List Int} (h : IS w (some ⟨b, o, none⟩) zs) (q : Nat) : IS w (some ⟨b, o + q, none⟩) (zs.drop q) := fun i p hp => by
  rw [List.getElem?_drop] at hp
  obtain ⟨b', o', e, hlt, h1⟩ := h _ p hp
  injection e with e
  injection e with e1 e2 _
  subst e1; subst e2
  rw [← Nat.add_assoc] at h1
  exact ⟨_, _, rfl, hlt, h1⟩
/-- numbers as ints -/
def zI (l : List Nat) : List Int := l.map fun (k : Nat) => (k : Int)
theorem zI_len (l : List Nat) : (zI l).length = l.length := by simp [zI]
theorem VS.is_ {w : World} {A : Option Addr} {l : List Nat} (h : VS w A (nV l)) : IS w A (zI l) := fun i z hz => by
  have hi : i < l.length := by
    have := (List.getElem?_eq_some_iff.1 hz).1
    rwa [zI_len] at this
  have e : z = (l[i] : Int) := by
    have := (List.getElem?_eq_some_iff.1 hz).2
    simp [zI] at this
    exact this.symm
  subst e
  exact h i (.int .i64 (l[i] : Int)) (by simp [nV, hi])
theorem slice_some (b o n ct m : Nat) (hm : m ≤ n) (hc : n ≤ ct) (w : World) : (Instr.slice 26 (.slice (some ⟨b, o, none⟩) n ct) (some (.int .i64 (m : Int))) none none).run Tryz.prog w = .ok (.slice (if ct = m then some ⟨b, o, none⟩ else some ⟨b, o + m, none⟩) (n - m) (ct - m)) w := by
  have g0 : (0 : Int) ≤ (m : Int) := by omega
  have g1 : (m : Int) ≤ (n : Int) := by omega
  have g2 : (n : Int) ≤ (ct : Int) := by omega
  by_cases e : ct = m
  · subst e
    obtain rfl : n = ct := by omega
    clear hm hc
    go_simp
  · rw [if_neg e]
    go_simp
/-- a slice from a place on -/
theorem slice_from {T : Option Addr} {ct m : Nat} {zs : List Int} {w : World} (hI : IS w T zs) (h1 : 1 ≤ m) (hm : m ≤ zs.length) (hc : zs.length ≤ ct) :
    ∃ T', (∀ w, (Instr.slice 26 (.slice T zs.length ct) (some (.int .i64 (m : Int))) none none).run Tryz.prog w = .ok (.slice T' (zs.length - m) (ct - m)) w) ∧ IS w T' (zs.drop m) := by
  obtain ⟨b, o, rfl, _⟩ := hI 0 zs[0] (List.getElem?_eq_getElem (by omega))
  refine ⟨_, fun w => slice_some b o zs.length ct m hm hc w, ?_⟩
  by_cases e : ct = m
  · rw [if_pos e, List.drop_of_length_le (by omega)]; exact IS.nil
  · rw [if_neg e]; exact hI.drop_ m
end Go.Proofs.YtmepmiokpcddbabGreatDoor

set_option linter.unusedVariables false
set_option linter.unusedSimpArgs false
namespace Go.Proofs.YtmepmiokpcddbabGreatDoor
open Go.RowKit

/-- an operation -/
structure Opr where
  kind : Int
  key : ByteArray
  src : ByteArray
  n : Int
/-- its value -/
def opV (o : Opr) : Value := .agg #[.int .i64 o.kind, .string o.key, .string o.src, .int .i64 o.n]
/-- what the check of an operation answers -/
def chkO (o : Opr) : Int :=
  if o.kind < 1 then 3 else if 5 < o.kind then 3 else if keyB o.key = false then 3
  else if (o.kind = 3 ∨ o.kind = 5) ∧ keyB o.src = false then 3
  else if (o.kind = 3 ∨ o.kind = 5) ∧ o.src = o.key then 3
  else if o.kind ≠ 3 ∧ valB o.n = false then 1 else if o.kind = 5 ∧ o.n < 0 then 1 else 0
/-- the first error of a list of operations -/
def chkOs : List Opr → Int
  | [] => 0
  | o :: r => if chkO o = 0 then chkOs r else chkO o
/-- what Check answers -/
def chkD (l : List Opr) : Int := if l.length < 1 then 2 else if 8 < l.length then 2 else chkOs l
/-- a slice's cells read as a list of operations; they lie below block B -/
def OS (w : World) (B : Nat) (A : Option Addr) (l : List Opr) : Prop :=
  ∀ i p, l[i]? = some p → ∃ b o, A = some ⟨b, o, none⟩ ∧ b < B ∧ w.cell? ⟨b, o + i * 4, none⟩ = some (.int .i64 p.kind) ∧ w.cell? ⟨b, o + i * 4 + 1, none⟩ = some (.string p.key) ∧
    w.cell? ⟨b, o + i * 4 + 2, none⟩ = some (.string p.src) ∧ w.cell? ⟨b, o + i * 4 + 3, none⟩ = some (.int .i64 p.n)
theorem OS.below {w w' : World} {B : Nat} {A : Option Addr} {l : List Opr} (h : OS w B A l) (hb : Below B w w') : OS w' B A l := fun i p hp => by
  obtain ⟨b, o, e, hlt, h1, h2, h3, h4⟩ := h i p hp
  exact ⟨b, o, e, hlt, (hb.cell hlt).trans h1, (hb.cell hlt).trans h2, (hb.cell hlt).trans h3, (hb.cell hlt).trans h4⟩
theorem OS.more {w : World} {B B' : Nat} {A : Option Addr} {l : List Opr} (h : OS w B A l) (hB : B ≤ B') : OS w B' A l := fun i p hp => by
  obtain ⟨b, o, e, hlt, h1⟩ := h i p hp
  exact ⟨b, o, e, by omega, h1⟩
theorem OS.go {w w' : World} {A : Option Addr} {l : List Opr} (h : OS w w.heap.size A l) (hb : Below w.heap.size w w') : OS w' w'.heap.size A l := (h.below hb).more hb.size
theorem OS.nil {w : World} {B : Nat} {A : Option Addr} : OS w B A [] := fun i p hp => by simp at hp
theorem chkOs_next {l : List Opr} {k : Nat} (h : k < l.length) : chkOs (l.drop k) = if chkO l[k] = 0 then chkOs (l.drop (k + 1)) else chkO l[k] := by
  rw [List.drop_eq_getElem_cons h]; rfl
theorem chkOs_zero {l : List Opr} : chkOs l = 0 ↔ ∀ o ∈ l, chkO o = 0 := by
  induction l with
  | nil => simp [chkOs]
  | cons o r ih =>
    by_cases h : chkO o = 0
    · simp [chkOs, h, ih]
    · simp [chkOs, h]
theorem chkD_zero {l : List Opr} : chkD l = 0 ↔ 1 ≤ l.length ∧ l.length ≤ 8 ∧ ∀ o ∈ l, chkO o = 0 := by
  unfold chkD
  by_cases h1 : l.length < 1
  · rw [if_pos h1]; exact ⟨fun h => absurd h (by decide), fun h => by omega⟩
  rw [if_neg h1]
  by_cases h2 : 8 < l.length
  · rw [if_pos h2]; exact ⟨fun h => absurd h (by decide), fun h => by omega⟩
  rw [if_neg h2, chkOs_zero]
  exact ⟨fun h => ⟨by omega, by omega, h⟩, fun h => h.2.2⟩
/-- what a valid operation is -/
theorem chkO_zero {o : Opr} : chkO o = 0 ↔ 1 ≤ o.kind ∧ o.kind ≤ 5 ∧ keyB o.key = true ∧ (o.kind = 3 ∨ o.kind = 5 → keyB o.src = true ∧ o.src ≠ o.key) ∧ (o.kind ≠ 3 → valB o.n = true) ∧ (o.kind = 5 → 0 ≤ o.n) := by
  unfold chkO
  by_cases h1 : o.kind < 1
  · rw [if_pos h1]; exact ⟨fun h => absurd h (by decide), fun h => by omega⟩
  rw [if_neg h1]
  by_cases h2 : 5 < o.kind
  · rw [if_pos h2]; exact ⟨fun h => absurd h (by decide), fun h => by omega⟩
  rw [if_neg h2]
  by_cases h3 : keyB o.key = false
  · rw [if_pos h3]; exact ⟨fun h => absurd h (by decide), fun h => by rw [h.2.2.1] at h3; cases h3⟩
  rw [if_neg h3]
  by_cases h4 : (o.kind = 3 ∨ o.kind = 5) ∧ keyB o.src = false
  · rw [if_pos h4]; exact ⟨fun h => absurd h (by decide), fun h => by have := h4.2; rw [(h.2.2.2.1 h4.1).1] at this; cases this⟩
  rw [if_neg h4]
  by_cases h5 : (o.kind = 3 ∨ o.kind = 5) ∧ o.src = o.key
  · rw [if_pos h5]; exact ⟨fun h => absurd h (by decide), fun h => absurd h5.2 (h.2.2.2.1 h5.1).2⟩
  rw [if_neg h5]
  by_cases h6 : o.kind ≠ 3 ∧ valB o.n = false
  · rw [if_pos h6]; exact ⟨fun h => absurd h (by decide), fun h => by have := h6.2; rw [h.2.2.2.2.1 h6.1] at this; cases this⟩
  rw [if_neg h6]
  by_cases h7 : o.kind = 5 ∧ o.n < 0
  · rw [if_pos h7]; exact ⟨fun h => absurd h (by decide), fun h => by have := h.2.2.2.2.2 h7.1; omega⟩
  rw [if_neg h7]
  refine ⟨fun _ => ⟨by omega, by omega, by simpa using h3, fun hk => ⟨?_, ?_⟩, fun hk => ?_, fun hk => ?_⟩, fun _ => rfl⟩
  · cases hs : keyB o.src
    · exact absurd ⟨hk, hs⟩ h4
    · rfl
  · exact fun e => h5 ⟨hk, e⟩
  · cases hs : valB o.n
    · exact absurd ⟨hk, hs⟩ h6
    · rfl
  · exact Int.not_lt.1 fun e => h7 ⟨hk, e⟩
theorem bytes_ne {a b : ByteArray} (h : a ≠ b) : (a.toList == b.toList) = false := by
  rw [beq_eq_false_iff_ne]; intro e; rw [ByteArray.toList_eq, ByteArray.toList_eq] at e
  refine h ?_
  cases a with | mk a => cases b with | mk b => simp at e; rw [e]
end Go.Proofs.YtmepmiokpcddbabGreatDoor

set_option linter.unusedVariables false
set_option linter.unusedSimpArgs false
namespace Go.Proofs.YtmepmiokpcddbabGreatDoor

/-- is a key in a list? -/
def inB (x : ByteArray) (l : List ByteArray) : Bool := l.any fun k => by8 k == by8 x
theorem inB_iff {x : ByteArray} {l : List ByteArray} : inB x l = true ↔ x ∈ l := by
  unfold inB
  rw [List.any_eq_true]
  constructor
  · rintro ⟨k, hk, he⟩
    have := by8_inj (by simpa using he)
    rw [← this]; exact hk
  · exact fun h => ⟨x, h, by simp⟩
theorem inB_no {x : ByteArray} {l : List ByteArray} (h : x ∉ l) : inB x l = false := by
  cases e : inB x l
  · rfl
  · exact absurd (inB_iff.1 e) h
theorem bytes_eq {a b : ByteArray} (h : a = b) : (a.toList == b.toList) = true := by simp [h]
theorem mem_take_next {l : List ByteArray} {k : Nat} (h : k < l.length) {x : ByteArray} (h1 : x ∉ l.take k) (h2 : x ≠ l[k]) : x ∉ l.take (k + 1) := by
  rw [List.take_succ_eq_append_getElem h]
  intro hm
  rcases List.mem_append.1 hm with hm | hm
  · exact h1 hm
  · exact h2 (by simpa using hm)

end Go.Proofs.YtmepmiokpcddbabGreatDoor

set_option linter.unusedVariables false
set_option linter.unusedSimpArgs false
namespace Go.Proofs.YtmepmiokpcddbabGreatDoor
open Go.RowKit

/-- a map as a value: where its cuts and its owners lie -/
structure Mp where
  A : Option Addr
  ca : Nat
  cs : List ByteArray
  O : Option Addr
  co : Nat
  os : List Int
def mpV (m : Mp) : Value := .agg #[.slice m.A m.cs.length m.ca, .slice m.O m.os.length m.co]
/-- what it reads as -/
structure MS (w : World) (m : Mp) : Prop where
  cuts : VS w m.A (m.cs.map Value.string)
  own : IS w m.O m.os
  lc : m.cs.length ≤ m.ca
  lo : m.os.length ≤ m.co
  mc : m.ca ≤ maxLen
  mo : m.co ≤ maxLen
  nc : m.A = none → m.ca = 0
  no : m.O = none → m.co = 0
theorem MS.below {w w' : World} {m : Mp} (h : MS w m) (hb : Below w.heap.size w w') : MS w' m := ⟨h.cuts.below hb, h.own.below hb, h.lc, h.lo, h.mc, h.mo, h.nc, h.no⟩
end Go.Proofs.YtmepmiokpcddbabGreatDoor
