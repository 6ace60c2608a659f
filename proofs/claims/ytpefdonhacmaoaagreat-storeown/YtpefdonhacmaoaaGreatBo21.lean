/-
  The lock table in memory: rows of claims and of entries, the map of queues (no body of the program in it).
  lock's find: the index of an entry.
-/
import Derived.Test.YtpefdonhacmaoaaGreatBo20
import Derived.Test.YtpefdonhacmaoaaGreatBo11
import Derived.Test.YtpefdonhacmaoaaGreatBo18
import Derived.Laws.CopyRow
import Derived.WalkKit
import Derived.WalkSpells
import Derived.WalkLawsBesides
set_option linter.unusedVariables false
set_option linter.unusedSimpArgs false
namespace Go.Proofs.YtpefdonhacmaoaaGreat
open Go.RowKit Go.WideMaps Go.Maps

/-- the cells of a queue -/
def cmCells : List (Nat × Bool) → List Value
  | [] => []
  | c :: r => .int .i64 (c.1 : Int) :: .bool c.2 :: cmCells r
theorem cmCells_length (l : List (Nat × Bool)) : (cmCells l).length = l.length * 2 := by
  induction l with
  | nil => rfl
  | cons p r ih => simp [cmCells, ih]; omega
theorem cmCells_append (l m : List (Nat × Bool)) : cmCells (l ++ m) = cmCells l ++ cmCells m := by
  induction l with
  | nil => rfl
  | cons p r ih => simp [cmCells, ih]
theorem cmCells_get (l : List (Nat × Bool)) (i : Nat) (p : Nat × Bool) (h : l[i]? = some p) : (cmCells l)[i * 2]? = some (.int .i64 (p.1 : Int)) ∧ (cmCells l)[i * 2 + 1]? = some (.bool p.2) := by
  induction l generalizing i with
  | nil => simp at h
  | cons q r ih =>
    cases i with
    | zero => simp at h; subst h; simp [cmCells]
    | succ i => simp at h; have := ih i h; rw [show (i + 1) * 2 = i * 2 + 1 + 1 by omega]; simpa [cmCells] using this
theorem cmCells_one (l : List (Nat × Bool)) : ∀ u ∈ cmCells l, u.oneCell' = true := by
  induction l with
  | nil => intro u hu; cases hu
  | cons p r ih =>
    intro u hu
    rcases List.mem_cons.1 hu with rfl | hu
    · rfl
    · rcases List.mem_cons.1 hu with rfl | hu
      · rfl
      · exact ih u hu
/-- the cells of a list of entries -/
def kV (e : En) : Value := .slice e.A (uK e.d).length e.c
def enCells : List En → List Value
  | [] => []
  | e :: r => .int .i64 (e.seq : Int) :: kV e :: enCells r
theorem enCells_length (l : List En) : (enCells l).length = l.length * 2 := by
  induction l with
  | nil => rfl
  | cons p r ih => simp [enCells, ih]; omega
theorem enCells_append (l m : List En) : enCells (l ++ m) = enCells l ++ enCells m := by
  induction l with
  | nil => rfl
  | cons p r ih => simp [enCells, ih]
theorem enCells_get (l : List En) (i : Nat) (p : En) (h : l[i]? = some p) : (enCells l)[i * 2]? = some (.int .i64 (p.seq : Int)) ∧ (enCells l)[i * 2 + 1]? = some (kV p) := by
  induction l generalizing i with
  | nil => simp at h
  | cons q r ih =>
    cases i with
    | zero => simp at h; subst h; simp [enCells]
    | succ i => simp at h; have := ih i h; rw [show (i + 1) * 2 = i * 2 + 1 + 1 by omega]; simpa [enCells] using this
theorem enCells_one (l : List En) : ∀ u ∈ enCells l, u.oneCell' = true := by
  induction l with
  | nil => intro u hu; cases hu
  | cons p r ih =>
    intro u hu
    rcases List.mem_cons.1 hu with rfl | hu
    · rfl
    · rcases List.mem_cons.1 hu with rfl | hu
      · rfl
      · exact ih u hu
theorem cmInfo : (Tryz.prog.info? 159).map (fun i => (i.zero, i.size, i.bytes)) = some (some (.agg #[.int .i64 0, .bool false]), 2, 16) := by kernel_rfl
theorem enInfo : (Tryz.prog.info? 155).map (fun i => (i.zero, i.size, i.bytes)) = some (some (.agg #[.int .i64 0, .slice none 0 0]), 2, 32) := by kernel_rfl

/-- a row of two-cell values of one's own, as a slice's parts -/
theorem own_parts {w : World} {B : Nat} {t : TypeId} {v : Value} {n : Nat} {xs : List Value} (h : w.ownsRow B t 2 v n xs) : ∃ A c, v = .slice A n c ∧ n ≤ c ∧ c ≤ maxLen := by
  rcases h.2 with ⟨rfl, h0⟩ | ⟨g, cap, cur, rfl, _, _, h1, h2, _⟩
  · exact ⟨none, 0, by rw [h0], by omega, Nat.zero_le _⟩
  · exact ⟨_, _, rfl, h1, h2⟩
/-- a place of such a row -/
theorem own_at {w : World} {B : Nat} {t : TypeId} {A : Option Addr} {c n : Nat} {xs : List Value} (h : w.ownsRow B t 2 (.slice A n c) n xs) {i : Nat} (hi : i < n) {x y : Value} (hx : xs[i * 2]? = some x) (hy : xs[i * 2 + 1]? = some y) :
    ∃ b, A = some ⟨b, 0, none⟩ ∧ b < w.heap.size ∧ w.cell? ⟨b, i * 2, none⟩ = some x ∧ w.cell? ⟨b, i * 2 + 1, none⟩ = some y := by
  obtain ⟨g, cap, hv, _, hlt⟩ := World.ownsRow.form h (by omega)
  injection hv with a b e
  subst a
  have hc := h.cells (g := g) rfl
  have h1 := hc _ _ hx
  have h2 := hc _ _ hy
  rw [Addr.add_lit, Nat.zero_add] at h1 h2
  exact ⟨g, rfl, hlt, h1, h2⟩

/-- what the element of a map is, as it stands -/
def rv (v : Value) : Option (DataW Value × List MemPlace) := some (.held v, [])
def nilV : Value := .slice none 0 0
/-- a map from strings to slices: what lies at a key (nil where there is none) -/
def MP (w : World) (b n : Nat) (f : ByteArray → Value) : Prop := ∃ D : DataW Value, w.ownsMap Tryz.prog 9 rv b n D ∧ IsMap D ∧ ∀ k, D.atKey (kl k) (.held nilV) = .held (f k)
def putF (f : ByteArray → Value) (k : ByteArray) (v : Value) : ByteArray → Value := fun j => if by8 j = by8 k then v else f j
theorem putF_same (f : ByteArray → Value) (k : ByteArray) (v : Value) : putF f k v k = v := by simp [putF]
theorem putF_other (f : ByteArray → Value) {k j : ByteArray} (h : j ≠ k) (v : Value) : putF f k v j = f j := by
  unfold putF; rw [if_neg fun e => h (by8_inj e)]
theorem zeroQ (w : World) : (zeroValue 161).run Tryz.prog w = .ok nilV w := by kernel_rfl
section
variable {w w' : World} {b n : Nat} {f : ByteArray → Value}
theorem MP.made (w : World) : MP (w.alloc (.map #[] 0)) w.heap.size 0 fun _ => nilV := ⟨.map [], World.ownsMap_made w _ _ _, isMap_empty, fun k => rfl⟩
theorem MP.lt (h : MP w b n f) : b < w.heap.size := by obtain ⟨D, h, _⟩ := h; exact h.lt
theorem MP.keep (h : MP w b n f) (hk : w'.heap[b]? = w.heap[b]?) : MP w' b n f := by
  obtain ⟨D, ⟨es, clock, hb, h1⟩, h2⟩ := h
  exact ⟨D, ⟨es, clock, hk.trans hb, h1⟩, h2⟩
theorem MP.isMap (h : MP w b n f) : ∃ es clock, w.heap[b]? = some (.map es clock) := by
  obtain ⟨D, ⟨es, clock, hb, h1⟩, h2⟩ := h
  exact ⟨es, clock, hb⟩
set_option maxRecDepth 100000 in
theorem MP.look (h : MP w b n f) (k : ByteArray) (hk : k.size ≤ maxLen) : (Instr.lookup 151 (.map (some b)) (.string k) false).run Tryz.prog w = .ok (f k) w := by
  obtain ⟨D, hown, _, hat⟩ := h
  obtain ⟨v, ps, hrun, hv⟩ := hown.lookup law9 Tryz.underlying151 (zeroQ w) (zd := .held nilV) (zp := []) rfl (keyOf_string_mk Tryz.underlying9 hk)
  rw [show Lit.string k.data.toList = kl k from rfl, hat k] at hv
  unfold rv at hv
  injection hv with hv
  injection hv with hv _
  injection hv with hv
  rw [← hv]; exact hrun
set_option maxRecDepth 100000 in
theorem MP.put (h : MP w b n f) (hn : n ≤ 1000000) (k : ByteArray) (hk : k.size ≤ maxLen) (v : Value) :
    ∃ w', (Instr.mapUpdate 151 (.map (some b)) (.string k) v).run Tryz.prog w = .ok () w' ∧ MP w' b (n + 1) (putF f k v) ∧ w.grownBy w' (some b) := by
  obtain ⟨D, hown, hM, hat⟩ := h
  obtain ⟨w', hrun, ho, hg⟩ := hown.update law9 Tryz.underlying151 (by unfold maxLen; omega) (keyOf_string_mk Tryz.underlying9 hk) (show rv v = some (.held v, []) from rfl)
  refine ⟨w', hrun, ⟨_, ho, hM.put _ _, fun j => ?_⟩, hg⟩
  by_cases e : j = k
  · subst e; rw [putF_same]; exact atKey_put_same hM (k := kl j) (show WideAt.IsKeyLit (kl j) from trivial) _ _
  · rw [putF_other _ e, ← hat j]; exact atKey_put_other (fun e2 => e (kl_inj e2)) _ _
set_option maxRecDepth 100000 in
theorem MP.del (h : MP w b n f) (k : ByteArray) (hk : k.size ≤ maxLen) (ty : TypeId) :
    ∃ w', (Builtin.delete_ #[151, 9] ty #[.map (some b), .string k]).run Tryz.prog w = .ok (.tuple #[]) w' ∧ MP w' b n (putF f k nilV) ∧ w.grownBy w' (some b) := by
  obtain ⟨D, hown, hM, hat⟩ := h
  obtain ⟨w', hrun, ho, hg⟩ := hown.drop law9 Tryz.underlying151 (keyOf_string_mk Tryz.underlying9 hk) ty
  refine ⟨w', hrun, ⟨_, ho, hM.del _, fun j => ?_⟩, ?_⟩
  · by_cases e : j = k
    · subst e; rw [putF_same]; exact atKey_del_same (k := kl j) _
    · rw [putF_other _ e, ← hat j]; exact atKey_del_other (fun e2 => e (kl_inj e2)) _
  · obtain ⟨es, clock, es', clock', hb, rfl⟩ := hg
    exact ⟨rfl, rfl, rfl, by simp [ChangeMaps.setBlock], fun i _ hi => ChangeMaps.heap_setBlock_other hb _ (fun e => hi (by rw [e]))⟩
end
/-- a map that may still be nil -/
def MPO (w : World) (m : Option Nat) (n : Nat) (f : ByteArray → Value) : Prop := match m with
  | none => f = fun _ => nilV
  | some b => MP w b n f

/-- the table at block g: how many were added, who is left -/
structure TBx (w : World) (B g added : Nat) (left : List En) (lA : Option Addr) (lc : Nat) (m : Option Nat) (n : Nat) (f : ByteArray → Value) : Prop where
  box : Box w g 153 #[.int .i64 (added : Int), .slice lA left.length lc, .map m]
  low : B ≤ g
  row : w.ownsRow B 155 2 (.slice lA left.length lc) left.length (enCells left)
  keys : ∀ e ∈ left, OR w B 9 e.A e.c ((uK e.d).map Value.string)
  map : MPO w m n f
  mlow : ∀ b, m = some b → B ≤ b
  num : n + 32 * left.length ≤ 64 * added
  most : added ≤ 60
  queue : ∀ k, w.ownsRow B 159 2 (f k) (qOf left k).length (cmCells (qOf left k))
  apart : ∀ j k, j ≠ k → (f j).ownBlock = none ∨ (f j).ownBlock ≠ (f k).ownBlock
  asc : Asc left
  good : ∀ e ∈ left, e.seq < added ∧ chkD e.d = 0
def TB (w : World) (B g added : Nat) (left : List En) : Prop := ∃ lA lc m n f, TBx w B g added left lA lc m n f

/-- what a change of the table keeps: what lies below B, and every block of another type -/
structure Kp (B : Nat) (w w' : World) : Prop where
  bel : Below B w w'
  oth : ∀ b t, Ty w b t → t ≠ 153 → t ≠ 155 → t ≠ 159 → w'.heap[b]? = w.heap[b]?
theorem Kp.refl (B : Nat) (w : World) : Kp B w w := ⟨Below.refl _ _, fun _ _ _ _ _ _ => rfl⟩
theorem Kp.trans {B : Nat} {a b c : World} (h : Kp B a b) (k : Kp B b c) : Kp B a c := ⟨h.bel.trans k.bel, fun i t hi h1 h2 h3 => by
  have e := h.oth i t hi h1 h2 h3
  obtain ⟨cs, fr, hc⟩ := hi
  exact (k.oth i t ⟨cs, fr, e.trans hc⟩ h1 h2 h3).trans e⟩
theorem Kp.of_below {B : Nat} {w w' : World} (h : Below w.heap.size w w') (hB : B ≤ w.heap.size) : Kp B w w' := ⟨h.mono hB, fun b t ⟨cs, fr, hc⟩ _ _ _ => h.block b (Array.getElem?_eq_some_iff.1 hc).1⟩
theorem Kp.of_grown {B : Nat} {w w' : World} {r : Option Nat} (h : w.grownBy w' r) (hB : B ≤ w.heap.size) (hr : ∀ b, r = some b → B ≤ b ∧ ((∃ es clock, w.heap[b]? = some (.map es clock)) ∨ Ty w b 153 ∨ Ty w b 155 ∨ Ty w b 159)) : Kp B w w' := by
  refine ⟨⟨h.os, h.tape, h.output, h.size, fun k hk => h.block k (Nat.lt_of_lt_of_le hk hB) fun e => ?_⟩, fun b t hb h1 h2 h3 => ?_⟩
  · have := (hr k e.symm).1; omega
  · refine h.block b (by obtain ⟨cs, fr, hc⟩ := hb; exact (Array.getElem?_eq_some_iff.1 hc).1) fun e => ?_
    rcases (hr b e.symm).2 with ⟨es, clock, hm⟩ | ht | ht | ht
    · obtain ⟨cs, fr, hc⟩ := hb; rw [hm] at hc; cases hc
    · exact h1 (hb.inj ht)
    · exact h2 (hb.inj ht)
    · exact h3 (hb.inj ht)
theorem OR.kp {B C : Nat} {w w' : World} {t : TypeId} {A : Option Addr} {c : Nat} {xs : List Value} (h : OR w C t A c xs) (k : Kp B w w') (h1 : t ≠ 153) (h2 : t ≠ 155) (h3 : t ≠ 159) : OR w' C t A c xs :=
  ⟨h.1, h.2.imp id fun ⟨g, cap, cur, e1, e2, e3, e4⟩ => ⟨g, cap, cur, e1, e2, (k.oth g t ⟨_, _, e3⟩ h1 h2 h3).trans e3, e4⟩⟩

/-- the table stays while other blocks are written and new ones are made -/
theorem TBx.grown {w w' : World} {B g added : Nat} {left : List En} {lA : Option Addr} {lc : Nat} {m : Option Nat} {n : Nat} {f : ByteArray → Value} (h : TBx w B g added left lA lc m n f) {r : Option Nat} (hg : w.grownBy w' r)
    (hr : ∀ b, r = some b → ∃ t, Ty w b t ∧ t ≠ 153 ∧ t ≠ 155 ∧ t ≠ 159 ∧ t ≠ 9) : TBx w' B g added left lA lc m n f := by
  have key : ∀ {C : Nat} {t : TypeId} {s : Nat} {v : Value} {q : Nat} {xs : List Value}, w.ownsRow C t s v q xs → (t = 155 ∨ t = 159 ∨ t = 9) → w'.ownsRow C t s v q xs := by
    intro C t s v q xs ho ht
    refine ho.kept hg ?_
    cases hb : r with
    | none => cases v.ownBlock <;> simp
    | some b =>
      obtain ⟨u, hu, h1, h2, h3, h4⟩ := hr b hb
      refine own_ne ho hu fun e => ?_
      subst e
      rcases ht with ht | ht | ht
      · exact h2 ht
      · exact h3 ht
      · exact h4 ht
  refine ⟨h.box.keep (hg.block g h.box.lt fun e => ?_), h.low, key h.row (.inl rfl), fun e he => key (h.keys e he) (.inr (.inr rfl)), ?_, h.mlow, h.num, h.most, fun k => key (h.queue k) (.inr (.inl rfl)), h.apart, h.asc, h.good⟩
  · obtain ⟨u, hu, h1, _⟩ := hr g e.symm
    exact h1 (hu.inj h.box.ty)
  · have hm := h.map
    cases m with
    | none => exact hm
    | some b =>
      refine MP.keep hm (hg.block b (MP.lt hm) fun e => ?_)
      obtain ⟨u, ⟨cs, fr, hu⟩, _⟩ := hr b e.symm
      obtain ⟨es, clock, hb⟩ := MP.isMap hm
      rw [hb] at hu; cases hu
theorem TBx.below {w w' : World} {B g added : Nat} {left : List En} {lA : Option Addr} {lc : Nat} {m : Option Nat} {n : Nat} {f : ByteArray → Value} (h : TBx w B g added left lA lc m n f) (hb : Below w.heap.size w w') : TBx w' B g added left lA lc m n f :=
  h.grown (r := none) ⟨hb.os, hb.tape, hb.output, hb.size, fun k hk _ => hb.block k hk⟩ fun b e => by cases e
theorem TB.grown {w w' : World} {B g added : Nat} {left : List En} (h : TB w B g added left) {r : Option Nat} (hg : w.grownBy w' r)
    (hr : ∀ b, r = some b → ∃ t, Ty w b t ∧ t ≠ 153 ∧ t ≠ 155 ∧ t ≠ 159 ∧ t ≠ 9) : TB w' B g added left := by
  obtain ⟨lA, lc, m, n, f, h⟩ := h; exact ⟨lA, lc, m, n, f, h.grown hg hr⟩
theorem TB.below {w w' : World} {B g added : Nat} {left : List En} (h : TB w B g added left) (hb : Below w.heap.size w w') : TB w' B g added left := by
  obtain ⟨lA, lc, m, n, f, h⟩ := h; exact ⟨lA, lc, m, n, f, h.below hb⟩
end Go.Proofs.YtpefdonhacmaoaaGreat

set_option linter.unusedVariables false
set_option linter.unusedSimpArgs false
namespace Go.Proofs.YtpefdonhacmaoaaGreat
open Go.RowKit

theorem cell_alloc {w : World} {b o : Nat} {v : Value} (hb : b < w.heap.size) (hc : w.cell? ⟨b, o, none⟩ = some v) (x : Obj) : (w.alloc x).cell? ⟨b, o, none⟩ = some v :=
  (((Below.refl w.heap.size w).alloc (Nat.le_refl _) x).cell (p := ⟨b, o, none⟩) hb).trans hc
set_option maxHeartbeats 400000 in
set_option maxRecDepth 100000 in
theorem lfind1_any (b : Nat) (s q : Int) (v : Value) (w : World) (hb : b < w.heap.size) (hc : w.cell? ⟨b, 0, none⟩ = some (.int .i64 s)) :
    Calls Tryz.prog 131 #[.agg #[.int .i64 q, v], .pointer (some ⟨b, 0, none⟩)] w fun e w' => e = .returned (.bool (decide (q = s))) ∧ Below w.heap.size w w' := by
  have hc' := cell_alloc hb hc (.cells #[.int .i64 q, v] 155)
  have hbw := (Below.refl w.heap.size w).alloc (Nat.le_refl _) (.cells #[.int .i64 q, v] 155)
  by_cases h : q = s
  · subst h
    go_enter Tryz.func131, Tryz.ntmps131
    go_wp2_with fail
    go_ret
    exact ⟨by simp, hbw⟩
  · go_enter Tryz.func131, Tryz.ntmps131
    go_wp2_with fail
    go_ret
    exact ⟨by simp [h], hbw⟩

/-- the index of a number among the entries -/
def Ix (left : List En) (s r : Int) : Prop := (∃ i : Nat, ∃ h : i < left.length, r = i ∧ (left[i].seq : Int) = s) ∨ (r = -1 ∧ ∀ e ∈ left, (e.seq : Int) ≠ s)

set_option maxHeartbeats 400000 in
set_option maxRecDepth 100000 in
theorem eindex_any (b : Nat) (s : Int) (A : Option Addr) (c B : Nat) (left : List En) (w : World) (hb : b < w.heap.size) (hc : w.cell? ⟨b, 0, none⟩ = some (.int .i64 s)) (hA : w.ownsRow B 155 2 (.slice A left.length c) left.length (enCells left)) (hl : left.length ≤ 1000) :
    Calls Tryz.prog 130 #[.slice A left.length c, .func (.func 131) #[] #[.pointer (some ⟨b, 0, none⟩)]] w fun e w' => ∃ r : Int, e = .returned (.int .i64 r) ∧ Ix left s r ∧ Below w.heap.size w w' := by
  go_enter Tryz.func130, Tryz.ntmps130
  go_wp2_with fail
  go_loopw [8] (fun i wr => ∃ k : Nat, k ≤ left.length ∧ i = .int .i64 k ∧ (∀ e ∈ left.take k, (e.seq : Int) ≠ s) ∧ Below w.heap.size w wr) (fun i _ => left.length - (intOf i).toNat)
  case atStart => exact ⟨0, Nat.zero_le _, rfl, by simp, Below.refl _ _⟩
  case round =>
    obtain ⟨k, hk, rfl, hnot, hbw⟩ := hrel
    have HN := hideP hnot
    clear hnot
    by_cases hlt : k < left.length
    · have hg := enCells_get left k left[k] (List.getElem?_eq_getElem hlt)
      obtain ⟨b1, rfl, hbl, q1, q2⟩ := own_at (own_below hA hbw) hlt hg.1 hg.2
      have hc' := (hbw.cell (p := ⟨b, 0, none⟩) hb).trans hc
      have hnx := hideP (fun (h2 : (left[k].seq : Int) ≠ s) (e : En) (he : e ∈ left.take (k + 1)) => show (e.seq : Int) ≠ s by
        rw [List.take_succ_eq_append_getElem hlt] at he
        rcases List.mem_append.1 he with he | he
        · exact HN.out e he
        · rw [List.mem_singleton.1 he]; exact h2)
      have hyes := hideP (fun (h2 : (left[k].seq : Int) = s) => show Ix left s k from .inl ⟨k, hlt, rfl, h2⟩)
      clear hA hg
      generalize (left[k].seq : Int) = q at q1 hnx hyes
      generalize kV left[k] = v at q2
      have g1 : (0 : Int) ≤ (k : Int) := by omega
      have g2 : (k : Int) < (left.length : Int) := by omega
      go_wp2_with fail
      refine (lfind1_any b s q v _ (Nat.lt_of_lt_of_le hb hbw.size) hc').mono ?_
      rintro e w1 ⟨rfl, hb1⟩
      have hb2 := hbw.trans (hb1.mono hbw.size)
      by_cases he : q = s
      · have HE := hideP he
        have d : decide (q = s) = true := decide_eq_true he
        clear he
        rw [d]
        go_wp2_with fail
        go_ret
        exact ⟨k, rfl, hyes.out HE.out, hb2⟩
      · have HE := hideP he
        have d : decide (q = s) = false := decide_eq_false he
        clear he
        rw [d]
        go_wp2_with fail
        go_roundw
        case rel => exact ⟨k + 1, by omega, by go_num, hnx.out HE.out, hb2⟩
        case measure => simp [intOf]; omega
    · go_wp2_with fail
      go_ret
      exact ⟨-1, rfl, .inr ⟨rfl, by have := HN.out; rw [List.take_of_length_le (by omega)] at this; exact this⟩, hbw⟩

set_option maxHeartbeats 400000 in
set_option maxRecDepth 100000 in
theorem lfind_any (g B added : Nat) (left : List En) (s : Int) (w : World) (h : TB w B g added left) (hl : left.length ≤ 1000) :
    Calls Tryz.prog 99 #[.pointer (some ⟨g, 0, none⟩), .int .i64 s] w fun e w' => ∃ r : Int, e = .returned (.int .i64 r) ∧ Ix left s r ∧ Below w.heap.size w w' := by
  obtain ⟨lA, lc, m, n, f, h⟩ := h
  have c0 := h.box.cell 0 (v := .int .i64 (added : Int)) rfl
  have c1 := h.box.cell 1 (v := .slice lA left.length lc) rfl
  have hlt := h.box.lt
  have hb := (Below.refl w.heap.size w).alloc (Nat.le_refl _) (.cells #[.int .i64 s] 3)
  have hrow := (h.below hb).row
  clear h
  go_enter Tryz.func99, Tryz.ntmps99
  go_wp2_with fail
  refine (eindex_any w.heap.size s lA lc B left _ (by simp) (by simp) hrow hl).mono ?_
  rintro e w' ⟨r, rfl, hr, hb1⟩
  go_wp2_with fail
  go_ret
  exact ⟨r, rfl, hr, hb.trans (hb1.mono hb.size)⟩
end Go.Proofs.YtpefdonhacmaoaaGreat
