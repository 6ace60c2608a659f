/-
  roref.List: the values of a map as a sorted list of pairs.
  rokeep.Pairs.
  rokeep.Map in other words; rokeep.Key.
  Transactions plainly, rows of one-cell values that are written (no body of the program in it).
  What rokeep.Deeds makes, as valid transactions (no body of the program in it).
  Maps that numbers make; what a change of one store leaves (no body of package parts in it).
-/
import Derived.Test.YtefdipjhjgmokaaGreatDoorBy46
import Derived.Test.YtefdipjhjgmokaaGreatDoorBy8
import Derived.Test.YtefdipjhjgmokaaGreatDoorBy9
import Derived.Maps.RangeWalk
import Derived.Maps.Own
import Derived.Maps.OwnOps
import Derived.Maps.OwnSet
import Derived.Sort.KeysCollected
import Derived.Sort.OwnSorted
import Derived.Test.YtefdipjhjgmokaaGreatDoorBy29
import Derived.Deep.DeepMust
import Derived.Test.YtefdipjhjgmokaaGreatDoorBy28
import Derived.Test.YtefdipjhjgmokaaGreatDoorBy7
import Derived.Test.YtefdipjhjgmokaaGreatDoorBy2
import Derived.Test.YtefdipjhjgmokaaGreatDoorBy3
import Derived.Test.YtefdipjhjgmokaaGreatDoorBy30
import Derived.Test.YtefdipjhjgmokaaGreatDoorBy24
import Derived.Test.YtefdipjhjgmokaaGreatDoorBy10
set_option linter.unusedVariables false
set_option linter.unusedSimpArgs false
namespace Go.Proofs.YtefdipjhjgmokaaGreatDoor
open Go.RowKit Go.Maps

/-- the value of a key in a map, 0 if there is none -/
def mv (D : DataW Unit) (k : ByteArray) : Int := match D.atKey (kl k) (.lit (.int .i64 0)) with
  | .lit (.int _ c) => c
  | _ => 0
theorem mv_of {D : DataW Unit} {k : ByteArray} {c : Int} (h : ∀ z, D.atKey (kl k) z = .lit (.int .i64 c)) : mv D k = c := by unfold mv; rw [h]
theorem mv_none {D : DataW Unit} {k : ByteArray} (h : Maps.has D (kl k) = false) : mv D k = 0 := by unfold mv; rw [atKey_of_not_has h]
theorem mv_put_same {D : DataW Unit} (hD : IsMap D) (k : ByteArray) (c : Int) : mv (D.put (kl k) (.lit (.int .i64 c))) k = c := by unfold mv; rw [atKey_put_same hD (k := kl k) (show WideAt.IsKeyLit (kl k) from trivial)]
theorem mv_put_other {D : DataW Unit} {k j : ByteArray} (h : j ≠ k) (c : Int) : mv (D.put (kl k) (.lit (.int .i64 c))) j = mv D j := by
  unfold mv; rw [atKey_put_other (fun e => h (kl_inj e))]
theorem mv_empty (k : ByteArray) : mv (.map []) k = 0 := rfl

/-- what has been gathered of a map, while some of it is still to come -/
structure Coll (D : DataW Unit) (left : Lit → Bool) (xs : List Pr) : Prop where
  sound : ∀ p ∈ xs, p.2 ≠ 0 ∧ mv D p.1 = p.2 ∧ left (kl p.1) = false
  full : ∀ k, left (kl k) = false → mv D k ≠ 0 → (k, mv D k) ∈ xs
  nodup : xs.Pairwise (fun p q => p.1 ≠ q.1)
theorem Coll.start (D : DataW Unit) : Coll D (Maps.has D) [] := ⟨by simp, fun k h1 h2 => absurd (mv_none h1) h2, List.Pairwise.nil⟩
theorem Coll.zero {D : DataW Unit} {left : Lit → Bool} {xs : List Pr} (h : Coll D left xs) {x : ByteArray} (hv : mv D x = 0) : Coll D (fun z => left z && !z.sameKey (kl x)) xs := by
  refine ⟨fun p hp => ?_, fun k h1 h2 => ?_, h.nodup⟩
  · obtain ⟨a, b, c⟩ := h.sound p hp
    exact ⟨a, b, by simp [c]⟩
  · cases hl : left (kl k)
    · exact h.full k hl h2
    · have : (kl k).sameKey (kl x) = true := by simpa [hl] using h1
      rw [same_kl this, hv] at h2; exact absurd rfl h2
theorem Coll.step {D : DataW Unit} {left : Lit → Bool} {xs : List Pr} (h : Coll D left xs) {x : ByteArray} {c : Int} (hx : left (kl x) = true) (hc : mv D x = c) (h0 : c ≠ 0) : Coll D (fun z => left z && !z.sameKey (kl x)) (xs ++ [(x, c)]) := by
  refine ⟨fun p hp => ?_, fun k h1 h2 => ?_, ?_⟩
  · rcases List.mem_append.1 hp with hp | hp
    · obtain ⟨a, b, c⟩ := h.sound p hp
      exact ⟨a, b, by simp [c]⟩
    · simp at hp; subst hp
      exact ⟨h0, hc, by simp [kl, Lit.sameKey]⟩
  · cases hl : left (kl k)
    · exact List.mem_append.2 (.inl (h.full k hl h2))
    · have : (kl k).sameKey (kl x) = true := by simpa [hl] using h1
      obtain rfl := same_kl this
      simp [hc]
  · rw [List.pairwise_append]
    refine ⟨h.nodup, by simp, fun p hp q hq e => ?_⟩
    simp at hq; subst hq
    have := (h.sound p hp).2.2
    simp only at e
    rw [e, hx] at this; cases this

/-- a map as a sorted list -/
structure Lists (D : DataW Unit) (l : List Pr) : Prop where
  srt : l.Pairwise (fun p q => ltB p.1 q.1 = true)
  nz : ∀ p ∈ l, p.2 ≠ 0
  val : ∀ k, valOf l k = mv D k
theorem Coll.lists {D : DataW Unit} {left : Lit → Bool} {xs ys : List Pr} (h : Coll D left xs) (hl : ∀ z, left z = false) (hp : ys.Perm xs) (hs : ys.Pairwise (fun p q => ltB q.1 p.1 = false)) : Lists D ys := by
  have hn : ys.Pairwise (fun p q => p.1 ≠ q.1) := (hp.pairwise_iff (fun {a b} (e : a.1 ≠ b.1) => Ne.symm e)).2 h.nodup
  have hsrt : ys.Pairwise (fun p q => ltB p.1 q.1 = true) := by
    refine List.Pairwise.imp ?_ (hs.and hn)
    rintro p q ⟨h1, h2⟩
    cases h3 : ltB p.1 q.1
    · exact absurd (ltB_total h3 h1) h2
    · rfl
  refine ⟨hsrt, fun p hq => (h.sound p (hp.mem_iff.1 hq)).1, fun k => ?_⟩
  by_cases h0 : mv D k = 0
  · rw [h0]
    refine valOf_none fun p hq e => ?_
    obtain ⟨a, b, _⟩ := h.sound p (hp.mem_iff.1 hq)
    rw [e, h0] at b; exact a b.symm
  · exact valOf_mem (p := (k, mv D k)) hsrt (hp.mem_iff.2 (h.full k (hl _) h0))

/-- a sorted list of a map's values is handed back -/
def RetList (w : World) (D : DataW Unit) (e : Ending) (w' : World) : Prop := ∃ A c l, e = .returned (.slice A l.length c) ∧ SV w' A c l ∧ Lists D l ∧ l.length ≤ Maps.size D ∧ Below w.heap.size w w'

/-- the same, in a new block -/
def RetListF (w : World) (D : DataW Unit) (e : Ending) (w' : World) : Prop := ∃ A c l, e = .returned (.slice A l.length c) ∧ SV w' A c l ∧ Lists D l ∧ l.length ≤ Maps.size D ∧ Below w.heap.size w w' ∧ ∀ a, A = some a → w.heap.size ≤ a.block
set_option maxRecDepth 100000 in
set_option maxHeartbeats 1000000 in
theorem list_fr (b n : Nat) (D : DataW Unit) (w : World) (hown : w.ownsMap Tryz.prog 9 (plainElem Tryz.prog 3) b n D) (hsz : Maps.size D * 24 ≤ 140737488355328) :
    Calls Tryz.prog 64 #[.map (some b)] w (RetListF w D) := by
  have hbl := hown.lt
  go_enter Tryz.func64, Tryz.ntmps64
  go_wp2_with (first
    | (at_range; refine wpList_range_own _ rfl _ 103 rfl 9 3 law9 Tryz.underlying103 _ b n _ rfl (hown.alloc _) ?_; intro w0 hrg0 hg0 hs0)
    | go_in)
  go_frame
  have e1 : (w.alloc (.cells #[.slice none 0 0] 36)).heap.size = w.heap.size + 1 := by simp
  rw [e1] at hrg0 hs0 ⊢
  have hb0 : Below w.heap.size w w0 := ((Below.refl _ w).alloc (Nat.le_refl _) _).grown hg0 (by simp) (fun j hj => by cases hj)
  have hbox : w0.heap[w.heap.size]? = some (.cells #[.slice none 0 0] 36) := (hg0.block _ (by simp) (by simp)).trans (heap_alloc_new w _)
  have hs1 : w.heap.size + 2 ≤ w0.heap.size := by omega
  clear hg0 hs0 e1
  go_loopw [4] (fun _ wr => ∃ (left : Lit → Bool) (cnt : Nat) (v : Value) (xs : List Pr), wr.ranges Tryz.prog 9 (plainElem Tryz.prog 3) b (w.heap.size + 1) n D left cnt ∧ xs.length + cnt ≤ Maps.size D ∧
      wr.heap[w.heap.size]? = some (.cells #[v] 36) ∧ wr.ownsRow (w.heap.size + 2) 63 2 v xs.length (cellsOf xs) ∧ Coll D left xs ∧ w.heap.size + 2 ≤ wr.heap.size ∧ Below w.heap.size w wr)
    (fun _ wr => wr.rangeLeft b (w.heap.size + 1))
  case atStart => exact ⟨_, _, _, [], hrg0, by simp, hbox, World.ownsRow_nil _ _ _ _, Coll.start D, hs1, hb0⟩
  case round =>
    obtain ⟨left, cnt, v, xs, hrg, hcs, hbx, hrow, hC, hsz1, hnx⟩ := hrel
    clear hrg0 hb0 hbox hs1
    go_wp2_with (first
      | (at_next; refine wpList_next_ranges _ rfl _ rfl 9 law9 (plainElem Tryz.prog 3) Value.string (Value.int .i64) (fun key kl hk => by obtain ⟨x, hx, _⟩ := Maps.keyOf_str Tryz.underlying9 hk; exact ⟨_, hx⟩) (fun v y hv => by obtain ⟨c, rfl, _⟩ := plainElem_int_inv Tryz.underlying3 hv; exact ⟨c, rfl⟩) b (w.heap.size + 1) n _ _ _ rfl hrg ?_ ?_)
      | go_in)
    · intro hc0 hl0
      have q1 : wr.cell? ⟨w.heap.size, 0, none⟩ = some v := by simp [World.cell?, hbx]
      have hB2 : v.ownBlock ≠ some w.heap.size := fun e => by have := (hrow.lt _ e).1; omega
      have hsort := sort_any (w.heap.size + 2) w.heap.size v xs wr hrow (by omega) q1 (by omega) hB2
      go_wp2_with fail
      refine hsort.mono ?_
      rintro e w' ⟨rfl, ys, hp, hs, ⟨A, c, hv, hsv⟩, hg⟩
      have q2 : w'.cell? ⟨w.heap.size, 0, none⟩ = some v := (World.cell?_of_block (hg.block w.heap.size (by omega) (fun e => hB2 e.symm))).trans q1
      have hfin : RetListF w D (.returned v) w' := by
        have hb' : Below w.heap.size w w' := hnx.grown hg hnx.size (fun j hj => by have := (hrow.lt j hj).1; omega)
        exact ⟨A, c, ys, by rw [hv], hsv, hC.lists hl0 hp hs, by have := hp.length_eq; omega, hb', fun a ha => by have := (hrow.lt a.block (by rw [hv, ha]; rfl)).1; omega⟩
      have HF := hideP hfin
      clear hfin hsort q1 hv hsv hg hrg hC
      go_wp2_with fail
      go_ret
      exact HF.out
    · intro x c kl' yd yp w2 cnt2 hkey hlk hv hat hrg2 hlt hg2 hs2 hen
      obtain ⟨x', ex, rfl, _⟩ := Maps.keyOf_str Tryz.underlying9 hkey
      obtain rfl : x' = x.data.toList := by unfold encStr at ex; injection ex with ex; rw [ex]
      obtain ⟨c', ec, hyd, _⟩ := plainElem_int_inv Tryz.underlying3 hv
      obtain rfl : c = c' := by injection ec
      have hmv : mv D x = c := mv_of (k := x) (fun z => by rw [show kl x = .string x.data.toList from rfl, hat z]; exact congrArg Prod.fst hyd)
      have hrow2 := hrow.kept hg2 (Or.inr (row_ne_iter hrow hrg).symm)
      have hbx2 : w2.heap[w.heap.size]? = some (.cells #[v] 36) := (hg2.block _ (by omega) (by simp)).trans hbx
      have hnx2 : Below w.heap.size w w2 := hnx.grown hg2 hnx.size (fun j hj => by cases hj; omega)
      have hsz2 : w.heap.size + 2 ≤ w2.heap.size := by omega
      clear hs2 hkey hv hat hyd ec ex hg2 hnx hbx hrow
      have hlk' : left (kl x) = true := hlk
      by_cases h0 : c = 0
      · have d0 : (c != 0) = false := by simp [h0]
        have HC := hideP (hC.zero (x := x) (by rw [hmv, h0]))
        clear h0 hmv hlk hlk'
        go_wp2_with fail
        go_roundw
        case rel => exact ⟨_, cnt2, v, xs, hrg2, by omega, hbx2, hrow2, HC.out, hsz2, hnx2⟩
        case measure => rw [hrg2.left_eq, hrg.left_eq]; exact hlt
      · have d0 : (c != 0) = true := by simp [h0]
        have HC := hideP (hC.step hlk' hmv h0)
        clear h0 hmv hlk hlk'
        have q1 : w2.cell? ⟨w.heap.size, 0, none⟩ = some v := by simp [World.cell?, hbx2]
        obtain ⟨v', w3, hrun, hown', hg3, hloc⟩ := app_pairs (w2.alloc (.cells #[.string x, .int .i64 c] 63)) (w.heap.size + 2) 36 v xs (hrow2.alloc _) _ (some ⟨w2.heap.size, 0, none⟩) 1 [(x, c)] (PS.one w2 x c 63) (by simp; omega) (by simp; omega)
        have hB2 : v.ownBlock ≠ some w.heap.size := fun e => by have := (hrow2.lt _ e).1; omega
        have hbx3 : w3.heap[w.heap.size]? = some (.cells #[v] 36) := (hg3.block _ (by simp; omega) (fun e => hB2 e.symm)).trans ((Below.heap_alloc w2 _ _ (by omega)).trans hbx2)
        have q3 : w3.cell? ⟨w.heap.size, 0, none⟩ = some v := by simp [World.cell?, hbx3]
        have q4 : w3.frozen? ⟨w.heap.size, 0, none⟩ = false := by simp [World.frozen?, hbx3]
        have hsz3 : w.heap.size + 2 ≤ w3.heap.size := by have := hg3.size; simp at this; omega
        have hnx3 : Below w.heap.size w w3 := (hnx2.alloc (by omega) _).grown hg3 (by simp; omega) (fun j hj => by have := (hrow2.lt j hj).1; omega)
        have hrg3 := (hrg2.alloc (.cells #[.string x, .int .i64 c] 63)).kept hg3 (fun e => by have := (hrow2.lt _ e.symm).1; omega) (row_ne_iter (hrow2.alloc (.cells #[.string x, .int .i64 c] 63)) (hrg2.alloc _))
        obtain ⟨A', c', hv', hsv'⟩ := SV.of_own hown'
        subst hv'
        have HR := hideP hrun
        have hrow4 := ownsRow_setCell_below hown' (a := ⟨w.heap.size, 0, none⟩) (by simp) (.slice A' (xs ++ [(x, c)]).length c')
        have hbx4 := box_set (u := .slice A' (xs ++ [(x, c)]).length c') hbx3
        have hrg4 := hrg3.kept (grown_setCell w3 ⟨w.heap.size, 0, none⟩ (.slice A' (xs ++ [(x, c)]).length c')) (fun e => by simp at e; omega) (fun e => by simp at e)
        have hnx4 := hnx3.setCell (p := ⟨w.heap.size, 0, none⟩) (Nat.le_refl _) (.slice A' (xs ++ [(x, c)]).length c')
        have hsz4 : w.heap.size + 2 ≤ (w3.setCell ⟨w.heap.size, 0, none⟩ (.slice A' (xs ++ [(x, c)]).length c')).heap.size := by simpa [World.setCell] using hsz3
        have hle4 : (xs ++ [(x, c)]).length + cnt2 ≤ Maps.size D := by simp; omega
        clear hrun hown' hsv' hrow2 hrg3 hnx3 hg3 hloc hbx3 hbx2 hC
        generalize (xs ++ [(x, c)]) = ys at HR hrow4 hbx4 hrg4 hnx4 hsz4 hle4 HC
        go_wp2_with (at_builtin; refine Lib.wpList_append_run _ rfl _ _ _ _ rfl _ _ rfl rfl _ _ HR.out ?_)
        go_roundw
        case rel => exact ⟨_, cnt2, _, ys, hrg4, hle4, hbx4, hrow4, HC.out, hsz4, hnx4⟩
        case measure => rw [hrg4.left_eq, hrg.left_eq]; exact hlt
theorem list_any (b n : Nat) (D : DataW Unit) (w : World) (hown : w.ownsMap Tryz.prog 9 (plainElem Tryz.prog 3) b n D) (hsz : Maps.size D * 24 ≤ 140737488355328) :
    Calls Tryz.prog 64 #[.map (some b)] w (RetList w D) :=
  (list_fr b n D w hown hsz).mono fun e w' ⟨A, c, l, h1, h2, h3, h4, h5, _⟩ => ⟨A, c, l, h1, h2, h3, h4, h5⟩
end Go.Proofs.YtefdipjhjgmokaaGreatDoor

set_option linter.unusedVariables false
set_option linter.unusedSimpArgs false
namespace Go.Proofs.YtefdipjhjgmokaaGreatDoor
open Go.RowKit Go.WideMaps Go.Maps

/-- a store of the used keys and small values -/
structure Small (l : List Pr) : Prop where
  ok : Ok l
  key : ∀ p ∈ l, p.1 ∈ keysL
  val : ∀ p ∈ l, -20 ≤ p.2 ∧ p.2 ≤ 20
  len : l.length ≤ 30
/-- such a store is handed back -/
def RetSmall (w : World) (e : Ending) (w' : World) : Prop := ∃ A c l, e = .returned (.slice A l.length c) ∧ SV w' A c l ∧ Small l ∧ Below w.heap.size w w'

/-- a map of the used keys and small values -/
def MSmall (D : DataW Unit) : Prop := IsMap D ∧ ∀ k, mv D k ≠ 0 → k ∈ keysL ∧ -20 ≤ mv D k ∧ mv D k ≤ 20
theorem MSmall.put {D : DataW Unit} (h : MSmall D) {k : ByteArray} (hk : k ∈ keysL) {c : Int} (hc : -20 ≤ c ∧ c ≤ 20) : MSmall (D.put (kl k) (.lit (.int .i64 c))) := by
  refine ⟨h.1.put _ _, fun j hj => ?_⟩
  by_cases e : j = k
  · subst e; rw [mv_put_same h.1]; exact ⟨hk, hc⟩
  · rw [mv_put_other e] at hj ⊢; exact h.2 j hj
theorem MSmall.lists {D : DataW Unit} {l : List Pr} (h : MSmall D) (hl : Lists D l) (hn : l.length ≤ 30) : Small l := by
  have hv : ∀ p ∈ l, mv D p.1 = p.2 := fun p hp => by rw [← hl.val, valOf_mem hl.srt hp]
  have hm : ∀ p ∈ l, p.1 ∈ keysL ∧ -20 ≤ p.2 ∧ p.2 ≤ 20 := fun p hp => by
    have h1 := hv p hp
    have := h.2 p.1 (by rw [h1]; exact hl.nz p hp)
    rw [h1] at this; exact this
  exact ⟨⟨hl.srt, fun p hp => keysL_ok _ (hm p hp).1, fun p hp => by have := (hm p hp).2; simp [valB]; omega, hl.nz⟩, fun p hp => (hm p hp).1, fun p hp => (hm p hp).2, hn⟩

/-- the values of the store that numbers make -/
def prV (zs : List Int) : Nat → ByteArray → Int
  | 0 => fun _ => 0
  | k + 1 => fun j => if j = keyN (wi (k : Int) 8) then ((wi (zs.getD k 0) 41 : Nat) : Int) - 20 else prV zs k j
theorem prV_put {D : DataW Unit} (h : IsMap D) {zs : List Int} {k : Nat} (hk : k < zs.length) (hv : ∀ j, mv D j = prV zs k j) (j : ByteArray) : mv (D.put (kl (keyN (wi (k : Int) 8))) (.lit (.int .i64 (((wi zs[k] 41 : Nat) : Int) - 20)))) j = prV zs (k + 1) j := by
  have e : zs.getD k 0 = zs[k] := by simp [List.getD_eq_getElem?_getD, hk]
  unfold prV
  rw [e]
  by_cases ej : j = keyN (wi (k : Int) 8)
  · subst ej; rw [if_pos rfl, mv_put_same h]
  · rw [if_neg ej, mv_put_other ej, hv]
/-- the store that numbers make is handed back -/
def RetPr (w : World) (zs : List Int) (e : Ending) (w' : World) : Prop := ∃ A c l, e = .returned (.slice A l.length c) ∧ SV w' A c l ∧ Small l ∧ (∀ k, valOf l k = prV zs (min zs.length 30) k) ∧ Below w.heap.size w w'
/-- the same, in a new block -/
def RetPrF (w : World) (zs : List Int) (e : Ending) (w' : World) : Prop := ∃ A c l, e = .returned (.slice A l.length c) ∧ SV w' A c l ∧ Small l ∧ (∀ k, valOf l k = prV zs (min zs.length 30) k) ∧ Below w.heap.size w w' ∧ ∀ a, A = some a → w.heap.size ≤ a.block

set_option maxHeartbeats 1000000 in
set_option maxRecDepth 100000 in
theorem pairs_fr (A : Option Addr) (c : Nat) (zs : List Int) (w : World) (hA : IS w A zs) (hl : zs.length ≤ c) (hc : c ≤ 9223372036854775807) (hn : A = none → c = 0) :
    Calls Tryz.prog 12 #[.slice A zs.length c] w (RetPrF w zs) := by
  have hmm := @run_makeMap Tryz.prog
  go_enter Tryz.func12, Tryz.ntmps12
  obtain ⟨m, hm⟩ : ∃ m : Nat, m = min zs.length 30 := ⟨_, rfl⟩
  have gx : max (m : Int) 0 = (m : Int) := by omega
  have hm1 : m ≤ zs.length := by omega
  have hm2 : m ≤ 30 := by omega
  rcases A with _ | ⟨b, o, sp⟩
  · obtain rfl := hn rfl
    have h0 : zs = [] := List.length_eq_zero_iff.1 (by omega)
    subst h0
    obtain rfl : m = 0 := by simpa using hm
    have g0 : min (0 : Int) 30 = 0 := by decide
    have g1 : max (0 : Int) 0 = 0 := by decide
    clear hA hm
    go_wp2_with fail
    go_loopw [13] (fun i wr => i = .int .i64 0 ∧ w.alloc (.map #[] 0) = wr) (fun _ _ => 0)
    case atStart => exact ⟨rfl, rfl⟩
    case round =>
      obtain ⟨rfl, rfl⟩ := hrel
      have hown : (w.alloc (.map #[] 0)).ownsMap (H := Unit) Tryz.prog 9 (plainElem Tryz.prog 3) w.heap.size 0 (.map []) := World.ownsMap_made _ _ _ _
      have hb : Below w.heap.size w (w.alloc (.map #[] 0)) := (Below.refl _ _).alloc (Nat.le_refl _) _
      have hD : MSmall (.map []) := ⟨isMap_empty, fun k h => absurd (mv_empty k) h⟩
      go_wp2_with fail
      refine (list_fr w.heap.size 0 (.map []) _ hown (by simp [Maps.size])).mono ?_
      rintro e w' ⟨A', c', l', rfl, hsv, hli, hle, hb', hfr⟩
      have hfin : RetPrF w [] (.returned (.slice A' l'.length c')) w' := ⟨A', c', l', rfl, hsv, hD.lists hli (by have : Maps.size (.map [] : DataW Unit) = 0 := rfl; omega), fun k => by rw [hli.val, mv_empty]; rfl, hb.trans (hb'.mono hb.size), fun a ha => by have := hfr a ha; have := hb.size; omega⟩
      have HF := hideP hfin
      clear hfin hsv hli
      go_wp2_with fail
      go_ret
      exact HF.out
  · have gm : min (zs.length : Int) 30 = (m : Int) := by omega
    have g1 : (m : Int) ≤ (c : Int) := by omega
    have g2 : (0 : Int) ≤ (m : Int) := by omega
    have HM := hideP hm
    clear hm hn
    go_wp2_with fail
    go_loopw [13] (fun i wr => ∃ (k : Nat) (D : DataW Unit), k ≤ m ∧ i = .int .i64 k ∧ wr.ownsMap Tryz.prog 9 (plainElem Tryz.prog 3) w.heap.size k D ∧ MSmall D ∧ (∀ j, mv D j = prV zs k j) ∧ Below w.heap.size w wr) (fun i _ => m - (intOf i).toNat)
    case atStart => exact ⟨0, .map [], Nat.zero_le _, rfl, World.ownsMap_made _ _ _ _, ⟨isMap_empty, fun k h => absurd (mv_empty k) h⟩, fun j => mv_empty j, (Below.refl _ _).alloc (Nat.le_refl _) _⟩
    case round =>
      obtain ⟨k, D, hk, rfl, hown, hD, hmv, hb⟩ := hrel
      by_cases hlt : k < m
      · have hz : k < zs.length := by omega
        obtain ⟨b2, o2, e4, hbl, q1⟩ := (hA.below hb) k _ (List.getElem?_eq_getElem hz)
        injection e4 with e4
        injection e4 with e5 e6 e7
        subst e5; subst e6; subst e7
        have HPV := hideP (prV_put hD.1 hz hmv)
        generalize zs[k] = z at q1 HPV
        clear hA hmv
        go_wp2_with fail
        refine (rkey_any k _).mono ?_
        rintro e w' ⟨rfl, rfl⟩
        go_wp2_with fail
        refine (within_any z 41 (by omega) (by omega) _).mono ?_
        rintro e w' ⟨rfl, rfl⟩
        have h8 := wi_lt k 8 (by omega)
        have h41 := wi_lt z 41 (by omega)
        generalize wi k 8 = i8 at h8 HPV
        generalize wi z 41 = i41 at h41 HPV
        have hmem := keyN_mem h8
        have hks := keyN_size h8
        generalize keyN i8 = s at hmem hks HPV
        have hown2 := hown.alloc keysO
        have hb2 := hb.alloc hb.size keysO
        have hsz := hb.size
        generalize wr.alloc keysO = w2 at hown2 hb2
        go_wp2_with (first
          | (at_mapUpdate; go_must ( refine wpList_mapUpdate_own _ rfl _ _ _ 103 rfl 9 3 law9 Tryz.underlying103 _ w.heap.size k _ rfl hown2 (by unfold maxLen; omega) _ _ _ rfl rfl (keyOf_string_mk Tryz.underlying9 (by unfold maxLen; omega)) _ [] (plainElem_int Tryz.underlying3 (WalkArith.wf_i64 (by omega))) ?_); intro w3 hown3 hg3; go_frame)
          | go_in)
        go_roundw
        case rel => exact ⟨k + 1, _, by omega, by go_num, hown3, hD.put hmem (by omega), HPV.out, hb2.grown hg3 hb2.size (fun j hj => by cases hj; exact Nat.le_refl _)⟩
        case measure => simp [intOf]; omega
      · have hsd := hown.size_le
        go_wp2_with fail
        refine (list_fr w.heap.size k D _ hown (by omega)).mono ?_
        rintro e w' ⟨A', c', l', rfl, hsv, hli, hle, hb', hfr⟩
        have hfin : RetPrF w zs (.returned (.slice A' l'.length c')) w' := ⟨A', c', l', rfl, hsv, hD.lists hli (by omega), fun j => by rw [hli.val, hmv, ← HM.out, show k = m by omega], hb.trans (hb'.mono hb.size), fun a ha => by have := hfr a ha; have := hb.size; omega⟩
        have HF := hideP hfin
        clear hfin hsv hli
        go_wp2_with fail
        go_ret
        exact HF.out
theorem pairs_is (A : Option Addr) (c : Nat) (zs : List Int) (w : World) (hA : IS w A zs) (hl : zs.length ≤ c) (hc : c ≤ 9223372036854775807) (hn : A = none → c = 0) :
    Calls Tryz.prog 12 #[.slice A zs.length c] w (RetPr w zs) :=
  (pairs_fr A c zs w hA hl hc hn).mono fun e w' ⟨A', c', l', h1, h2, h3, h4, h5, _⟩ => ⟨A', c', l', h1, h2, h3, h4, h5⟩
theorem pairs_any (A : Option Addr) (c : Nat) (zs : List Int) (w : World) (hA : IS w A zs) (hl : zs.length ≤ c) (hc : c ≤ 9223372036854775807) (hn : A = none → c = 0) :
    Calls Tryz.prog 12 #[.slice A zs.length c] w (RetSmall w) :=
  (pairs_is A c zs w hA hl hc hn).mono fun e w' ⟨A', c', l', h1, h2, h3, _, h4⟩ => ⟨A', c', l', h1, h2, h3, h4⟩
end Go.Proofs.YtefdipjhjgmokaaGreatDoor

set_option linter.unusedVariables false
set_option linter.unusedSimpArgs false
namespace Go.Proofs.YtefdipjhjgmokaaGreatDoor
open Go.RowKit

/-- a map is handed back, a valid one with few cuts -/
def RetMk (w : World) (e : Ending) (w' : World) : Prop := ∃ m : Mp, e = .returned (.agg #[.slice m.A m.cs.length m.ca, .slice m.O m.os.length m.co]) ∧ OkM m.cs m.os ∧ m.cs.length ≤ 6 ∧ MO w' w.heap.size m ∧ Below w.heap.size w w'
theorem kmap_mk (P : Option Addr) (cp : Nat) (zs : List Int) (w : World) (hP : IS w P zs) (hl : zs.length ≤ 9223372036854775807) :
    Calls Tryz.prog 11 #[.slice P zs.length cp] w (RetMk w) := by
  refine (kmap_any P cp zs w hP hl).mono ?_
  rintro e w' ⟨A, ca, O, co, rfl, h1, h2, hb⟩
  refine ⟨⟨A, ca, (mapR zs 6).1, O, co, (mapR zs 6).2.map fun (k : Nat) => (k : Int)⟩, by simp only [List.length_map], mapR_ok zs, mapR_few zs 6, ⟨h1, ?_⟩, hb⟩
  have e : ((mapR zs 6).2.map fun (k : Nat) => (k : Int)).map (Value.int .i64) = nV (mapR zs 6).2 := by simp [nV]
  show OR w' w.heap.size 3 O co (((mapR zs 6).2.map fun (k : Nat) => (k : Int)).map (Value.int .i64))
  rw [e]; exact h2
theorem rkey_be (k : Int) (w : World) : Calls Tryz.prog 85 #[.int .i64 k] w fun e w' => e = .returned (.string (keyN (wi k 8))) ∧ Below w.heap.size w w' := by
  refine (rkey_any k w).mono ?_
  rintro e w' ⟨rfl, rfl⟩
  exact ⟨rfl, (Below.refl _ _).alloc (Nat.le_refl _) _⟩
end Go.Proofs.YtefdipjhjgmokaaGreatDoor

set_option linter.unusedVariables false
set_option linter.unusedSimpArgs false
namespace Go.Proofs.YtefdipjhjgmokaaGreatDoor
open Go.RowKit

/-- the transactions of a list, plainly -/
def ddOf (ds : List Dl) : List (List Opr) := ds.map (·.d)
theorem ddOf_len (ds : List Dl) : (ddOf ds).length = ds.length := by simp [ddOf]
theorem ddOf_get {ds : List Dl} {i : Nat} (h : i < ds.length) : (ddOf ds).getD i [] = ds[i].d := by simp [ddOf, List.getD_eq_getElem?_getD, h]
theorem ddOf_take {ds : List Dl} {k : Nat} (h : k < ds.length) : ddOf (ds.take (k + 1)) = ddOf (ds.take k) ++ [ds[k].d] := by
  unfold ddOf; rw [List.take_succ_eq_append_getElem h, List.map_append]; rfl
theorem getD_set_ (gl : List Bool) {k : Nat} (hk : k < gl.length) (v : Bool) (i : Nat) : (gl.set k v).getD i false = if i = k then v else gl.getD i false := by
  rw [List.getD_eq_getElem?_getD, List.getElem?_set]
  by_cases e : k = i
  · subst e; simp [hk]
  · rw [if_neg e, if_neg fun e' => e e'.symm, List.getD_eq_getElem?_getD]
end Go.Proofs.YtefdipjhjgmokaaGreatDoor

set_option linter.unusedVariables false
set_option linter.unusedSimpArgs false
namespace Go.Proofs.YtefdipjhjgmokaaGreatDoor
open Go.RowKit

theorem Dds.ds {w : World} {B : Nat} {A : Option Addr} {c : Nat} {ds : List Dl} (h : Dds w B A c ds) : DS w A ds := ⟨h.or.vs, fun x hx => (h.oo x hx).os⟩
theorem Dds.chk {w : World} {B : Nat} {A : Option Addr} {c : Nat} {ds : List Dl} (h : Dds w B A c ds) : ∀ x ∈ ds, chkD x.d = 0 := fun x hx => by
  obtain ⟨h1, h2, h3⟩ := h.good x hx
  exact chkD_zero.2 ⟨h2, by omega, fun o ho => (h1 o ho).chk⟩
end Go.Proofs.YtefdipjhjgmokaaGreatDoor

set_option linter.unusedVariables false
set_option linter.unusedSimpArgs false
namespace Go.Proofs.YtefdipjhjgmokaaGreatDoor
open Go.RowKit

/-- the map that numbers make -/
def mpC (zs : List Int) : List ByteArray := (mapR zs 6).1
def mpO (zs : List Int) : List Int := (mapR zs 6).2.map fun (k : Nat) => (k : Int)
theorem mp_ok (zs : List Int) : OkM (mpC zs) (mpO zs) := mapR_ok zs
def RetMi (w : World) (zs : List Int) (e : Ending) (w' : World) : Prop :=
  ∃ A ca O co, e = .returned (.agg #[.slice A (mpC zs).length ca, .slice O (mpO zs).length co]) ∧ MO w' w.heap.size ⟨A, ca, mpC zs, O, co, mpO zs⟩ ∧ Below w.heap.size w w'
theorem kmap_is (P : Option Addr) (cp : Nat) (zs : List Int) (w : World) (hP : IS w P zs) (hl : zs.length ≤ 9223372036854775807) :
    Calls Tryz.prog 11 #[.slice P zs.length cp] w (RetMi w zs) := by
  refine (kmap_any P cp zs w hP hl).mono ?_
  rintro e w' ⟨A, ca, O, co, rfl, h1, h2, hb⟩
  refine ⟨A, ca, O, co, by simp only [mpC, mpO, List.length_map], ⟨h1, ?_⟩, hb⟩
  have e : ((mapR zs 6).2.map fun (k : Nat) => (k : Int)).map (Value.int .i64) = nV (mapR zs 6).2 := by simp [nV]
  show OR w' w.heap.size 3 O co ((mpO zs).map (Value.int .i64))
  unfold mpO
  rw [e]; exact h2
theorem Dds.kept {w w' : World} {B : Nat} {A : Option Addr} {c g : Nat} {ds : List Dl} {t : TypeId} (h : Dds w B A c ds) (ht : Ty w g t) (h1 : 40 ≠ t) (h2 : 71 ≠ t) (hg : w.grownBy w' (some g)) : Dds w' B A c ds :=
  ⟨World.ownsRow.kept h.or hg (own_ne h.or ht h1), fun x hx => World.ownsRow.kept (h.oo x hx) hg (own_ne (h.oo x hx) ht h2), h.ap, h.pw, h.good⟩
theorem Dds.below_ {w w' : World} {B : Nat} {A : Option Addr} {c : Nat} {ds : List Dl} (h : Dds w B A c ds) (hb : Below w.heap.size w w') : Dds w' B A c ds :=
  ⟨h.or.below hb, fun x hx => own_below (h.oo x hx) hb, h.ap, h.pw, h.good⟩
theorem MX.kept {w wr w' : World} {gm g : Nat} {m : Mp} (h : MX w gm m wr) (ht : Ty wr g 197) (hl : w.heap.size ≤ g) (hg : wr.grownBy w' (some g)) : MX w gm m w' :=
  ⟨h.x0.kept (ty_ne h.x0.ty ht (by decide)) hg, h.mo.kept ht (by decide) (by decide) hg, Below.kept h.be hl hg⟩
/-- a slice of pairs that lies in no block of a partitioned store -/
structure SN (w : World) (g : Nat) (A : Option Addr) (c : Nat) (l : List Pr) : Prop where
  sv : SV w A c l
  ne : ∀ (i : Nat) (p : Pr), l[i]? = some p → ∀ a, A = some a → a.block ≠ g
theorem SN.of_ov {w : World} {B g : Nat} {A : Option Addr} {c : Nat} {l : List Pr} (h : OV w B A c l) (ht : Ty w g 197) : SN w g A c l := ⟨h.sv, fun i p _ a e1 e2 => by
  subst e1; subst e2
  exact absurd ((own_ty h rfl).inj ht) (by decide)⟩
theorem SN.of_sv {ws w : World} {g : Nat} {A : Option Addr} {c : Nat} {l : List Pr} (h : SV ws A c l) (hb : Below ws.heap.size ws w) (hg : ws.heap.size ≤ g) : SN w g A c l := ⟨h.below hb, fun i p hp a e1 e2 => by
  obtain ⟨b, o, e, hlt, _⟩ := h.ps i p hp
  rw [e1] at e
  injection e with e
  subst e
  simp at e2
  omega⟩
theorem SN.below {w w' : World} {g : Nat} {A : Option Addr} {c : Nat} {l : List Pr} (h : SN w g A c l) (hb : Below w.heap.size w w') : SN w' g A c l := ⟨h.sv.below hb, h.ne⟩
end Go.Proofs.YtefdipjhjgmokaaGreatDoor
