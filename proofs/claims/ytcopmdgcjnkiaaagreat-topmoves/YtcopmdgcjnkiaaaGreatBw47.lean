/-
  roref.List: the values of a map as a sorted list of pairs.
-/
import Derived.Test.YtcopmdgcjnkiaaaGreatBw46
import Derived.Test.YtcopmdgcjnkiaaaGreatBw5
import Derived.Test.YtcopmdgcjnkiaaaGreatBw3
import Derived.Maps.RangeWalk
import Derived.Maps.Own
import Derived.Maps.OwnOps
import Derived.Maps.OwnSet
import Derived.Sort.KeysCollected
import Derived.Sort.OwnSorted
set_option linter.unusedVariables false
set_option linter.unusedSimpArgs false
namespace Go.Proofs.YtcopmdgcjnkiaaaGreat
open Go.RowKit Go.Maps

/-- the value of a key in a map, 0 if there is none -/
def mv (D : DataW Unit) (k : ByteArray) : Int := match D.atKey (kl k) (.lit (.int .i64 0)) with
  | .lit (.int _ c) => c
  | _ => 0
theorem mv_of {D : DataW Unit} {k : ByteArray} {c : Int} (h : ∀ z, D.atKey (kl k) z = .lit (.int .i64 c)) : mv D k = c := by unfold mv; rw [h]
theorem mv_none {D : DataW Unit} {k : ByteArray} (h : Maps.has D (kl k) = false) : mv D k = 0 := by unfold mv; rw [atKey_of_not_has h]
theorem mv_put_same {D : DataW Unit} (hD : IsMap D) (k : ByteArray) (c : Int) : mv (D.put (kl k) (.lit (.int .i64 c))) k = c := by unfold mv; rw [atKey_put_same hD (k := kl k) (show WideAt.IsKeyLit (kl k) from trivial)]
theorem mv_put_other {D : DataW Unit} {k j : ByteArray} (h : j ≠ k) (c : Int) : mv (D.put (kl k) (.lit (.int .i64 c))) j = mv D j := by
  unfold mv; rw [atKey_put_other (fun e => h (kl_inj e))]
theorem mv_empty (k : ByteArray) : mv (.map []) k = 0 := rfl

/-- what has been gathered of a map, while some of it is still to come -/
structure Coll (D : DataW Unit) (left : Lit → Bool) (xs : List Pr) : Prop where
  sound : ∀ p ∈ xs, p.2 ≠ 0 ∧ mv D p.1 = p.2 ∧ left (kl p.1) = false
  full : ∀ k, left (kl k) = false → mv D k ≠ 0 → (k, mv D k) ∈ xs
  nodup : xs.Pairwise (fun p q => p.1 ≠ q.1)
theorem Coll.start (D : DataW Unit) : Coll D (Maps.has D) [] := ⟨by simp, fun k h1 h2 => absurd (mv_none h1) h2, List.Pairwise.nil⟩
theorem Coll.zero {D : DataW Unit} {left : Lit → Bool} {xs : List Pr} (h : Coll D left xs) {x : ByteArray} (hv : mv D x = 0) : Coll D (fun z => left z && !z.sameKey (kl x)) xs := by
  refine ⟨fun p hp => ?_, fun k h1 h2 => ?_, h.nodup⟩
  · obtain ⟨a, b, c⟩ := h.sound p hp
    exact ⟨a, b, by simp [c]⟩
  · cases hl : left (kl k)
    · exact h.full k hl h2
    · have : (kl k).sameKey (kl x) = true := by simpa [hl] using h1
      rw [same_kl this, hv] at h2; exact absurd rfl h2
theorem Coll.step {D : DataW Unit} {left : Lit → Bool} {xs : List Pr} (h : Coll D left xs) {x : ByteArray} {c : Int} (hx : left (kl x) = true) (hc : mv D x = c) (h0 : c ≠ 0) : Coll D (fun z => left z && !z.sameKey (kl x)) (xs ++ [(x, c)]) := by
  refine ⟨fun p hp => ?_, fun k h1 h2 => ?_, ?_⟩
  · rcases List.mem_append.1 hp with hp | hp
    · obtain ⟨a, b, c⟩ := h.sound p hp
      exact ⟨a, b, by simp [c]⟩
    · simp at hp; subst hp
      exact ⟨h0, hc, by simp [kl, Lit.sameKey]⟩
  · cases hl : left (kl k)
    · exact List.mem_append.2 (.inl (h.full k hl h2))
    · have : (kl k).sameKey (kl x) = true := by simpa [hl] using h1
      obtain rfl := same_kl this
      simp [hc]
  · rw [List.pairwise_append]
    refine ⟨h.nodup, by simp, fun p hp q hq e => ?_⟩
    simp at hq; subst hq
    have := (h.sound p hp).2.2
    simp only at e
    rw [e, hx] at this; cases this

/-- a map as a sorted list -/
structure Lists (D : DataW Unit) (l : List Pr) : Prop where
  srt : l.Pairwise (fun p q => ltB p.1 q.1 = true)
  nz : ∀ p ∈ l, p.2 ≠ 0
  val : ∀ k, valOf l k = mv D k
theorem Coll.lists {D : DataW Unit} {left : Lit → Bool} {xs ys : List Pr} (h : Coll D left xs) (hl : ∀ z, left z = false) (hp : ys.Perm xs) (hs : ys.Pairwise (fun p q => ltB q.1 p.1 = false)) : Lists D ys := by
  have hn : ys.Pairwise (fun p q => p.1 ≠ q.1) := (hp.pairwise_iff (fun {a b} (e : a.1 ≠ b.1) => Ne.symm e)).2 h.nodup
  have hsrt : ys.Pairwise (fun p q => ltB p.1 q.1 = true) := by
    refine List.Pairwise.imp ?_ (hs.and hn)
    rintro p q ⟨h1, h2⟩
    cases h3 : ltB p.1 q.1
    · exact absurd (ltB_total h3 h1) h2
    · rfl
  refine ⟨hsrt, fun p hq => (h.sound p (hp.mem_iff.1 hq)).1, fun k => ?_⟩
  by_cases h0 : mv D k = 0
  · rw [h0]
    refine valOf_none fun p hq e => ?_
    obtain ⟨a, b, _⟩ := h.sound p (hp.mem_iff.1 hq)
    rw [e, h0] at b; exact a b.symm
  · exact valOf_mem (p := (k, mv D k)) hsrt (hp.mem_iff.2 (h.full k (hl _) h0))

/-- a sorted list of a map's values is handed back -/
def RetList (w : World) (D : DataW Unit) (e : Ending) (w' : World) : Prop := ∃ A c l, e = .returned (.slice A l.length c) ∧ SV w' A c l ∧ Lists D l ∧ l.length ≤ Maps.size D ∧ Below w.heap.size w w'

/-- the same, in a new block -/
def RetListF (w : World) (D : DataW Unit) (e : Ending) (w' : World) : Prop := ∃ A c l, e = .returned (.slice A l.length c) ∧ SV w' A c l ∧ Lists D l ∧ l.length ≤ Maps.size D ∧ Below w.heap.size w w' ∧ ∀ a, A = some a → w.heap.size ≤ a.block
set_option maxRecDepth 100000 in
set_option maxHeartbeats 1000000 in
theorem list_fr (b n : Nat) (D : DataW Unit) (w : World) (hown : w.ownsMap Tryz.prog 9 (plainElem Tryz.prog 3) b n D) (hsz : Maps.size D * 24 ≤ 140737488355328) :
    Calls Tryz.prog 34 #[.map (some b)] w (RetListF w D) := by
  have hbl := hown.lt
  go_enter Tryz.func34, Tryz.ntmps34
  go_wp2_with (first
    | (at_range; refine wpList_range_own _ rfl _ 94 rfl 9 3 law9 Tryz.underlying94 _ b n _ rfl (hown.alloc _) ?_; intro w0 hrg0 hg0 hs0)
    | go_in)
  go_frame
  have e1 : (w.alloc (.cells #[.slice none 0 0] 33)).heap.size = w.heap.size + 1 := by simp
  rw [e1] at hrg0 hs0 ⊢
  have hb0 : Below w.heap.size w w0 := ((Below.refl _ w).alloc (Nat.le_refl _) _).grown hg0 (by simp) (fun j hj => by cases hj)
  have hbox : w0.heap[w.heap.size]? = some (.cells #[.slice none 0 0] 33) := (hg0.block _ (by simp) (by simp)).trans (heap_alloc_new w _)
  have hs1 : w.heap.size + 2 ≤ w0.heap.size := by omega
  clear hg0 hs0 e1
  go_loopw [4] (fun _ wr => ∃ (left : Lit → Bool) (cnt : Nat) (v : Value) (xs : List Pr), wr.ranges Tryz.prog 9 (plainElem Tryz.prog 3) b (w.heap.size + 1) n D left cnt ∧ xs.length + cnt ≤ Maps.size D ∧
      wr.heap[w.heap.size]? = some (.cells #[v] 33) ∧ wr.ownsRow (w.heap.size + 2) 64 2 v xs.length (cellsOf xs) ∧ Coll D left xs ∧ w.heap.size + 2 ≤ wr.heap.size ∧ Below w.heap.size w wr)
    (fun _ wr => wr.rangeLeft b (w.heap.size + 1))
  case atStart => exact ⟨_, _, _, [], hrg0, by simp, hbox, World.ownsRow_nil _ _ _ _, Coll.start D, hs1, hb0⟩
  case round =>
    obtain ⟨left, cnt, v, xs, hrg, hcs, hbx, hrow, hC, hsz1, hnx⟩ := hrel
    clear hrg0 hb0 hbox hs1
    go_wp2_with (first
      | (at_next; refine wpList_next_ranges _ rfl _ rfl 9 law9 (plainElem Tryz.prog 3) Value.string (Value.int .i64) (fun key kl hk => by obtain ⟨x, hx, _⟩ := Maps.keyOf_str Tryz.underlying9 hk; exact ⟨_, hx⟩) (fun v y hv => by obtain ⟨c, rfl, _⟩ := plainElem_int_inv Tryz.underlying3 hv; exact ⟨c, rfl⟩) b (w.heap.size + 1) n _ _ _ rfl hrg ?_ ?_)
      | go_in)
    · intro hc0 hl0
      have q1 : wr.cell? ⟨w.heap.size, 0, none⟩ = some v := by simp [World.cell?, hbx]
      have hB2 : v.ownBlock ≠ some w.heap.size := fun e => by have := (hrow.lt _ e).1; omega
      have hsort := sort_any (w.heap.size + 2) w.heap.size v xs wr hrow (by omega) q1 (by omega) hB2
      go_wp2_with fail
      refine hsort.mono ?_
      rintro e w' ⟨rfl, ys, hp, hs, ⟨A, c, hv, hsv⟩, hg⟩
      have q2 : w'.cell? ⟨w.heap.size, 0, none⟩ = some v := (World.cell?_of_block (hg.block w.heap.size (by omega) (fun e => hB2 e.symm))).trans q1
      have hfin : RetListF w D (.returned v) w' := by
        have hb' : Below w.heap.size w w' := hnx.grown hg hnx.size (fun j hj => by have := (hrow.lt j hj).1; omega)
        exact ⟨A, c, ys, by rw [hv], hsv, hC.lists hl0 hp hs, by have := hp.length_eq; omega, hb', fun a ha => by have := (hrow.lt a.block (by rw [hv, ha]; rfl)).1; omega⟩
      have HF := hideP hfin
      clear hfin hsort q1 hv hsv hg hrg hC
      go_wp2_with fail
      go_ret
      exact HF.out
    · intro x c kl' yd yp w2 cnt2 hkey hlk hv hat hrg2 hlt hg2 hs2 hen
      obtain ⟨x', ex, rfl, _⟩ := Maps.keyOf_str Tryz.underlying9 hkey
      obtain rfl : x' = x.data.toList := by unfold encStr at ex; injection ex with ex; rw [ex]
      obtain ⟨c', ec, hyd, _⟩ := plainElem_int_inv Tryz.underlying3 hv
      obtain rfl : c = c' := by injection ec
      have hmv : mv D x = c := mv_of (k := x) (fun z => by rw [show kl x = .string x.data.toList from rfl, hat z]; exact congrArg Prod.fst hyd)
      have hrow2 := hrow.kept hg2 (Or.inr (row_ne_iter hrow hrg).symm)
      have hbx2 : w2.heap[w.heap.size]? = some (.cells #[v] 33) := (hg2.block _ (by omega) (by simp)).trans hbx
      have hnx2 : Below w.heap.size w w2 := hnx.grown hg2 hnx.size (fun j hj => by cases hj; omega)
      have hsz2 : w.heap.size + 2 ≤ w2.heap.size := by omega
      clear hs2 hkey hv hat hyd ec ex hg2 hnx hbx hrow
      have hlk' : left (kl x) = true := hlk
      by_cases h0 : c = 0
      · have d0 : (c != 0) = false := by simp [h0]
        have HC := hideP (hC.zero (x := x) (by rw [hmv, h0]))
        clear h0 hmv hlk hlk'
        go_wp2_with fail
        go_roundw
        case rel => exact ⟨_, cnt2, v, xs, hrg2, by omega, hbx2, hrow2, HC.out, hsz2, hnx2⟩
        case measure => rw [hrg2.left_eq, hrg.left_eq]; exact hlt
      · have d0 : (c != 0) = true := by simp [h0]
        have HC := hideP (hC.step hlk' hmv h0)
        clear h0 hmv hlk hlk'
        have q1 : w2.cell? ⟨w.heap.size, 0, none⟩ = some v := by simp [World.cell?, hbx2]
        obtain ⟨v', w3, hrun, hown', hg3, hloc⟩ := app_pairs (w2.alloc (.cells #[.string x, .int .i64 c] 64)) (w.heap.size + 2) 33 v xs (hrow2.alloc _) _ (some ⟨w2.heap.size, 0, none⟩) 1 [(x, c)] (PS.one w2 x c 64) (by simp; omega) (by simp; omega)
        have hB2 : v.ownBlock ≠ some w.heap.size := fun e => by have := (hrow2.lt _ e).1; omega
        have hbx3 : w3.heap[w.heap.size]? = some (.cells #[v] 33) := (hg3.block _ (by simp; omega) (fun e => hB2 e.symm)).trans ((Below.heap_alloc w2 _ _ (by omega)).trans hbx2)
        have q3 : w3.cell? ⟨w.heap.size, 0, none⟩ = some v := by simp [World.cell?, hbx3]
        have q4 : w3.frozen? ⟨w.heap.size, 0, none⟩ = false := by simp [World.frozen?, hbx3]
        have hsz3 : w.heap.size + 2 ≤ w3.heap.size := by have := hg3.size; simp at this; omega
        have hnx3 : Below w.heap.size w w3 := (hnx2.alloc (by omega) _).grown hg3 (by simp; omega) (fun j hj => by have := (hrow2.lt j hj).1; omega)
        have hrg3 := (hrg2.alloc (.cells #[.string x, .int .i64 c] 64)).kept hg3 (fun e => by have := (hrow2.lt _ e.symm).1; omega) (row_ne_iter (hrow2.alloc (.cells #[.string x, .int .i64 c] 64)) (hrg2.alloc _))
        obtain ⟨A', c', hv', hsv'⟩ := SV.of_own hown'
        subst hv'
        have HR := hideP hrun
        have hrow4 := ownsRow_setCell_below hown' (a := ⟨w.heap.size, 0, none⟩) (by simp) (.slice A' (xs ++ [(x, c)]).length c')
        have hbx4 := box_set (u := .slice A' (xs ++ [(x, c)]).length c') hbx3
        have hrg4 := hrg3.kept (grown_setCell w3 ⟨w.heap.size, 0, none⟩ (.slice A' (xs ++ [(x, c)]).length c')) (fun e => by simp at e; omega) (fun e => by simp at e)
        have hnx4 := hnx3.setCell (p := ⟨w.heap.size, 0, none⟩) (Nat.le_refl _) (.slice A' (xs ++ [(x, c)]).length c')
        have hsz4 : w.heap.size + 2 ≤ (w3.setCell ⟨w.heap.size, 0, none⟩ (.slice A' (xs ++ [(x, c)]).length c')).heap.size := by simpa [World.setCell] using hsz3
        have hle4 : (xs ++ [(x, c)]).length + cnt2 ≤ Maps.size D := by simp; omega
        clear hrun hown' hsv' hrow2 hrg3 hnx3 hg3 hloc hbx3 hbx2 hC
        generalize (xs ++ [(x, c)]) = ys at HR hrow4 hbx4 hrg4 hnx4 hsz4 hle4 HC
        go_wp2_with (at_builtin; refine Lib.wpList_append_run _ rfl _ _ _ _ rfl _ _ rfl rfl _ _ HR.out ?_)
        go_roundw
        case rel => exact ⟨_, cnt2, _, ys, hrg4, hle4, hbx4, hrow4, HC.out, hsz4, hnx4⟩
        case measure => rw [hrg4.left_eq, hrg.left_eq]; exact hlt
theorem list_any (b n : Nat) (D : DataW Unit) (w : World) (hown : w.ownsMap Tryz.prog 9 (plainElem Tryz.prog 3) b n D) (hsz : Maps.size D * 24 ≤ 140737488355328) :
    Calls Tryz.prog 34 #[.map (some b)] w (RetList w D) :=
  (list_fr b n D w hown hsz).mono fun e w' ⟨A, c, l, h1, h2, h3, h4, h5, _⟩ => ⟨A, c, l, h1, h2, h3, h4, h5⟩
end Go.Proofs.YtcopmdgcjnkiaaaGreat
