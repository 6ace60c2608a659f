/-
  roref.List: the values of a map as a sorted list of pairs.
  roref.Store and Of: what they answer.
  Maps of values of the call's own; roref.Of and roref.List at them.
-/
import Derived.Test.YtefdipjhjgmokaaGreatDoorBx28
import Derived.Test.YtefdipjhjgmokaaGreatDoorBx8
import Derived.Test.YtefdipjhjgmokaaGreatDoorBx9
import Derived.Maps.RangeWalk
import Derived.Maps.Own
import Derived.Maps.OwnOps
import Derived.Maps.OwnSet
import Derived.Sort.KeysCollected
import Derived.Sort.OwnSorted
import Derived.Test.YtefdipjhjgmokaaGreatDoorBx10
set_option linter.unusedVariables false
set_option linter.unusedSimpArgs false
namespace Go.Proofs.YtefdipjhjgmokaaGreatDoor
open Go.RowKit Go.Maps

/-- the value of a key in a map, 0 if there is none -/
def mv (D : DataW Unit) (k : ByteArray) : Int := match D.atKey (kl k) (.lit (.int .i64 0)) with
  | .lit (.int _ c) => c
  | _ => 0
theorem mv_of {D : DataW Unit} {k : ByteArray} {c : Int} (h : ∀ z, D.atKey (kl k) z = .lit (.int .i64 c)) : mv D k = c := by unfold mv; rw [h]
theorem mv_none {D : DataW Unit} {k : ByteArray} (h : Maps.has D (kl k) = false) : mv D k = 0 := by unfold mv; rw [atKey_of_not_has h]
theorem mv_put_same {D : DataW Unit} (hD : IsMap D) (k : ByteArray) (c : Int) : mv (D.put (kl k) (.lit (.int .i64 c))) k = c := by unfold mv; rw [atKey_put_same hD (k := kl k) (show WideAt.IsKeyLit (kl k) from trivial)]
theorem mv_put_other {D : DataW Unit} {k j : ByteArray} (h : j ≠ k) (c : Int) : mv (D.put (kl k) (.lit (.int .i64 c))) j = mv D j := by
  unfold mv; rw [atKey_put_other (fun e => h (kl_inj e))]
theorem mv_empty (k : ByteArray) : mv (.map []) k = 0 := rfl

/-- what has been gathered of a map, while some of it is still to come -/
structure Coll (D : DataW Unit) (left : Lit → Bool) (xs : List Pr) : Prop where
  sound : ∀ p ∈ xs, p.2 ≠ 0 ∧ mv D p.1 = p.2 ∧ left (kl p.1) = false
  full : ∀ k, left (kl k) = false → mv D k ≠ 0 → (k, mv D k) ∈ xs
  nodup : xs.Pairwise (fun p q => p.1 ≠ q.1)
theorem Coll.start (D : DataW Unit) : Coll D (Maps.has D) [] := ⟨by simp, fun k h1 h2 => absurd (mv_none h1) h2, List.Pairwise.nil⟩
theorem Coll.zero {D : DataW Unit} {left : Lit → Bool} {xs : List Pr} (h : Coll D left xs) {x : ByteArray} (hv : mv D x = 0) : Coll D (fun z => left z && !z.sameKey (kl x)) xs := by
  refine ⟨fun p hp => ?_, fun k h1 h2 => ?_, h.nodup⟩
  · obtain ⟨a, b, c⟩ := h.sound p hp
    exact ⟨a, b, by simp [c]⟩
  · cases hl : left (kl k)
    · exact h.full k hl h2
    · have : (kl k).sameKey (kl x) = true := by simpa [hl] using h1
      rw [same_kl this, hv] at h2; exact absurd rfl h2
theorem Coll.step {D : DataW Unit} {left : Lit → Bool} {xs : List Pr} (h : Coll D left xs) {x : ByteArray} {c : Int} (hx : left (kl x) = true) (hc : mv D x = c) (h0 : c ≠ 0) : Coll D (fun z => left z && !z.sameKey (kl x)) (xs ++ [(x, c)]) := by
  refine ⟨fun p hp => ?_, fun k h1 h2 => ?_, ?_⟩
  · rcases List.mem_append.1 hp with hp | hp
    · obtain ⟨a, b, c⟩ := h.sound p hp
      exact ⟨a, b, by simp [c]⟩
    · simp at hp; subst hp
      exact ⟨h0, hc, by simp [kl, Lit.sameKey]⟩
  · cases hl : left (kl k)
    · exact List.mem_append.2 (.inl (h.full k hl h2))
    · have : (kl k).sameKey (kl x) = true := by simpa [hl] using h1
      obtain rfl := same_kl this
      simp [hc]
  · rw [List.pairwise_append]
    refine ⟨h.nodup, by simp, fun p hp q hq e => ?_⟩
    simp at hq; subst hq
    have := (h.sound p hp).2.2
    simp only at e
    rw [e, hx] at this; cases this

/-- a map as a sorted list -/
structure Lists (D : DataW Unit) (l : List Pr) : Prop where
  srt : l.Pairwise (fun p q => ltB p.1 q.1 = true)
  nz : ∀ p ∈ l, p.2 ≠ 0
  val : ∀ k, valOf l k = mv D k
theorem Coll.lists {D : DataW Unit} {left : Lit → Bool} {xs ys : List Pr} (h : Coll D left xs) (hl : ∀ z, left z = false) (hp : ys.Perm xs) (hs : ys.Pairwise (fun p q => ltB q.1 p.1 = false)) : Lists D ys := by
  have hn : ys.Pairwise (fun p q => p.1 ≠ q.1) := (hp.pairwise_iff (fun {a b} (e : a.1 ≠ b.1) => Ne.symm e)).2 h.nodup
  have hsrt : ys.Pairwise (fun p q => ltB p.1 q.1 = true) := by
    refine List.Pairwise.imp ?_ (hs.and hn)
    rintro p q ⟨h1, h2⟩
    cases h3 : ltB p.1 q.1
    · exact absurd (ltB_total h3 h1) h2
    · rfl
  refine ⟨hsrt, fun p hq => (h.sound p (hp.mem_iff.1 hq)).1, fun k => ?_⟩
  by_cases h0 : mv D k = 0
  · rw [h0]
    refine valOf_none fun p hq e => ?_
    obtain ⟨a, b, _⟩ := h.sound p (hp.mem_iff.1 hq)
    rw [e, h0] at b; exact a b.symm
  · exact valOf_mem (p := (k, mv D k)) hsrt (hp.mem_iff.2 (h.full k (hl _) h0))

/-- a sorted list of a map's values is handed back -/
def RetList (w : World) (D : DataW Unit) (e : Ending) (w' : World) : Prop := ∃ A c l, e = .returned (.slice A l.length c) ∧ SV w' A c l ∧ Lists D l ∧ l.length ≤ Maps.size D ∧ Below w.heap.size w w'

/-- the same, in a new block -/
def RetListF (w : World) (D : DataW Unit) (e : Ending) (w' : World) : Prop := ∃ A c l, e = .returned (.slice A l.length c) ∧ SV w' A c l ∧ Lists D l ∧ l.length ≤ Maps.size D ∧ Below w.heap.size w w' ∧ ∀ a, A = some a → w.heap.size ≤ a.block
set_option maxRecDepth 100000 in
set_option maxHeartbeats 1000000 in
theorem list_fr (b n : Nat) (D : DataW Unit) (w : World) (hown : w.ownsMap Tryz.prog 9 (plainElem Tryz.prog 3) b n D) (hsz : Maps.size D * 24 ≤ 140737488355328) :
    Calls Tryz.prog 64 #[.map (some b)] w (RetListF w D) := by
  have hbl := hown.lt
  go_enter Tryz.func64, Tryz.ntmps64
  go_wp2_with (first
    | (at_range; refine wpList_range_own _ rfl _ 103 rfl 9 3 law9 Tryz.underlying103 _ b n _ rfl (hown.alloc _) ?_; intro w0 hrg0 hg0 hs0)
    | go_in)
  go_frame
  have e1 : (w.alloc (.cells #[.slice none 0 0] 36)).heap.size = w.heap.size + 1 := by simp
  rw [e1] at hrg0 hs0 ⊢
  have hb0 : Below w.heap.size w w0 := ((Below.refl _ w).alloc (Nat.le_refl _) _).grown hg0 (by simp) (fun j hj => by cases hj)
  have hbox : w0.heap[w.heap.size]? = some (.cells #[.slice none 0 0] 36) := (hg0.block _ (by simp) (by simp)).trans (heap_alloc_new w _)
  have hs1 : w.heap.size + 2 ≤ w0.heap.size := by omega
  clear hg0 hs0 e1
  go_loopw [4] (fun _ wr => ∃ (left : Lit → Bool) (cnt : Nat) (v : Value) (xs : List Pr), wr.ranges Tryz.prog 9 (plainElem Tryz.prog 3) b (w.heap.size + 1) n D left cnt ∧ xs.length + cnt ≤ Maps.size D ∧
      wr.heap[w.heap.size]? = some (.cells #[v] 36) ∧ wr.ownsRow (w.heap.size + 2) 63 2 v xs.length (cellsOf xs) ∧ Coll D left xs ∧ w.heap.size + 2 ≤ wr.heap.size ∧ Below w.heap.size w wr)
    (fun _ wr => wr.rangeLeft b (w.heap.size + 1))
  case atStart => exact ⟨_, _, _, [], hrg0, by simp, hbox, World.ownsRow_nil _ _ _ _, Coll.start D, hs1, hb0⟩
  case round =>
    obtain ⟨left, cnt, v, xs, hrg, hcs, hbx, hrow, hC, hsz1, hnx⟩ := hrel
    clear hrg0 hb0 hbox hs1
    go_wp2_with (first
      | (at_next; refine wpList_next_ranges _ rfl _ rfl 9 law9 (plainElem Tryz.prog 3) Value.string (Value.int .i64) (fun key kl hk => by obtain ⟨x, hx, _⟩ := Maps.keyOf_str Tryz.underlying9 hk; exact ⟨_, hx⟩) (fun v y hv => by obtain ⟨c, rfl, _⟩ := plainElem_int_inv Tryz.underlying3 hv; exact ⟨c, rfl⟩) b (w.heap.size + 1) n _ _ _ rfl hrg ?_ ?_)
      | go_in)
    · intro hc0 hl0
      have q1 : wr.cell? ⟨w.heap.size, 0, none⟩ = some v := by simp [World.cell?, hbx]
      have hB2 : v.ownBlock ≠ some w.heap.size := fun e => by have := (hrow.lt _ e).1; omega
      have hsort := sort_any (w.heap.size + 2) w.heap.size v xs wr hrow (by omega) q1 (by omega) hB2
      go_wp2_with fail
      refine hsort.mono ?_
      rintro e w' ⟨rfl, ys, hp, hs, ⟨A, c, hv, hsv⟩, hg⟩
      have q2 : w'.cell? ⟨w.heap.size, 0, none⟩ = some v := (World.cell?_of_block (hg.block w.heap.size (by omega) (fun e => hB2 e.symm))).trans q1
      have hfin : RetListF w D (.returned v) w' := by
        have hb' : Below w.heap.size w w' := hnx.grown hg hnx.size (fun j hj => by have := (hrow.lt j hj).1; omega)
        exact ⟨A, c, ys, by rw [hv], hsv, hC.lists hl0 hp hs, by have := hp.length_eq; omega, hb', fun a ha => by have := (hrow.lt a.block (by rw [hv, ha]; rfl)).1; omega⟩
      have HF := hideP hfin
      clear hfin hsort q1 hv hsv hg hrg hC
      go_wp2_with fail
      go_ret
      exact HF.out
    · intro x c kl' yd yp w2 cnt2 hkey hlk hv hat hrg2 hlt hg2 hs2 hen
      obtain ⟨x', ex, rfl, _⟩ := Maps.keyOf_str Tryz.underlying9 hkey
      obtain rfl : x' = x.data.toList := by unfold encStr at ex; injection ex with ex; rw [ex]
      obtain ⟨c', ec, hyd, _⟩ := plainElem_int_inv Tryz.underlying3 hv
      obtain rfl : c = c' := by injection ec
      have hmv : mv D x = c := mv_of (k := x) (fun z => by rw [show kl x = .string x.data.toList from rfl, hat z]; exact congrArg Prod.fst hyd)
      have hrow2 := hrow.kept hg2 (Or.inr (row_ne_iter hrow hrg).symm)
      have hbx2 : w2.heap[w.heap.size]? = some (.cells #[v] 36) := (hg2.block _ (by omega) (by simp)).trans hbx
      have hnx2 : Below w.heap.size w w2 := hnx.grown hg2 hnx.size (fun j hj => by cases hj; omega)
      have hsz2 : w.heap.size + 2 ≤ w2.heap.size := by omega
      clear hs2 hkey hv hat hyd ec ex hg2 hnx hbx hrow
      have hlk' : left (kl x) = true := hlk
      by_cases h0 : c = 0
      · have d0 : (c != 0) = false := by simp [h0]
        have HC := hideP (hC.zero (x := x) (by rw [hmv, h0]))
        clear h0 hmv hlk hlk'
        go_wp2_with fail
        go_roundw
        case rel => exact ⟨_, cnt2, v, xs, hrg2, by omega, hbx2, hrow2, HC.out, hsz2, hnx2⟩
        case measure => rw [hrg2.left_eq, hrg.left_eq]; exact hlt
      · have d0 : (c != 0) = true := by simp [h0]
        have HC := hideP (hC.step hlk' hmv h0)
        clear h0 hmv hlk hlk'
        have q1 : w2.cell? ⟨w.heap.size, 0, none⟩ = some v := by simp [World.cell?, hbx2]
        obtain ⟨v', w3, hrun, hown', hg3, hloc⟩ := app_pairs (w2.alloc (.cells #[.string x, .int .i64 c] 63)) (w.heap.size + 2) 36 v xs (hrow2.alloc _) _ (some ⟨w2.heap.size, 0, none⟩) 1 [(x, c)] (PS.one w2 x c 63) (by simp; omega) (by simp; omega)
        have hB2 : v.ownBlock ≠ some w.heap.size := fun e => by have := (hrow2.lt _ e).1; omega
        have hbx3 : w3.heap[w.heap.size]? = some (.cells #[v] 36) := (hg3.block _ (by simp; omega) (fun e => hB2 e.symm)).trans ((Below.heap_alloc w2 _ _ (by omega)).trans hbx2)
        have q3 : w3.cell? ⟨w.heap.size, 0, none⟩ = some v := by simp [World.cell?, hbx3]
        have q4 : w3.frozen? ⟨w.heap.size, 0, none⟩ = false := by simp [World.frozen?, hbx3]
        have hsz3 : w.heap.size + 2 ≤ w3.heap.size := by have := hg3.size; simp at this; omega
        have hnx3 : Below w.heap.size w w3 := (hnx2.alloc (by omega) _).grown hg3 (by simp; omega) (fun j hj => by have := (hrow2.lt j hj).1; omega)
        have hrg3 := (hrg2.alloc (.cells #[.string x, .int .i64 c] 63)).kept hg3 (fun e => by have := (hrow2.lt _ e.symm).1; omega) (row_ne_iter (hrow2.alloc (.cells #[.string x, .int .i64 c] 63)) (hrg2.alloc _))
        obtain ⟨A', c', hv', hsv'⟩ := SV.of_own hown'
        subst hv'
        have HR := hideP hrun
        have hrow4 := ownsRow_setCell_below hown' (a := ⟨w.heap.size, 0, none⟩) (by simp) (.slice A' (xs ++ [(x, c)]).length c')
        have hbx4 := box_set (u := .slice A' (xs ++ [(x, c)]).length c') hbx3
        have hrg4 := hrg3.kept (grown_setCell w3 ⟨w.heap.size, 0, none⟩ (.slice A' (xs ++ [(x, c)]).length c')) (fun e => by simp at e; omega) (fun e => by simp at e)
        have hnx4 := hnx3.setCell (p := ⟨w.heap.size, 0, none⟩) (Nat.le_refl _) (.slice A' (xs ++ [(x, c)]).length c')
        have hsz4 : w.heap.size + 2 ≤ (w3.setCell ⟨w.heap.size, 0, none⟩ (.slice A' (xs ++ [(x, c)]).length c')).heap.size := by simpa [World.setCell] using hsz3
        have hle4 : (xs ++ [(x, c)]).length + cnt2 ≤ Maps.size D := by simp; omega
        clear hrun hown' hsv' hrow2 hrg3 hnx3 hg3 hloc hbx3 hbx2 hC
        generalize (xs ++ [(x, c)]) = ys at HR hrow4 hbx4 hrg4 hnx4 hsz4 hle4 HC
        go_wp2_with (at_builtin; refine Lib.wpList_append_run _ rfl _ _ _ _ rfl _ _ rfl rfl _ _ HR.out ?_)
        go_roundw
        case rel => exact ⟨_, cnt2, _, ys, hrg4, hle4, hbx4, hrow4, HC.out, hsz4, hnx4⟩
        case measure => rw [hrg4.left_eq, hrg.left_eq]; exact hlt
theorem list_any (b n : Nat) (D : DataW Unit) (w : World) (hown : w.ownsMap Tryz.prog 9 (plainElem Tryz.prog 3) b n D) (hsz : Maps.size D * 24 ≤ 140737488355328) :
    Calls Tryz.prog 64 #[.map (some b)] w (RetList w D) :=
  (list_fr b n D w hown hsz).mono fun e w' ⟨A, c, l, h1, h2, h3, h4, h5, _⟩ => ⟨A, c, l, h1, h2, h3, h4, h5⟩
end Go.Proofs.YtefdipjhjgmokaaGreatDoor

set_option linter.unusedVariables false
set_option linter.unusedSimpArgs false
namespace Go.Proofs.YtefdipjhjgmokaaGreatDoor
open Go.RowKit Go.WideMaps Go.Maps

set_option maxHeartbeats 1000000 in
set_option maxRecDepth 100000 in
theorem rstore_any (A : Option Addr) (c : Nat) (l : List Pr) (w : World) (hA : PS w w.heap.size A l) (hl : l.length < 4611686018427387904) :
    Calls Tryz.prog 47 #[.slice A l.length c] w fun e w' => e = .returned (.int .i64 (chk ByteArray.empty l)) ∧ Below w.heap.size w w' := by
  go_enter Tryz.func47, Tryz.ntmps47
  go_wp2
  go_loopw [3, 8] (fun s i wr => ∃ (k : Nat) (bf : ByteArray), k ≤ l.length ∧ i = .int .i64 k ∧ s = .string bf ∧ chk ByteArray.empty l = chk bf (l.drop k) ∧ Below w.heap.size w wr) (fun _ i _ => l.length - (intOf i).toNat)
  case atStart => exact ⟨0, ByteArray.empty, Nat.zero_le _, rfl, rfl, rfl, Below.refl _ _⟩
  case round =>
    obtain ⟨k, bf, hk, rfl, rfl, hchk, hb⟩ := hrel
    have HC := hideP hchk
    clear hchk
    by_cases hlt : k < l.length
    · obtain ⟨b, o, rfl, hbl, c1, c2⟩ := hA.below hb k _ (List.getElem?_eq_getElem hlt)
      clear hA
      generalize hp : l[k] = p at c1 c2
      have HP := hideP hp
      clear hp
      have hsz := hb.size
      have HB := (hb.alloc hb.size (.cells #[.string p.1, .int .i64 p.2] 63))
      have q1 : (wr.alloc (.cells #[.string p.1, .int .i64 p.2] 63)).cell? ⟨wr.heap.size, 0, none⟩ = some (.string p.1) := by simp
      have q2 : (wr.alloc (.cells #[.string p.1, .int .i64 p.2] 63)).cell? ⟨wr.heap.size, 1, none⟩ = some (.int .i64 p.2) := by simp
      have hs1 : wr.heap.size < (wr.alloc (.cells #[.string p.1, .int .i64 p.2] 63)).heap.size := by simp
      go_wp2_with fail
      refine (rkeyR_any _ _).mono ?_
      rintro e w1 ⟨rfl, hbk⟩
      have q1 := (hbk.cell (p := ⟨wr.heap.size, 0, none⟩) hs1).trans q1
      have q2 := (hbk.cell (p := ⟨wr.heap.size, 1, none⟩) hs1).trans q2
      have HB1 := HB.trans (hbk.mono HB.size)
      clear hbk HB
      cases hkb : keyB p.1
      · go_wp2_with fail
        go_ret
        exact ⟨ret_int (by rw [HC.out, chk_key hlt HP.out hkb]), HB1⟩
      · by_cases h0 : p.2 = 0
        · have d0 : (p.2 == 0) = true := by simp [h0]
          have H0 := hideP h0
          clear h0
          have HV := hideP (show valB p.2 = true by rw [H0.out]; rfl)
          go_wp2_with fail
          go_ret
          exact ⟨ret_int (by rw [HC.out, chk_zero hlt HP.out hkb HV.out H0.out]), HB1⟩
        · have d0 : (p.2 == 0) = false := by simp [h0]
          have H0 := hideP h0
          clear h0
          go_wp2_with fail
          refine (rvalue_any _ _).mono ?_
          rintro e w' ⟨rfl, rfl⟩
          cases hvb : valB p.2
          · go_wp2_with fail
            go_ret
            exact ⟨ret_int (by rw [HC.out, chk_val hlt HP.out hkb hvb]), HB1⟩
          · cases hle : leB p.1 bf
            · have HL := hideP hle
              have d1 : Op.bytesLess p.1.toList bf.toList = false := by simp [leB] at hle; exact hle.1
              have d2 : (p.1.toList == bf.toList) = false := by simp [leB] at hle; simpa using hle.2
              clear hle
              go_wp2_with fail
              go_roundw
              case rel => exact ⟨k + 1, p.1, by omega, by go_num, rfl, by rw [HC.out, chk_next hlt HP.out hkb hvb H0.out HL.out], HB1⟩
              case measure => simp [intOf]; omega
            · have HL := hideP hle
              have d1 : (Op.bytesLess p.1.toList bf.toList || p.1.toList == bf.toList) = true := by simpa [leB] using hle
              clear hle
              go_wp2_with fail
              go_ret
              exact ⟨ret_int (by rw [HC.out, chk_ord hlt HP.out hkb hvb H0.out HL.out]), HB1⟩
    · go_wp2
      go_ret
      exact ⟨ret_int (by rw [HC.out, List.drop_of_length_le (by omega)]; rfl), hb⟩

/-- pairs that can be read: their keys and values are Go's -/
def Rd (l : List Pr) : Prop := ∀ p ∈ l, p.1.size ≤ maxLen ∧ (Lit.int .i64 p.2).wf = true
theorem Ok.rd {l : List Pr} (h : Ok l) : Rd l := fun p hp => by
  have h1 := h.key p hp
  have h2 := h.val p hp
  simp [keyB] at h1
  simp [valB] at h2
  exact ⟨by unfold maxLen; omega, WalkArith.wf_i64 (by omega)⟩
/-- the last value of a key -/
def lastV (l : List Pr) (k : ByteArray) : Int := l.foldl (fun v p => if cmpB p.1 k = 0 then p.2 else v) 0
theorem lastV_snoc (l : List Pr) (p : Pr) (k : ByteArray) : lastV (l ++ [p]) k = if cmpB p.1 k = 0 then p.2 else lastV l k := by simp [lastV, List.foldl_append]
theorem lastV_eq {l : List Pr} (h : l.Pairwise (fun p q => ltB p.1 q.1 = true)) (k : ByteArray) : lastV l k = valOf l k := by
  have hgo : ∀ (l : List Pr) (v : Int), l.Pairwise (fun p q => ltB p.1 q.1 = true) → l.foldl (fun v p => if cmpB p.1 k = 0 then p.2 else v) v = if (∃ p ∈ l, p.1 = k) then valOf l k else v := by
    intro l
    induction l with
    | nil => intro v _; simp
    | cons p r ih =>
      intro v h
      have h' := List.pairwise_cons.1 h
      rw [List.foldl_cons, ih _ h'.2]
      by_cases e : p.1 = k
      · have hc : cmpB p.1 k = 0 := cmpB_zero.2 e
        have hn : ¬ ∃ q ∈ r, q.1 = k := fun ⟨q, hq, e2⟩ => ltB_ne (h'.1 q hq) (by rw [e, e2])
        rw [if_neg hn, if_pos hc, if_pos ⟨p, by simp, e⟩]
        simp [valOf, hc]
      · have hc : cmpB p.1 k ≠ 0 := fun h => e (cmpB_zero.1 h)
        rw [if_neg hc]
        by_cases hr : ∃ q ∈ r, q.1 = k
        · obtain ⟨q, hq, e2⟩ := hr
          rw [if_pos ⟨q, hq, e2⟩, if_pos ⟨q, by simp [hq], e2⟩]
          simp [valOf, hc]
        · rw [if_neg hr, if_neg (fun ⟨q, hq, e2⟩ => by rcases List.mem_cons.1 hq with rfl | hq; exact e e2; exact hr ⟨q, hq, e2⟩)]
  unfold lastV
  rw [hgo l 0 h]
  by_cases hr : ∃ p ∈ l, p.1 = k
  · rw [if_pos hr]
  · rw [if_neg hr, valOf_none fun p hp e => hr ⟨p, hp, e⟩]

/-- a new map is handed back -/
def RetMap (w : World) (f : ByteArray → Int) (n : Nat) (e : Ending) (w' : World) : Prop :=
  ∃ b D, e = .returned (.map (some b)) ∧ w'.ownsMap Tryz.prog 9 (plainElem Tryz.prog 3) b n D ∧ IsMap D ∧ (∀ k, mv D k = f k) ∧ w.heap.size ≤ b ∧ Below w.heap.size w w'

set_option maxHeartbeats 1000000 in
set_option maxRecDepth 100000 in
theorem of_any (A : Option Addr) (c : Nat) (l : List Pr) (w : World) (hA : PS w w.heap.size A l) (hl : l.length < 4611686018427387904) (hr : Rd l) :
    Calls Tryz.prog 49 #[.slice A l.length c] w (RetMap w (lastV l) l.length) := by
  have hmm := @run_makeMap Tryz.prog
  go_enter Tryz.func49, Tryz.ntmps49
  go_wp2_with fail
  go_loopw [9] (fun i wr => ∃ (k : Nat) (D : DataW Unit), k ≤ l.length ∧ i = .int .i64 k ∧ wr.ownsMap Tryz.prog 9 (plainElem Tryz.prog 3) w.heap.size k D ∧ IsMap D ∧ (∀ j, mv D j = lastV (l.take k) j) ∧ Below w.heap.size w wr) (fun i _ => l.length - (intOf i).toNat)
  case atStart => exact ⟨0, .map [], Nat.zero_le _, rfl, World.ownsMap_made _ _ _ _, isMap_empty, (fun j => mv_empty j), (Below.refl _ _).alloc (Nat.le_refl _) _⟩
  case round =>
    obtain ⟨k, D, hk, rfl, hown, hM, hD, hb⟩ := hrel
    have HD := hideP hD
    clear hD
    by_cases hlt : k < l.length
    · obtain ⟨b, o, rfl, hbl, c1, c2⟩ := hA.below hb k _ (List.getElem?_eq_getElem hlt)
      obtain ⟨r1, r2⟩ := hr _ (List.getElem_mem hlt)
      have HT := hideP (show l.take (k + 1) = l.take k ++ [l[k]] from List.take_succ_eq_append_getElem hlt)
      clear hA hr
      generalize l[k] = p at c1 c2 r1 r2 HT
      have hsz := hb.size
      have HB := (hb.alloc hb.size (.cells #[.string p.1, .int .i64 p.2] 63))
      have hown2 := hown.alloc (.cells #[.string p.1, .int .i64 p.2] 63)
      have R2 := hideP r2
      clear r2
      go_wp2_with (first
        | (at_mapUpdate; refine wpList_mapUpdate_own _ rfl _ _ _ 103 rfl 9 3 law9 Tryz.underlying103 _ w.heap.size k _ rfl hown2 (by unfold maxLen; omega) _ _ _ rfl rfl (keyOf_string_mk Tryz.underlying9 r1) _ [] (plainElem_int Tryz.underlying3 R2.out) ?_; intro w3 hown3 hg3; go_frame)
        | go_in)
      go_roundw
      case rel =>
        refine ⟨k + 1, _, by omega, by go_num, hown3, hM.put _ _, fun j => ?_, HB.grown hg3 HB.size (fun j hj => by cases hj; exact Nat.le_refl _)⟩
        rw [HT.out, lastV_snoc]
        by_cases e : p.1 = j
        · rw [if_pos (cmpB_zero.2 e), ← e]; exact mv_put_same hM p.1 p.2
        · rw [if_neg (fun h => e (cmpB_zero.1 h)), ← HD.out]; exact mv_put_other (fun h => e h.symm) p.2
      case measure => simp [intOf]; omega
    · have hkl : k = l.length := by omega
      subst hkl
      have hf : RetMap w (lastV l) l.length (.returned (.map (some w.heap.size))) wr := ⟨w.heap.size, D, rfl, hown, hM, fun j => by rw [HD.out, List.take_length], Nat.le_refl _, hb⟩
      have HF := hideP hf
      clear hf
      go_wp2_with fail
      go_ret
      exact HF.out
theorem zero3 (w : World) : (zeroValue 3).run Tryz.prog w = .ok (.int .i64 0) w := by kernel_rfl
theorem look_any {w : World} {b n : Nat} {D : DataW Unit} (hown : w.ownsMap Tryz.prog 9 (plainElem Tryz.prog 3) b n D) (x : ByteArray) (hx : x.size ≤ maxLen) :
    (Instr.lookup 103 (.map (some b)) (.string x) false).run Tryz.prog w = .ok (.int .i64 (mv D x)) w := by
  obtain ⟨c, hrun, hat, _⟩ := hown.lookup_int law9 Tryz.underlying103 Tryz.underlying3 (zero3 w) (keyOf_string_mk Tryz.underlying9 hx)
  have : mv D x = c := by unfold mv; rw [show kl x = .string x.data.toList from rfl, hat]
  rw [this]; exact hrun
end Go.Proofs.YtefdipjhjgmokaaGreatDoor

set_option linter.unusedVariables false
set_option linter.unusedSimpArgs false
namespace Go.Proofs.YtefdipjhjgmokaaGreatDoor
open Go.RowKit Go.WideMaps Go.Maps

/-- a map of values of the call's own -/
structure MV (w : World) (b n : Nat) (f : VF) : Prop where
  ex : ∃ D : DataW Unit, w.ownsMap Tryz.prog 9 (plainElem Tryz.prog 3) b n D ∧ IsMap D ∧ ∀ k, mv D k = f k
section
variable {w w' : World} {b n : Nat} {f : VF}
theorem MV.kept (h : MV w b n f) {row : Option Nat} (hg : w.grownBy w' row) (hne : some b ≠ row) : MV w' b n f := by
  obtain ⟨D, h1, h2, h3⟩ := h.ex; exact ⟨D, h1.kept hg hne, h2, h3⟩
theorem MV.below (h : MV w b n f) (hb : Below w.heap.size w w') : MV w' b n f := h.kept (row := none) ⟨hb.os, hb.tape, hb.output, hb.size, fun k hk _ => hb.block k hk⟩ (by simp)
theorem MV.lt (h : MV w b n f) : b < w.heap.size := by obtain ⟨D, h1, _⟩ := h.ex; exact h1.lt
theorem MV.mono (h : MV w b n f) {m : Nat} (hm : n ≤ m) : MV w b m f := by obtain ⟨D, h1, h2⟩ := h.ex; exact ⟨D, h1.mono hm, h2⟩
theorem MV.look (h : MV w b n f) (x : ByteArray) (hx : x.size ≤ maxLen) : (Instr.lookup 103 (.map (some b)) (.string x) false).run Tryz.prog w = .ok (.int .i64 (f x)) w := by
  obtain ⟨D, h1, _, h3⟩ := h.ex; rw [← h3]; exact look_any h1 x hx
set_option maxRecDepth 100000 in
theorem MV.put (h : MV w b n f) (hn : n ≤ 1000000000) (x : ByteArray) (hx : x.size ≤ maxLen) (c : Int) (hc : (Lit.int .i64 c).wf = true) :
    ∃ w', (Instr.mapUpdate 103 (.map (some b)) (.string x) (.int .i64 c)).run Tryz.prog w = .ok () w' ∧ MV w' b (n + 1) (upd f x c) ∧ w.grownBy w' (some b) := by
  obtain ⟨D, h1, h2, h3⟩ := h.ex
  obtain ⟨w', hrun, hown, hg⟩ := h1.update law9 Tryz.underlying103 (by unfold maxLen; omega) (keyOf_string_mk Tryz.underlying9 hx) (plainElem_int Tryz.underlying3 hc)
  refine ⟨w', hrun, ⟨_, hown, h2.put _ _, fun k => ?_⟩, hg⟩
  by_cases e : k = x
  · subst e; rw [upd_same]; exact mv_put_same h2 k c
  · rw [upd_other _ _ e, ← h3]; exact mv_put_other e c
end
theorem wf_of {c : Int} (h : valB c = true) : (Lit.int .i64 c).wf = true := WalkArith.wf_i64 (by have := valB_iff.1 h; omega)
/-- the list of a map with the values of a valid store is that store -/
theorem lists_eq {D : DataW Unit} {l m : List Pr} (hL : Lists D l) (hm : Ok m) (h : ∀ k, mv D k = valOf m k) : l = m := by
  have hin : ∀ p ∈ l, ∃ q ∈ m, q.1 = p.1 ∧ q.2 = p.2 := fun p hp => by
    have h1 : valOf m p.1 = p.2 := by rw [← h, ← hL.val, valOf_mem hL.srt hp]
    obtain ⟨q, hq, e⟩ := valOf_ne (l := m) (k := p.1) (by rw [h1]; exact hL.nz p hp)
    exact ⟨q, hq, e, by rw [← h1, ← e, valOf_mem hm.srt hq]⟩
  have hl : Ok l := ⟨hL.srt, fun p hp => by obtain ⟨q, hq, e, _⟩ := hin p hp; rw [← e]; exact hm.key q hq, fun p hp => by obtain ⟨q, hq, _, e⟩ := hin p hp; rw [← e]; exact hm.val q hq, hL.nz⟩
  exact hl.ext hm fun k => by rw [hL.val, h]
/-- Of and List, in these words -/
theorem of_mv (A : Option Addr) (c : Nat) (l : List Pr) (w : World) (hA : SV w A c l) (h : Ok l) : Calls Tryz.prog 49 #[.slice A l.length c] w fun e w' => ∃ b, e = .returned (.map (some b)) ∧ MV w' b l.length (valOf l) ∧ Below w.heap.size w w' := by
  refine (of_any A c l w hA.ps (by have := h.small; omega) h.rd).mono ?_
  rintro e w' ⟨b, D, rfl, hown, hIM, hmv, _, hb⟩
  exact ⟨b, rfl, ⟨D, hown, hIM, fun k => by rw [hmv, lastV_eq h.srt]⟩, hb⟩
theorem list_mv (b n : Nat) (f : VF) (m : List Pr) (w : World) (hM : MV w b n f) (hn : n ≤ 1000000000) (hm : Ok m) (hv : valOf m = f) : Calls Tryz.prog 64 #[.map (some b)] w fun e w' => ∃ A c, e = .returned (.slice A m.length c) ∧ SV w' A c m ∧ Below w.heap.size w w' := by
  obtain ⟨D, hown, hIM, hmv⟩ := hM.ex
  have := hown.size_le
  refine (list_any b n D w hown (by omega)).mono ?_
  rintro e w' ⟨A, c, l, rfl, hsv, hli, _, hb⟩
  obtain rfl := lists_eq hli hm (fun k => by rw [hmv, hv])
  exact ⟨A, c, rfl, hsv, hb⟩
end Go.Proofs.YtefdipjhjgmokaaGreatDoor
