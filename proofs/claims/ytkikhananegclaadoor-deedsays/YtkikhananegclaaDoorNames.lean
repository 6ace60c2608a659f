/-
  roref.Names: the keys of a set in order.
-/
import Derived.Test.YtkikhananegclaaDoorTouch
import Derived.Test.YtkikhananegclaaDoorDSort
set_option linter.unusedVariables false
set_option linter.unusedSimpArgs false
namespace Go.Proofs.YtkikhananegclaaDoor
open Go.RowKit Go.WideMaps Go.Maps Go.Sort

structure BB where
  b : Bool
/-- what has been gathered of a set's keys, while some of it is still to come -/
structure KColl (D : DataW Unit) (left : Lit → Bool) (xs : List ByteArray) : Prop where
  sound : ∀ x ∈ xs, Maps.has D (kl x) = true ∧ left (kl x) = false
  full : ∀ k : ByteArray, left (kl k) = false → Maps.has D (kl k) = true → k ∈ xs
  nodup : xs.Pairwise (fun p q => p ≠ q)
theorem KColl.start (D : DataW Unit) : KColl D (Maps.has D) [] := ⟨by simp, (fun k h1 h2 => by rw [h1] at h2; cases h2), List.Pairwise.nil⟩
theorem KColl.step {D : DataW Unit} {left : Lit → Bool} {xs : List ByteArray} (h : KColl D left xs) {x : ByteArray} (hx : left (kl x) = true) (hh : Maps.has D (kl x) = true) : KColl D (fun z => left z && !z.sameKey (kl x)) (xs ++ [x]) := by
  refine ⟨fun p hp => ?_, fun k h1 h2 => ?_, ?_⟩
  · rcases List.mem_append.1 hp with hp | hp
    · obtain ⟨a, c⟩ := h.sound p hp
      exact ⟨a, by simp [c]⟩
    · simp at hp; subst hp
      exact ⟨hh, by simp [kl, Lit.sameKey]⟩
  · cases hl : left (kl k)
    · exact List.mem_append.2 (.inl (h.full k hl h2))
    · have : (kl k).sameKey (kl x) = true := by simpa [hl] using h1
      obtain rfl := same_kl this
      simp
  · rw [List.pairwise_append]
    refine ⟨h.nodup, by simp, fun p hp q hq e => ?_⟩
    simp at hq; subst hq
    have := (h.sound p hp).2
    rw [e, hx] at this; cases this
theorem KColl.names {D : DataW Unit} {ks : List ByteArray} (hK : KSet D ks) {left : Lit → Bool} {xs : List ByteArray} (h : KColl D left xs) (hl : ∀ z, left z = false) :
    ((xs.map by8).mergeSort fun x y => decide (x ≤ y)).map (fun s => (⟨s.toArray⟩ : ByteArray)) = keysOf ks := by
  have hp : ((xs.map by8).mergeSort fun x y => decide (x ≤ y)).Perm (xs.map by8) := List.mergeSort_perm _ _
  have hmem : ∀ k : ByteArray, k ∈ ((xs.map by8).mergeSort fun x y => decide (x ≤ y)).map (fun s => (⟨s.toArray⟩ : ByteArray)) ↔ k ∈ xs := fun k => by
    constructor
    · intro hk
      obtain ⟨s, hs, rfl⟩ := List.mem_map.1 hk
      obtain ⟨x, hx, rfl⟩ := List.mem_map.1 (hp.mem_iff.1 hs)
      exact hx
    · exact fun hk => List.mem_map.2 ⟨by8 k, hp.mem_iff.2 (List.mem_map.2 ⟨k, hk, rfl⟩), rfl⟩
  refine sorted_ext ?_ (keysOf_sorted _) fun k => ?_
  · rw [List.pairwise_map]
    have hs : ((xs.map by8).mergeSort fun x y => decide (x ≤ y)).Pairwise (fun a b => ¬ b < a) := by
      have := List.pairwise_mergeSort (le := fun x y : List UInt8 => decide (x ≤ y)) (by intro a b c h1 h2; simp at *; exact List.le_trans h1 h2) (by intro a b; simp; exact List.le_total a b) (xs.map by8)
      exact this.imp (by intro a b h; simpa using h)
    have hn : ((xs.map by8).mergeSort fun x y => decide (x ≤ y)).Pairwise (fun a b => a ≠ b) := by
      refine (hp.pairwise_iff (fun {a b} (e : a ≠ b) => Ne.symm e)).2 ?_
      rw [List.pairwise_map]
      exact h.nodup.imp (fun hne e => hne (by8_inj e))
    refine (hs.and hn).imp ?_
    rintro a b ⟨h1, h2⟩
    rw [ltB_iff]
    by_cases h3 : a < b
    · exact h3
    · exact absurd (List.le_antisymm (show a ≤ b from h1) (show b ≤ a from h3)) h2
  · rw [hmem, keysOf_mem, ← hK.has]
    exact ⟨fun hk => (h.sound k hk).1, fun hk => h.full k (hl _) hk⟩
def msort (l : List ByteArray) : List ByteArray := ((l.map by8).mergeSort fun x y => decide (x ≤ y)).map (fun s => (⟨s.toArray⟩ : ByteArray))
theorem msort_len (l : List ByteArray) : (msort l).length = l.length := by unfold msort; simp
theorem ssort_any (B : Nat) (A : Option Addr) (c : Nat) (l : List ByteArray) (w : World) (hO : OR w B 9 A c (l.map Value.string)) (hl : l.length ≤ 1000) :
    Calls Tryd.prog 38 #[.slice A l.length c] w fun e w' => e = .returned (.tuple #[]) ∧ OR w' B 9 A c ((msort l).map Value.string) ∧ w.grownBy w' (blk A) := by
  rcases Nat.eq_zero_or_pos l.length with h0 | h0
  · obtain rfl := List.length_eq_zero_iff.1 h0
    exact (Any.slices_Sort_string_none Tryd.sortS A c w).mono fun e w' ⟨h1, h2⟩ => ⟨h1, by rw [h2, show msort [] = [] from List.length_eq_zero_iff.1 (msort_len [])]; exact hO, by rw [h2]; exact grownBy.rfl_ _ _⟩
  · have hown : w.ownsRow B 9 1 (.slice A l.length c) l.length ((l.map by8).map encStr) := by
      rw [by8_enc]; have := hO; unfold OR at this; rw [List.length_map] at this; exact this
    obtain ⟨g, cap, hv, hBg, hlt, hn, hm, hz, hH⟩ := Lib.holds_of_ownsRow hown (by intro e; injection e with _ e _; omega)
    injection hv with e1 _ e3
    subst e1; subst e3
    have hl8 : (l.map by8).length = l.length := by simp
    obtain ⟨ts, hts⟩ : ∃ ts, ts = (l.map by8).mergeSort fun x y => decide (x ≤ y) := ⟨_, rfl⟩
    have htl : ts.length = l.length := by rw [hts]; simp
    have hsort := Any.slices_Sort_string Tryd.sortS g 0 c (l.map by8) w hH hlt (by omega)
    rw [← hts, hl8] at hsort
    refine hsort.mono ?_
    rintro e w2 ⟨rfl, nn, os, rfl⟩
    refine ⟨rfl, ?_, grownBy_sorted _⟩
    rcases hown.2 with ⟨hv, _⟩ | ⟨g', cap', cur, hv, hbase, hb, h1, h2, h3, h4⟩
    · cases hv
    · injection hv with e1 _ e3
      injection e1 with e1
      injection e1 with e1 _ _
      subst e1; subst e3
      have := ownsRow_sorted (n := nn) (os := os) (ss := l.map by8) (ts := ts) (by omega) hbase hb (by omega) h2 h3
      unfold OR
      rw [List.length_map, msort_len]
      unfold msort
      rw [enc_back, ← hts]
      rw [hl8] at this
      exact this
set_option maxHeartbeats 400000 in
set_option maxRecDepth 100000 in
theorem sortStrings_any (B : Nat) (A : Option Addr) (c : Nat) (l : List ByteArray) (w : World) (hO : OR w B 9 A c (l.map Value.string)) (hl : l.length ≤ 1000) :
    Calls Tryd.prog 32 #[.slice A l.length c] w fun e w' => e = .returned (.tuple #[]) ∧ OR w' B 9 A c ((msort l).map Value.string) ∧ w.grownBy w' (blk A) := by
  go_enter Tryd.func32, Tryd.ntmps32
  go_wp2_with fail
  refine (ssort_any B A c l _ hO hl).mono ?_
  rintro e w' ⟨rfl, h1, h2⟩
  go_wp2_with fail
  go_end0
  exact ⟨rfl, h1, h2⟩
/-- a set's keys in order are handed back -/
def RetNames (w : World) (ks : List ByteArray) (e : Ending) (w' : World) : Prop := ∃ A c, e = .returned (.slice A (keysOf ks).length c) ∧ OR w' w.heap.size 9 A c ((keysOf ks).map Value.string) ∧ Below w.heap.size w w'
def NamesInv (w : World) (b n : Nat) (D : DataW Unit) (s : Value) (wr : World) : Prop :=
  ∃ (left : Lit → Bool) (cnt : Nat) (A : Option Addr) (c : Nat) (xs : List ByteArray), s = .slice A xs.length c ∧ wr.ranges Tryd.prog 9 (plainElem Tryd.prog 4) b w.heap.size n D left cnt ∧ xs.length + cnt ≤ Maps.size D ∧
      OR wr (w.heap.size + 1) 9 A c (xs.map Value.string) ∧ KColl D left xs ∧ w.heap.size + 1 ≤ wr.heap.size ∧ Below w.heap.size w wr

set_option maxRecDepth 100000 in
set_option maxHeartbeats 1000000 in
theorem names_any (b n : Nat) (D : DataW Unit) (ks : List ByteArray) (w : World) (hown : w.ownsMap Tryd.prog 9 (plainElem Tryd.prog 4) b n D) (hK : KSet D ks) (hn : n ≤ 500) :
    Calls Tryd.prog 11 #[.map (some b)] w (RetNames w ks) := by
  have hbl := hown.lt
  have hsd := hown.size_le
  go_enter Tryd.func11, Tryd.ntmps11
  go_wp2_with (first
    | (at_range; refine wpList_range_own _ rfl _ 32 rfl 9 4 law9 Tryd.underlying32 _ b n _ rfl hown ?_; intro w0 hrg0 hg0 hs0)
    | go_in)
  go_frame
  have hb0 : Below w.heap.size w w0 := (Below.refl _ w).grown hg0 (Nat.le_refl _) (fun j hj => by cases hj)
  have hs1 : w.heap.size + 1 ≤ w0.heap.size := by omega
  clear hg0 hs0
  go_loopw [3] (NamesInv w b n D) (fun _ wr => wr.rangeLeft b w.heap.size)
  case atStart => exact ⟨_, _, none, 0, [], rfl, hrg0, by simp, OR.nil _ _ _, KColl.start D, hs1, hb0⟩
  case round =>
    obtain ⟨left, cnt, A, c, xs, rfl, hrg, hcs, hrow, hC, hsz1, hnx⟩ := hrel
    clear hrg0 hb0 hs1
    go_wp2_with (first
      | (at_next; refine wpList_next_ranges _ rfl _ rfl 9 law9 (plainElem Tryd.prog 4) Value.string (fun x : BB => Value.bool x.b) (fun key kl hk => by obtain ⟨x, hx, _⟩ := Maps.keyOf_str Tryd.underlying9 hk; exact ⟨_, hx⟩) (fun v y hv => by obtain ⟨c, rfl, _⟩ := plainElem_bool_inv Tryd.underlying4 hv; exact ⟨⟨c⟩, rfl⟩) b w.heap.size n _ _ _ rfl hrg ?_ ?_)
      | go_in)
    · intro hc0 hl0
      have hN := hideP (hC.names hK hl0)
      have hsort := sortStrings_any (w.heap.size + 1) A c xs wr hrow (by omega)
      clear hC hrg
      go_wp2_with fail
      refine hsort.mono ?_
      rintro e w' ⟨rfl, ho, hg⟩
      have hb' : Below w.heap.size w w' := hnx.grown hg hnx.size (fun j hj => by have := (World.ownsRow.lt hrow j (by rw [ownBlock_slice]; exact hj)).1; omega)
      have hlen := msort_len xs
      rw [show msort xs = keysOf ks from hN.out] at ho hlen
      rw [← hlen]
      have ho' := ho.mono (Nat.le_succ w.heap.size)
      clear hsort ho hg hN hlen
      go_wp2_with fail
      go_ret
      exact ⟨A, c, rfl, ho', hb'⟩
    · intro x c' kl' yd yp w2 cnt2 hkey hlk hv hat hrg2 hlt hg2 hs2 hen
      obtain ⟨x', ex, rfl, _⟩ := Maps.keyOf_str Tryd.underlying9 hkey
      obtain rfl : x' = x.data.toList := by unfold encStr at ex; injection ex with ex; rw [ex]
      have hhas : Maps.has D (kl x) = true := has_true_of_atKey (k := kl x) hat
      have HC := hideP (hC.step (x := x) hlk hhas)
      have hrow2 : OR w2 (w.heap.size + 1) 9 A c (xs.map Value.string) := World.ownsRow.kept hrow hg2 (Or.inr (fun e => by have := (World.ownsRow.lt hrow _ e).1; omega))
      have hnx2 : Below w.heap.size w w2 := hnx.grown hg2 hnx.size (fun j hj => by cases hj; omega)
      have hsz2 : w.heap.size + 1 ≤ w2.heap.size := by omega
      clear hs2 hkey hv hat ex hg2 hnx hrow hC hlk hhas
      obtain ⟨A3, c3, w3, hrun, hor3, hbel, hgr, h5⟩ := app_row (P := Tryd.prog) Tryd.underlying25 strInfo rfl w2 (w.heap.size + 1) 25 A c _ hrow2 [.string x] (by simp [Value.oneCell']) (by simp; omega) (by decide) hsz2
      have hm : xs.map Value.string ++ [Value.string x] = (xs ++ [x]).map Value.string := by simp
      rw [hm] at hrun hor3
      simp only [List.length_map] at hrun
      have HR := hideP hrun
      have hnx3 : Below w.heap.size w w3 := hbel w.heap.size w (Nat.le_succ _) hnx2
      have hrow2' := World.ownsRow.alloc hrow2 (.cells #[.string x] 9)
      have hrg3 := (hrg2.alloc (.cells #[.string x] 9)).kept hgr (fun e => by have := (World.ownsRow.lt hrow2 _ e.symm).1; omega) (fun e => by have := (World.ownsRow.lt hrow2 _ e.symm).1; omega)
      have hsz3 : w.heap.size + 1 ≤ w3.heap.size := by have := hgr.size; simp at this; omega
      clear hrun hgr hbel h5 hrow2 hrow2' hm
      go_wp2_with (at_builtin; refine Lib.wpList_append_run _ rfl _ _ _ _ rfl _ _ rfl rfl _ _ HR.out ?_)
      go_roundw
      case rel => exact ⟨_, cnt2, A3, c3, xs ++ [x], by simp, hrg3, by simp; omega, hor3, HC.out, hsz3, hnx3⟩
      case measure => rw [hrg3.left_eq, hrg.left_eq]; exact hlt
end Go.Proofs.YtkikhananegclaaDoor
