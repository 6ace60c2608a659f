/-
  roref.Owned: the values whose keys belong to an owner.
  roref.Names: the keys of a set in order.
  Is a number in a list (no program in it).
-/
import Derived.Test.YtpefdonhacmaoaaGreatDoorBd33
import Derived.Test.YtpefdonhacmaoaaGreatDoorBd37
import Derived.Test.YtpefdonhacmaoaaGreatDoorBd27
import Derived.Test.YtpefdonhacmaoaaGreatDoorBd34
import Derived.Test.YtpefdonhacmaoaaGreatDoorBd25
import Derived.Maps.RangeWalk
import Derived.Sort.KeysCollected
import Derived.Sort.OwnSorted
import Derived.Test.YtpefdonhacmaoaaGreatDoorBd1
set_option linter.unusedVariables false
set_option linter.unusedSimpArgs false
namespace Go.Proofs.YtpefdonhacmaoaaGreatDoor
open Go.RowKit Go.WideMaps Go.Maps

/-- whose a key is decides -/
def ownF (cs : List ByteArray) (os : List Int) (n : Int) (f : VF) : VF := fun k => if whV cs os k = n then f k else 0
/-- while the values are picked -/
def OwnInv (w : World) (m : Mp) (o : Int) (b it bo n : Nat) (D : DataW Unit) (wr : World) : Prop :=
  ∃ (left : Lit → Bool) (cnt q : Nat) (g : VF), wr.ranges Tryz.prog 9 (plainElem Tryz.prog 3) b it n D left cnt ∧ MV wr bo q g ∧ (∀ k, g k = if left (kl k) = false ∧ whV m.cs m.os k = o then mv D k else 0) ∧ q + cnt ≤ Maps.size D ∧ MH w w.heap.size m wr

set_option maxRecDepth 100000 in
set_option maxHeartbeats 4000000 in
theorem rowned_any (m : Mp) (b n : Nat) (f : VF) (o : Int) (w : World) (hM : MV w b n f) (hn : n ≤ 500000000) (hm : MS w m) (hok : OkM m.cs m.os) :
    Calls Tryz.prog 28 #[.agg #[.slice m.A m.cs.length m.ca, .slice m.O m.os.length m.co], .map (some b), .int .i64 o] w fun e w' => ∃ bo, e = .returned (.map (some bo)) ∧ MV w' bo n (ownF m.cs m.os o f) ∧ Below w.heap.size w w' := by
  have hmm := @run_makeMap Tryz.prog
  have hbl := hM.lt
  obtain ⟨D, hown, hIM, hmv⟩ := hM.ex
  have hsd := hown.size_le
  have hH0 := MH.new hm
  have HW := hideP (fun (key : ByteArray) (W : World) (h : MS W m) => rwhose_any m key W h hok)
  go_enter Tryz.func28, Tryz.ntmps28
  go_wp2_with (first
    | (at_range; refine wpList_range_own _ rfl _ 38 rfl 9 3 law9 Tryz.underlying38 _ b n _ rfl ((hown.alloc _).alloc _) ?_; intro w0 hrg0 hg0 hs0)
    | go_in)
  go_frame
  have e1 : ((w.alloc (.cells #[.slice m.A m.cs.length m.ca, .slice m.O m.os.length m.co] 25)).alloc (.map #[] 0)).heap.size = w.heap.size + 1 + 1 := by simp
  rw [e1] at hrg0 hs0 ⊢
  have hbA : Below w.heap.size w ((w.alloc (.cells #[.slice m.A m.cs.length m.ca, .slice m.O m.os.length m.co] 25)).alloc (.map #[] 0)) := ((Below.refl _ w).alloc (Nat.le_refl _) _).alloc (by simp) _
  have hb0 : Below w.heap.size w w0 := hbA.grown hg0 hbA.size (fun j hj => by cases hj)
  have hMo : MV w0 (w.heap.size + 1) 0 (fun _ => 0) := by
    have h1 := World.ownsMap_made (H := Unit) (w.alloc (.cells #[.slice m.A m.cs.length m.ca, .slice m.O m.os.length m.co] 25)) Tryz.prog 9 (plainElem Tryz.prog 3)
    rw [World.size_alloc] at h1
    exact MV.kept ⟨.map [], h1, isMap_empty, fun k => mv_empty k⟩ hg0 (by simp)
  have hH : MH w w.heap.size m w0 := ⟨(hH0.x0.alloc _).grown hg0 (by simp), hm.below hb0, hb0⟩
  have hs1 : w0.heap.size = w.heap.size + 3 := by omega
  clear hg0 hs0 e1 hbA hown hH0
  go_loopw [] (fun wr => OwnInv w m o b (w.heap.size + 1 + 1) (w.heap.size + 1) n D wr ∧ w.heap.size + 3 ≤ wr.heap.size) (fun wr => wr.rangeLeft b (w.heap.size + 1 + 1))
  case atStart => exact ⟨⟨_, _, 0, _, hrg0, hMo, (fun k => by
      by_cases h : Maps.has D (kl k) = false ∧ whV m.cs m.os k = o
      · rw [if_pos h, mv_none h.1]
      · rw [if_neg h]), by simp, hH⟩, by omega⟩
  case round =>
    obtain ⟨⟨left, cnt, q, g, hrg, hMr, hgk, hmc, hHr⟩, hsz⟩ := hrel
    have HGK := hideP hgk
    clear hrg0 hMo hb0 hH hs1 hgk
    go_wp2_with (first
      | (at_next; refine wpList_next_ranges _ rfl _ rfl 9 law9 (plainElem Tryz.prog 3) Value.string (Value.int .i64) (fun key kl hk => by obtain ⟨x, hx, _⟩ := Maps.keyOf_str Tryz.underlying9 hk; exact ⟨_, hx⟩) (fun v y hv => by obtain ⟨c, rfl, _⟩ := plainElem_int_inv Tryz.underlying3 hv; exact ⟨c, rfl⟩) b (w.heap.size + 1 + 1) n _ _ _ rfl hrg ?_ ?_)
      | go_in)
    · intro hc0 hl0
      have hgf : g = ownF m.cs m.os o f := funext fun k => by
        rw [HGK.out]; unfold ownF
        by_cases h : whV m.cs m.os k = o
        · rw [if_pos ⟨hl0 _, h⟩, if_pos h, hmv]
        · rw [if_neg (fun e => h e.2), if_neg h]
      rw [hgf] at hMr
      have hMn := hMr.mono (show q ≤ n by omega)
      have hbe := hHr.be
      clear HGK hmv hrg hl0 hgf hMr hIM hsd hmc
      go_wp2_with fail
      go_ret
      exact ⟨_, rfl, hMn, hbe⟩
    · intro x cv kl' yd yp w2 cnt2 hkey hlk hv hat hrg2 hlt hg2 hs2 hen
      obtain ⟨x', ex, rfl, hxs⟩ := Maps.keyOf_str Tryz.underlying9 hkey
      obtain rfl : x' = x.data.toList := by unfold encStr at ex; injection ex with ex; rw [ex]
      obtain ⟨c', ec, hyd, hwf⟩ := plainElem_int_inv Tryz.underlying3 hv
      obtain rfl : cv = c' := by injection ec
      have hmvx : mv D x = cv := mv_of (k := x) (fun z => by rw [show kl x = .string x.data.toList from rfl, hat z]; exact congrArg Prod.fst hyd)
      have hM2 := hMr.kept hg2 (by intro e; injection e with e; omega)
      have hb2 : Below w.heap.size w w2 := hHr.be.grown hg2 hHr.be.size (fun j hj => by cases hj; omega)
      have hH2 : MH w w.heap.size m w2 := ⟨hHr.x0.grown hg2 (by intro e; injection e with e; omega), hm.below hb2, hb2⟩
      have hxm : x.size ≤ maxLen := by simpa using hxs
      have hns : ∀ k, k ≠ x → (kl k).sameKey (kl x) = false := fun k e => by
        cases h : (kl k).sameKey (kl x)
        · rfl
        · exact absurd (same_kl h) e
      have hsz2 : w.heap.size + 3 ≤ w2.heap.size := by have := hg2.size; omega
      have HW2 := hideP (HW.out x)
      have HNS := hideP hns
      have HMX := hideP hmvx
      have HWF := hideP hwf
      clear hkey hv hat ex hyd ec hg2 hs2 hxs hb2 hMr hHr hns hmvx hwf
      obtain ⟨z1, z2⟩ := hH2.c
      go_wp2_with fail
      refine (HW2.out _ hH2.ms).mono ?_
      rintro e w3 ⟨rfl, hb3⟩
      dsimp only
      have hgn : w2.grownBy w3 none := ⟨hb3.os, hb3.tape, hb3.output, hb3.size, fun k hk _ => hb3.block k hk⟩
      have hM3 := hM2.below hb3
      have hH3 := hH2.below hb3
      have hrg3 := hrg2.kept hgn (by simp) (by simp)
      have hsz3 : w.heap.size + 3 ≤ w3.heap.size := Nat.le_trans hsz2 hb3.size
      clear hb3 hgn hM2 hH2 hrg2 hsz2 z1 z2 HW2
      by_cases hwo : whV m.cs m.os x = o
      · have dd : (whV m.cs m.os x == o) = true := by simp [hwo]
        obtain ⟨w4, hrun, hM4, hg4⟩ := hM3.put (by omega) x hxm cv HWF.out
        have hb4 : Below w.heap.size w w4 := hH3.be.grown hg4 hH3.be.size (fun j hj => by cases hj; omega)
        have hH4 : MH w w.heap.size m w4 := ⟨hH3.x0.grown hg4 (by intro e; injection e with e; omega), hm.below hb4, hb4⟩
        have hrg4 := hrg3.kept hg4 (by intro e; injection e with e; omega) (by intro e; injection e with e; omega)
        have HGK2 := hideP (show ∀ k, upd g x cv k = if (left (kl k) && !(kl k).sameKey (kl x)) = false ∧ whV m.cs m.os k = o then mv D k else 0 from fun k => by
          by_cases e : k = x
          · subst e
            rw [upd_same, if_pos ⟨by simp [kl, Lit.sameKey], hwo⟩, HMX.out]
          · rw [upd_other _ _ e, HGK.out, HNS.out k e]; simp)
        have hsz4 : w.heap.size + 3 ≤ w4.heap.size := by have := hg4.size; omega
        clear hM3 hH3 hrg3 hg4 hb4 hsz3 HGK HNS HMX HWF hlk hwo
        go_wp2_with fail
        go_roundw
        case rel => exact ⟨⟨_, cnt2, q + 1, _, hrg4, hM4, HGK2.out, by omega, hH4⟩, hsz4⟩
        case measure => rw [hrg4.left_eq, hrg.left_eq]; exact hlt
      · have dd : (whV m.cs m.os x == o) = false := by simp [hwo]
        have HGK2 := hideP (show ∀ k, g k = if (left (kl k) && !(kl k).sameKey (kl x)) = false ∧ whV m.cs m.os k = o then mv D k else 0 from fun k => by
          by_cases e : k = x
          · subst e
            rw [HGK.out, if_neg (fun e => hwo e.2), if_neg (fun e => hwo e.2)]
          · rw [HGK.out, HNS.out k e]; simp)
        clear HGK HNS HMX HWF hlk hwo
        go_wp2_with fail
        go_roundw
        case rel => exact ⟨⟨_, cnt2, q, _, hrg3, hM3, HGK2.out, by omega, hH3⟩, hsz3⟩
        case measure => rw [hrg3.left_eq, hrg.left_eq]; exact hlt
end Go.Proofs.YtpefdonhacmaoaaGreatDoor

set_option linter.unusedVariables false
set_option linter.unusedSimpArgs false
namespace Go.Proofs.YtpefdonhacmaoaaGreatDoor
open Go.RowKit Go.WideMaps Go.Maps Go.Sort

/-- what has been gathered of a set's keys, while some of it is still to come -/
structure KColl (D : DataW Unit) (left : Lit → Bool) (xs : List ByteArray) : Prop where
  sound : ∀ x ∈ xs, Maps.has D (kl x) = true ∧ left (kl x) = false
  full : ∀ k : ByteArray, left (kl k) = false → Maps.has D (kl k) = true → k ∈ xs
  nodup : xs.Pairwise (fun p q => p ≠ q)
theorem KColl.start (D : DataW Unit) : KColl D (Maps.has D) [] := ⟨by simp, (fun k h1 h2 => by rw [h1] at h2; cases h2), List.Pairwise.nil⟩
theorem KColl.step {D : DataW Unit} {left : Lit → Bool} {xs : List ByteArray} (h : KColl D left xs) {x : ByteArray} (hx : left (kl x) = true) (hh : Maps.has D (kl x) = true) : KColl D (fun z => left z && !z.sameKey (kl x)) (xs ++ [x]) := by
  refine ⟨fun p hp => ?_, fun k h1 h2 => ?_, ?_⟩
  · rcases List.mem_append.1 hp with hp | hp
    · obtain ⟨a, c⟩ := h.sound p hp
      exact ⟨a, by simp [c]⟩
    · simp at hp; subst hp
      exact ⟨hh, by simp [kl, Lit.sameKey]⟩
  · cases hl : left (kl k)
    · exact List.mem_append.2 (.inl (h.full k hl h2))
    · have : (kl k).sameKey (kl x) = true := by simpa [hl] using h1
      obtain rfl := same_kl this
      simp
  · rw [List.pairwise_append]
    refine ⟨h.nodup, by simp, fun p hp q hq e => ?_⟩
    simp at hq; subst hq
    have := (h.sound p hp).2
    rw [e, hx] at this; cases this
theorem KColl.names {D : DataW Unit} {ks : List ByteArray} (hK : KSet D ks) {left : Lit → Bool} {xs : List ByteArray} (h : KColl D left xs) (hl : ∀ z, left z = false) :
    ((xs.map by8).mergeSort fun x y => decide (x ≤ y)).map (fun s => (⟨s.toArray⟩ : ByteArray)) = keysOf ks := by
  have hp : ((xs.map by8).mergeSort fun x y => decide (x ≤ y)).Perm (xs.map by8) := List.mergeSort_perm _ _
  have hmem : ∀ k : ByteArray, k ∈ ((xs.map by8).mergeSort fun x y => decide (x ≤ y)).map (fun s => (⟨s.toArray⟩ : ByteArray)) ↔ k ∈ xs := fun k => by
    constructor
    · intro hk
      obtain ⟨s, hs, rfl⟩ := List.mem_map.1 hk
      obtain ⟨x, hx, rfl⟩ := List.mem_map.1 (hp.mem_iff.1 hs)
      exact hx
    · exact fun hk => List.mem_map.2 ⟨by8 k, hp.mem_iff.2 (List.mem_map.2 ⟨k, hk, rfl⟩), rfl⟩
  refine sorted_ext ?_ (keysOf_sorted _) fun k => ?_
  · rw [List.pairwise_map]
    have hs : ((xs.map by8).mergeSort fun x y => decide (x ≤ y)).Pairwise (fun a b => ¬ b < a) := by
      have := List.pairwise_mergeSort (le := fun x y : List UInt8 => decide (x ≤ y)) (by intro a b c h1 h2; simp at *; exact List.le_trans h1 h2) (by intro a b; simp; exact List.le_total a b) (xs.map by8)
      exact this.imp (by intro a b h; simpa using h)
    have hn : ((xs.map by8).mergeSort fun x y => decide (x ≤ y)).Pairwise (fun a b => a ≠ b) := by
      refine (hp.pairwise_iff (fun {a b} (e : a ≠ b) => Ne.symm e)).2 ?_
      rw [List.pairwise_map]
      exact h.nodup.imp (fun hne e => hne (by8_inj e))
    refine (hs.and hn).imp ?_
    rintro a b ⟨h1, h2⟩
    rw [ltB_iff]
    by_cases h3 : a < b
    · exact h3
    · exact absurd (List.le_antisymm (show a ≤ b from h1) (show b ≤ a from h3)) h2
  · rw [hmem, keysOf_mem, ← hK.has]
    exact ⟨fun hk => (h.sound k hk).1, fun hk => h.full k (hl _) hk⟩
def msort (l : List ByteArray) : List ByteArray := ((l.map by8).mergeSort fun x y => decide (x ≤ y)).map (fun s => (⟨s.toArray⟩ : ByteArray))
theorem msort_len (l : List ByteArray) : (msort l).length = l.length := by unfold msort; simp
theorem ssort_any (B : Nat) (A : Option Addr) (c : Nat) (l : List ByteArray) (w : World) (hO : OR w B 9 A c (l.map Value.string)) (hl : l.length ≤ 1000) :
    Calls Tryz.prog 68 #[.slice A l.length c] w fun e w' => e = .returned (.tuple #[]) ∧ OR w' B 9 A c ((msort l).map Value.string) ∧ w.grownBy w' (blk A) := by
  rcases Nat.eq_zero_or_pos l.length with h0 | h0
  · obtain rfl := List.length_eq_zero_iff.1 h0
    exact (Any.slices_Sort_string_none Tryz.sortS A c w).mono fun e w' ⟨h1, h2⟩ => ⟨h1, by rw [h2, show msort [] = [] from List.length_eq_zero_iff.1 (msort_len [])]; exact hO, by rw [h2]; exact grownBy.rfl_ _ _⟩
  · have hown : w.ownsRow B 9 1 (.slice A l.length c) l.length ((l.map by8).map encStr) := by
      rw [by8_enc]; have := hO; unfold OR at this; rw [List.length_map] at this; exact this
    obtain ⟨g, cap, hv, hBg, hlt, hn, hm, hz, hH⟩ := Lib.holds_of_ownsRow hown (by intro e; injection e with _ e _; omega)
    injection hv with e1 _ e3
    subst e1; subst e3
    have hl8 : (l.map by8).length = l.length := by simp
    obtain ⟨ts, hts⟩ : ∃ ts, ts = (l.map by8).mergeSort fun x y => decide (x ≤ y) := ⟨_, rfl⟩
    have htl : ts.length = l.length := by rw [hts]; simp
    have hsort := Any.slices_Sort_string Tryz.sortS g 0 c (l.map by8) w hH hlt (by omega)
    rw [← hts, hl8] at hsort
    refine hsort.mono ?_
    rintro e w2 ⟨rfl, nn, os, rfl⟩
    refine ⟨rfl, ?_, grownBy_sorted _⟩
    rcases hown.2 with ⟨hv, _⟩ | ⟨g', cap', cur, hv, hbase, hb, h1, h2, h3, h4⟩
    · cases hv
    · injection hv with e1 _ e3
      injection e1 with e1
      injection e1 with e1 _ _
      subst e1; subst e3
      have := ownsRow_sorted (n := nn) (os := os) (ss := l.map by8) (ts := ts) (by omega) hbase hb (by omega) h2 h3
      unfold OR
      rw [List.length_map, msort_len]
      unfold msort
      rw [enc_back, ← hts]
      rw [hl8] at this
      exact this
set_option maxHeartbeats 400000 in
set_option maxRecDepth 100000 in
theorem sortStrings_any (B : Nat) (A : Option Addr) (c : Nat) (l : List ByteArray) (w : World) (hO : OR w B 9 A c (l.map Value.string)) (hl : l.length ≤ 1000) :
    Calls Tryz.prog 45 #[.slice A l.length c] w fun e w' => e = .returned (.tuple #[]) ∧ OR w' B 9 A c ((msort l).map Value.string) ∧ w.grownBy w' (blk A) := by
  go_enter Tryz.func45, Tryz.ntmps45
  go_wp2_with fail
  refine (ssort_any B A c l _ hO hl).mono ?_
  rintro e w' ⟨rfl, h1, h2⟩
  go_wp2_with fail
  go_end0
  exact ⟨rfl, h1, h2⟩
/-- a set's keys in order are handed back -/
def RetNames (w : World) (ks : List ByteArray) (e : Ending) (w' : World) : Prop := ∃ A c, e = .returned (.slice A (keysOf ks).length c) ∧ OR w' w.heap.size 9 A c ((keysOf ks).map Value.string) ∧ Below w.heap.size w w'
def NamesInv (w : World) (b n : Nat) (D : DataW Unit) (s : Value) (wr : World) : Prop :=
  ∃ (left : Lit → Bool) (cnt : Nat) (A : Option Addr) (c : Nat) (xs : List ByteArray), s = .slice A xs.length c ∧ wr.ranges Tryz.prog 9 (plainElem Tryz.prog 4) b w.heap.size n D left cnt ∧ xs.length + cnt ≤ Maps.size D ∧
      OR wr (w.heap.size + 1) 9 A c (xs.map Value.string) ∧ KColl D left xs ∧ w.heap.size + 1 ≤ wr.heap.size ∧ Below w.heap.size w wr

set_option maxRecDepth 100000 in
set_option maxHeartbeats 1000000 in
theorem names_any (b n : Nat) (D : DataW Unit) (ks : List ByteArray) (w : World) (hown : w.ownsMap Tryz.prog 9 (plainElem Tryz.prog 4) b n D) (hK : KSet D ks) (hn : n ≤ 500) :
    Calls Tryz.prog 21 #[.map (some b)] w (RetNames w ks) := by
  have hbl := hown.lt
  have hsd := hown.size_le
  go_enter Tryz.func21, Tryz.ntmps21
  go_wp2_with (first
    | (at_range; refine wpList_range_own _ rfl _ 59 rfl 9 4 law9 Tryz.underlying59 _ b n _ rfl hown ?_; intro w0 hrg0 hg0 hs0)
    | go_in)
  go_frame
  have hb0 : Below w.heap.size w w0 := (Below.refl _ w).grown hg0 (Nat.le_refl _) (fun j hj => by cases hj)
  have hs1 : w.heap.size + 1 ≤ w0.heap.size := by omega
  clear hg0 hs0
  go_loopw [3] (NamesInv w b n D) (fun _ wr => wr.rangeLeft b w.heap.size)
  case atStart => exact ⟨_, _, none, 0, [], rfl, hrg0, by simp, OR.nil _ _ _, KColl.start D, hs1, hb0⟩
  case round =>
    obtain ⟨left, cnt, A, c, xs, rfl, hrg, hcs, hrow, hC, hsz1, hnx⟩ := hrel
    clear hrg0 hb0 hs1
    go_wp2_with (first
      | (at_next; refine wpList_next_ranges _ rfl _ rfl 9 law9 (plainElem Tryz.prog 4) Value.string (fun x : BB => Value.bool x.b) (fun key kl hk => by obtain ⟨x, hx, _⟩ := Maps.keyOf_str Tryz.underlying9 hk; exact ⟨_, hx⟩) (fun v y hv => by obtain ⟨c, rfl, _⟩ := plainElem_bool_inv Tryz.underlying4 hv; exact ⟨⟨c⟩, rfl⟩) b w.heap.size n _ _ _ rfl hrg ?_ ?_)
      | go_in)
    · intro hc0 hl0
      have hN := hideP (hC.names hK hl0)
      have hsort := sortStrings_any (w.heap.size + 1) A c xs wr hrow (by omega)
      clear hC hrg
      go_wp2_with fail
      refine hsort.mono ?_
      rintro e w' ⟨rfl, ho, hg⟩
      have hb' : Below w.heap.size w w' := hnx.grown hg hnx.size (fun j hj => by have := (World.ownsRow.lt hrow j (by rw [ownBlock_slice]; exact hj)).1; omega)
      have hlen := msort_len xs
      rw [show msort xs = keysOf ks from hN.out] at ho hlen
      rw [← hlen]
      have ho' := ho.mono (Nat.le_succ w.heap.size)
      clear hsort ho hg hN hlen
      go_wp2_with fail
      go_ret
      exact ⟨A, c, rfl, ho', hb'⟩
    · intro x c' kl' yd yp w2 cnt2 hkey hlk hv hat hrg2 hlt hg2 hs2 hen
      obtain ⟨x', ex, rfl, _⟩ := Maps.keyOf_str Tryz.underlying9 hkey
      obtain rfl : x' = x.data.toList := by unfold encStr at ex; injection ex with ex; rw [ex]
      have hhas : Maps.has D (kl x) = true := has_true_of_atKey (k := kl x) hat
      have HC := hideP (hC.step (x := x) hlk hhas)
      have hrow2 : OR w2 (w.heap.size + 1) 9 A c (xs.map Value.string) := World.ownsRow.kept hrow hg2 (Or.inr (fun e => by have := (World.ownsRow.lt hrow _ e).1; omega))
      have hnx2 : Below w.heap.size w w2 := hnx.grown hg2 hnx.size (fun j hj => by cases hj; omega)
      have hsz2 : w.heap.size + 1 ≤ w2.heap.size := by omega
      clear hs2 hkey hv hat ex hg2 hnx hrow hC hlk hhas
      obtain ⟨A3, c3, w3, hrun, hor3, hbel, hgr, h5⟩ := app_row (P := Tryz.prog) Tryz.underlying22 strInfo rfl w2 (w.heap.size + 1) 22 A c _ hrow2 [.string x] (by simp [Value.oneCell']) (by simp; omega) (by decide) hsz2
      have hm : xs.map Value.string ++ [Value.string x] = (xs ++ [x]).map Value.string := by simp
      rw [hm] at hrun hor3
      simp only [List.length_map] at hrun
      have HR := hideP hrun
      have hnx3 : Below w.heap.size w w3 := hbel w.heap.size w (Nat.le_succ _) hnx2
      have hrow2' := World.ownsRow.alloc hrow2 (.cells #[.string x] 9)
      have hrg3 := (hrg2.alloc (.cells #[.string x] 9)).kept hgr (fun e => by have := (World.ownsRow.lt hrow2 _ e.symm).1; omega) (fun e => by have := (World.ownsRow.lt hrow2 _ e.symm).1; omega)
      have hsz3 : w.heap.size + 1 ≤ w3.heap.size := by have := hgr.size; simp at this; omega
      clear hrun hgr hbel h5 hrow2 hrow2' hm
      go_wp2_with (at_builtin; refine Lib.wpList_append_run _ rfl _ _ _ _ rfl _ _ rfl rfl _ _ HR.out ?_)
      go_roundw
      case rel => exact ⟨_, cnt2, A3, c3, xs ++ [x], by simp, hrg3, by simp; omega, hor3, HC.out, hsz3, hnx3⟩
      case measure => rw [hrg3.left_eq, hrg.left_eq]; exact hlt
end Go.Proofs.YtpefdonhacmaoaaGreatDoor

set_option linter.unusedVariables false
set_option linter.unusedSimpArgs false
namespace Go.Proofs.YtpefdonhacmaoaaGreatDoor

/-- is a number in a list? -/
def inI (z : Int) (l : List Int) : Bool := l.any fun x => decide (x = z)
theorem inI_iff {z : Int} {l : List Int} : inI z l = true ↔ z ∈ l := by simp [inI]
theorem inI_no {z : Int} {l : List Int} : inI z l = false ↔ z ∉ l := by rw [← Bool.not_eq_true, inI_iff]
end Go.Proofs.YtpefdonhacmaoaaGreatDoor
