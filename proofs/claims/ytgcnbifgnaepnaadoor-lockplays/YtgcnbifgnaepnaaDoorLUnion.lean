/-
  lock's union: the keys of two lists, sorted and without duplicates.
-/
import Derived.Test.YtgcnbifgnaepnaaDoorSCat
import Derived.Test.YtgcnbifgnaepnaaDoorDSort
set_option linter.unusedVariables false
set_option linter.unusedSimpArgs false
namespace Go.Proofs.YtgcnbifgnaepnaaDoor
open Go.RowKit Go.Sort

set_option maxHeartbeats 1000000 in
set_option maxRecDepth 100000 in
theorem union_any (A1 A2 : Option Addr) (c1 c2 : Nat) (l1 l2 : List ByteArray) (w : World) (p1 : VS w A1 (l1.map Value.string)) (p2 : VS w A2 (l2.map Value.string)) (hl' : l1.length + l2.length ≤ 1000) :
    Calls Tryd.prog 30 #[.slice A1 l1.length c1, .slice A2 l2.length c2] w fun e w' => ∃ A c, e = .returned (.slice A (keysOf (l1 ++ l2)).length c) ∧ OR w' w.heap.size 9 A c ((keysOf (l1 ++ l2)).map Value.string) ∧ Below w.heap.size w w' := by
  go_enter Tryd.func30, Tryd.ntmps30
  go_wp2_with fail
  refine (sconcat2 w w.heap.size rfl A1 A2 _ _ c1 c2 l1 l2 rfl rfl p1 p2 (by omega)).mono ?_
  rintro e w1 ⟨A, c, rfl, hO, hbw⟩
  have hl : (l1 ++ l2).length ≤ 1000 := by simpa using hl'
  clear p1 p2 hl'
  generalize hll : l1 ++ l2 = l at hO hl ⊢
  have HLL := hideP hll
  clear hll
  rcases Nat.eq_zero_or_pos l.length with h0 | h0
  · obtain rfl := List.length_eq_zero_iff.1 h0
    have e0 : keysOf [] = [] := by
      have := keysOf_len []
      exact List.length_eq_zero_iff.1 (by simpa using this)
    have HE := hideP e0
    clear e0
    go_wp2_with fail
    refine (Any.slices_Sort_string_none Tryd.sortS A c _).mono ?_
    rintro e wz ⟨rfl, rfl⟩
    go_wp2_with fail
    refine (Any.slices_Compact_string_empty Tryd.compS A c _).mono ?_
    rintro e wz ⟨rfl, rfl⟩
    go_wp2_with fail
    go_ret
    exact ⟨A, c, by rw [HLL.out, HE.out]; rfl, by rw [HLL.out, HE.out]; exact hO, hbw⟩
  · have hown : w1.ownsRow w.heap.size 9 1 (.slice A l.length c) l.length ((l.map by8).map encStr) := by
      rw [by8_enc]; have := hO; unfold OR at this; rw [List.length_map] at this; exact this
    obtain ⟨g, cap, hv, hBg, hlt, hn, hm, hz, hH⟩ := Lib.holds_of_ownsRow hown (by intro e; injection e with _ e _; omega)
    injection hv with e1 _ e3
    subst e1; subst e3
    have hl8 : (l.map by8).length = l.length := by simp
    obtain ⟨ts, hts⟩ : ∃ ts, ts = (l.map by8).mergeSort fun x y => decide (x ≤ y) := ⟨_, rfl⟩
    have htl : ts.length = l.length := by rw [hts]; simp
    have hsort := Any.slices_Sort_string Tryd.sortS g 0 c (l.map by8) w1 hH hlt (by omega)
    rw [← hts, hl8] at hsort
    have hkey : ∀ nn os, (grow (putRow encStr (Sort.ahead w1 nn) g 0 ts.toArray) os).ownsRow w.heap.size 9 1 (.slice (some ⟨g, 0, none⟩) l.length c) l.length (ts.map encStr) := by
      intro nn os
      rcases hown.2 with ⟨hv, _⟩ | ⟨g', cap', cur, hv, hbase, hb, h1, h2, h3, h4⟩
      · cases hv
      · injection hv with e1 _ e3
        injection e1 with e1
        injection e1 with e1 _ _
        subst e1; subst e3
        have := ownsRow_sorted (n := nn) (os := os) (ss := l.map by8) (ts := ts) (by omega) hbase hb (by omega) h2 h3
        rw [hl8] at this
        exact this
    have HT := hideP hts
    have HK := hideP hkey
    have hne : l.length ≠ 0 := by omega
    clear hts hkey hown hO hH
    go_wp2_with fail
    refine hsort.mono ?_
    rintro e w2 ⟨rfl, nn, os, hw2⟩
    have hown2 := HK.out nn os
    rw [← hw2] at hown2
    have hg2 : w1.grownBy w2 (some g) := by rw [hw2]; exact grownBy_sorted _
    clear hw2
    obtain ⟨g2, cap2, hv2, hBg2, hlt2, hn2, hm2, hz2, hH2⟩ := Lib.holds_of_ownsRow hown2 (by intro e; cases e)
    injection hv2 with e1 _ e3
    injection e1 with e1
    injection e1 with e1 _ _
    subst e1; subst e3
    have hcomp := Any.slices_Compact_string Tryd.compS g 0 c ts w2 hH2 (by omega) (by omega)
    rw [htl] at hcomp
    have hfin := hideP (fun q => Lib.ownsRow_putRow (q := q) (k := (Lib.compact ts).length) (ys := Lib.compact ts ++ List.replicate (l.length - (Lib.compact ts).length) []) hown2 (by have := Lib.compact_length_le ts; simp; omega) (by have := Lib.compact_length_le ts; omega))
    have hkl : keysOf l = (Lib.compact ts).map fun s => ⟨s.toArray⟩ := by rw [HT.out]; rfl
    have HL := hideP hkl
    clear hkl hown2 hH2
    go_wp2_with fail
    refine hcomp.mono ?_
    rintro e w3 ⟨rfl, q, hw3⟩
    have ho3 := hfin.out q
    rw [← hw3, List.take_left] at ho3
    have hg3 : w2.grownBy w3 (some g) := by rw [hw3]; exact grown_putRow _
    clear hw3
    go_wp2_with fail
    go_ret
    refine ⟨some ⟨g, 0, none⟩, c, by rw [HLL.out, HL.out]; simp, ?_, hbw.grown (grownBy.trans_ hg2 hg3) hbw.size (fun k hk => by injection hk with hk; subst hk; exact hBg)⟩
    unfold OR
    rw [HLL.out, HL.out, enc_back, List.length_map]
    exact ho3
end Go.Proofs.YtgcnbifgnaepnaaDoor
