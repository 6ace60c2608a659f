/-
  deed.sorted: keys in order and without duplicates, in the row of the argument.
-/
import Derived.Test.YtpefdonhacmaoaaGreatBo12
import Derived.Test.YtpefdonhacmaoaaGreatBo11
import Derived.Test.YtpefdonhacmaoaaGreatBo13
import Derived.Shelf.Sort.Plain
import Derived.Shelf.Slices.CompactS
import Derived.Shelf.Slices.In.SortNone
import Derived.Sort.OwnSorted
import Derived.Lib.OwnBridge
import Derived.WalkKit
set_option linter.unusedVariables false
set_option linter.unusedSimpArgs false
namespace Go.Proofs.YtpefdonhacmaoaaGreat
open Go.RowKit Go.Sort

theorem by8_enc (l : List ByteArray) : (l.map by8).map encStr = l.map Value.string := Lib.map_encStr l
theorem enc_back (zs : List (List UInt8)) : (zs.map fun s => (⟨s.toArray⟩ : ByteArray)).map Value.string = zs.map encStr := by simp [encStr]
theorem grown_putRow {w : World} {g q : Nat} (d : Array (List UInt8)) : w.grownBy (putRow encStr (Sort.ahead w q) g 0 d) (some g) := by
  refine ⟨rfl, rfl, rfl, by simp [putRow, mapBlock, Sort.ahead], fun k hk hne => ?_⟩
  have : g ≠ k := fun e => hne (by rw [e])
  simp [putRow, mapBlock, Sort.ahead, Array.getElem?_modify, this]
theorem grownBy.trans_ {a b c : World} {row : Option Nat} (h : a.grownBy b row) (k : b.grownBy c row) : a.grownBy c row :=
  ⟨k.os.trans h.os, k.tape.trans h.tape, k.output.trans h.output, Nat.le_trans h.size k.size, fun i hi hne => (k.block i (Nat.lt_of_lt_of_le hi h.size) hne).trans (h.block i hi hne)⟩
theorem grownBy.rfl_ (a : World) (row : Option Nat) : a.grownBy a row := ⟨rfl, rfl, rfl, Nat.le_refl _, fun _ _ _ => rfl⟩

set_option maxHeartbeats 400000 in
set_option maxRecDepth 100000 in
theorem sorted_any (B : Nat) (A : Option Addr) (c : Nat) (l : List ByteArray) (w : World) (hO : OR w B 9 A c (l.map Value.string)) (hl : l.length ≤ 1000) :
    Calls Tryz.prog 77 #[.slice A l.length c] w fun e w' => e = .returned (.slice A (keysOf l).length c) ∧ OR w' B 9 A c ((keysOf l).map Value.string) ∧ w.grownBy w' (blk A) := by
  rcases Nat.eq_zero_or_pos l.length with h0 | h0
  · obtain rfl := List.length_eq_zero_iff.1 h0
    have e0 : keysOf [] = [] := by
      have := keysOf_len []
      exact List.length_eq_zero_iff.1 (by simpa using this)
    have HE := hideP e0
    clear e0
    go_enter Tryz.func77, Tryz.ntmps77
    go_wp2_with fail
    refine (Any.slices_Sort_string_none Tryz.sortS A c _).mono ?_
    rintro e w1 ⟨rfl, rfl⟩
    go_wp2_with fail
    refine (Any.slices_Compact_string_empty Tryz.compS A c _).mono ?_
    rintro e w1 ⟨rfl, rfl⟩
    go_wp2_with fail
    go_ret
    exact ⟨by rw [HE.out]; rfl, by rw [HE.out]; exact hO, grownBy.rfl_ _ _⟩
  · have hown : w.ownsRow B 9 1 (.slice A l.length c) l.length ((l.map by8).map encStr) := by
      rw [by8_enc]; have := hO; unfold OR at this; rw [List.length_map] at this; exact this
    obtain ⟨g, cap, hv, hBg, hlt, hn, hm, hz, hH⟩ := Lib.holds_of_ownsRow hown (by intro e; injection e with _ e _; omega)
    injection hv with e1 _ e3
    subst e1; subst e3
    have hl8 : (l.map by8).length = l.length := by simp
    obtain ⟨ts, hts⟩ : ∃ ts, ts = (l.map by8).mergeSort fun x y => decide (x ≤ y) := ⟨_, rfl⟩
    have htl : ts.length = l.length := by rw [hts]; simp
    have hsort := Any.slices_Sort_string Tryz.sortS g 0 c (l.map by8) w hH hlt (by omega)
    rw [← hts, hl8] at hsort
    have hkey : ∀ nn os, (grow (putRow encStr (Sort.ahead w nn) g 0 ts.toArray) os).ownsRow B 9 1 (.slice (some ⟨g, 0, none⟩) l.length c) l.length (ts.map encStr) := by
      intro nn os
      rcases hown.2 with ⟨hv, _⟩ | ⟨g', cap', cur, hv, hbase, hb, h1, h2, h3, h4⟩
      · cases hv
      · injection hv with e1 _ e3
        injection e1 with e1
        injection e1 with e1 _ _
        subst e1; subst e3
        have := ownsRow_sorted (n := nn) (os := os) (ss := l.map by8) (ts := ts) (by omega) hbase hb (by omega) h2 h3
        rw [hl8] at this
        exact this
    have HT := hideP hts
    have HK := hideP hkey
    have hne : l.length ≠ 0 := by omega
    clear hts hkey hown hO hH
    go_enter Tryz.func77, Tryz.ntmps77
    go_wp2_with fail
    refine hsort.mono ?_
    rintro e w2 ⟨rfl, nn, os, hw2⟩
    have hown2 := HK.out nn os
    rw [← hw2] at hown2
    have hg2 : w.grownBy w2 (some g) := by rw [hw2]; exact grownBy_sorted _
    clear hw2
    obtain ⟨g2, cap2, hv2, hBg2, hlt2, hn2, hm2, hz2, hH2⟩ := Lib.holds_of_ownsRow hown2 (by intro e; cases e)
    injection hv2 with e1 _ e3
    injection e1 with e1
    injection e1 with e1 _ _
    subst e1; subst e3
    have hcomp := Any.slices_Compact_string Tryz.compS g 0 c ts w2 hH2 (by omega) (by omega)
    rw [htl] at hcomp
    have hfin := hideP (fun q => Lib.ownsRow_putRow (q := q) (k := (Lib.compact ts).length) (ys := Lib.compact ts ++ List.replicate (l.length - (Lib.compact ts).length) []) hown2 (by have := Lib.compact_length_le ts; simp; omega) (by have := Lib.compact_length_le ts; omega))
    have hkl : keysOf l = (Lib.compact ts).map fun s => ⟨s.toArray⟩ := by rw [HT.out]; rfl
    have HL := hideP hkl
    clear hkl hown2 hH2
    go_wp2_with fail
    refine hcomp.mono ?_
    rintro e w3 ⟨rfl, q, hw3⟩
    have ho3 := hfin.out q
    rw [← hw3, List.take_left] at ho3
    have hg3 : w2.grownBy w3 (some g) := by rw [hw3]; exact grown_putRow _
    clear hw3
    go_wp2_with fail
    go_ret
    refine ⟨by rw [HL.out]; simp, ?_, grownBy.trans_ hg2 hg3⟩
    unfold OR
    rw [HL.out, enc_back, List.length_map]
    exact ho3
end Go.Proofs.YtpefdonhacmaoaaGreat
