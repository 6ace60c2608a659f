/-
  deed.sorted: keys in order and without duplicates, in the row of the argument.
  deed.Keys.
  slices.Sort and slices.Compact at ints, in the row of the argument.
-/
import Derived.Test.YtmepmiokpcddbabGreatDoorCb23
import Derived.Test.YtmepmiokpcddbabGreatDoorCb2
import Derived.Test.YtmepmiokpcddbabGreatDoorCb4
import Derived.Test.YtmepmiokpcddbabGreatDoorCb31
import Derived.Shelf.Sort.Plain
import Derived.Shelf.Slices.CompactS
import Derived.Shelf.Slices.In.SortNone
import Derived.Sort.OwnSorted
import Derived.Lib.OwnBridge
import Derived.WalkKit
import Derived.Test.YtmepmiokpcddbabGreatDoorCb22
import Derived.Deep.RegionWith
import Derived.Shelf.Slices.CompactI
set_option linter.unusedVariables false
set_option linter.unusedSimpArgs false
namespace Go.Proofs.YtmepmiokpcddbabGreatDoor
open Go.RowKit Go.Sort

theorem by8_enc (l : List ByteArray) : (l.map by8).map encStr = l.map Value.string := Lib.map_encStr l
theorem enc_back (zs : List (List UInt8)) : (zs.map fun s => (⟨s.toArray⟩ : ByteArray)).map Value.string = zs.map encStr := by simp [encStr]
theorem grown_putRow {w : World} {g q : Nat} (d : Array (List UInt8)) : w.grownBy (putRow encStr (Sort.ahead w q) g 0 d) (some g) := by
  refine ⟨rfl, rfl, rfl, by simp [putRow, mapBlock, Sort.ahead], fun k hk hne => ?_⟩
  have : g ≠ k := fun e => hne (by rw [e])
  simp [putRow, mapBlock, Sort.ahead, Array.getElem?_modify, this]
theorem grownBy.trans_ {a b c : World} {row : Option Nat} (h : a.grownBy b row) (k : b.grownBy c row) : a.grownBy c row :=
  ⟨k.os.trans h.os, k.tape.trans h.tape, k.output.trans h.output, Nat.le_trans h.size k.size, fun i hi hne => (k.block i (Nat.lt_of_lt_of_le hi h.size) hne).trans (h.block i hi hne)⟩
theorem grownBy.rfl_ (a : World) (row : Option Nat) : a.grownBy a row := ⟨rfl, rfl, rfl, Nat.le_refl _, fun _ _ _ => rfl⟩

set_option maxHeartbeats 400000 in
set_option maxRecDepth 100000 in
theorem sorted_any (B : Nat) (A : Option Addr) (c : Nat) (l : List ByteArray) (w : World) (hO : OR w B 9 A c (l.map Value.string)) (hl : l.length ≤ 1000) :
    Calls Tryz.prog 128 #[.slice A l.length c] w fun e w' => e = .returned (.slice A (keysOf l).length c) ∧ OR w' B 9 A c ((keysOf l).map Value.string) ∧ w.grownBy w' (blk A) := by
  rcases Nat.eq_zero_or_pos l.length with h0 | h0
  · obtain rfl := List.length_eq_zero_iff.1 h0
    have e0 : keysOf [] = [] := by
      have := keysOf_len []
      exact List.length_eq_zero_iff.1 (by simpa using this)
    have HE := hideP e0
    clear e0
    go_enter Tryz.func128, Tryz.ntmps128
    go_wp2_with fail
    refine (Any.slices_Sort_string_none Tryz.sortS A c _).mono ?_
    rintro e w1 ⟨rfl, rfl⟩
    go_wp2_with fail
    refine (Any.slices_Compact_string_empty Tryz.compS A c _).mono ?_
    rintro e w1 ⟨rfl, rfl⟩
    go_wp2_with fail
    go_ret
    exact ⟨by rw [HE.out]; rfl, by rw [HE.out]; exact hO, grownBy.rfl_ _ _⟩
  · have hown : w.ownsRow B 9 1 (.slice A l.length c) l.length ((l.map by8).map encStr) := by
      rw [by8_enc]; have := hO; unfold OR at this; rw [List.length_map] at this; exact this
    obtain ⟨g, cap, hv, hBg, hlt, hn, hm, hz, hH⟩ := Lib.holds_of_ownsRow hown (by intro e; injection e with _ e _; omega)
    injection hv with e1 _ e3
    subst e1; subst e3
    have hl8 : (l.map by8).length = l.length := by simp
    obtain ⟨ts, hts⟩ : ∃ ts, ts = (l.map by8).mergeSort fun x y => decide (x ≤ y) := ⟨_, rfl⟩
    have htl : ts.length = l.length := by rw [hts]; simp
    have hsort := Any.slices_Sort_string Tryz.sortS g 0 c (l.map by8) w hH hlt (by omega)
    rw [← hts, hl8] at hsort
    have hkey : ∀ nn os, (grow (putRow encStr (Sort.ahead w nn) g 0 ts.toArray) os).ownsRow B 9 1 (.slice (some ⟨g, 0, none⟩) l.length c) l.length (ts.map encStr) := by
      intro nn os
      rcases hown.2 with ⟨hv, _⟩ | ⟨g', cap', cur, hv, hbase, hb, h1, h2, h3, h4⟩
      · cases hv
      · injection hv with e1 _ e3
        injection e1 with e1
        injection e1 with e1 _ _
        subst e1; subst e3
        have := ownsRow_sorted (n := nn) (os := os) (ss := l.map by8) (ts := ts) (by omega) hbase hb (by omega) h2 h3
        rw [hl8] at this
        exact this
    have HT := hideP hts
    have HK := hideP hkey
    have hne : l.length ≠ 0 := by omega
    clear hts hkey hown hO hH
    go_enter Tryz.func128, Tryz.ntmps128
    go_wp2_with fail
    refine hsort.mono ?_
    rintro e w2 ⟨rfl, nn, os, hw2⟩
    have hown2 := HK.out nn os
    rw [← hw2] at hown2
    have hg2 : w.grownBy w2 (some g) := by rw [hw2]; exact grownBy_sorted _
    clear hw2
    obtain ⟨g2, cap2, hv2, hBg2, hlt2, hn2, hm2, hz2, hH2⟩ := Lib.holds_of_ownsRow hown2 (by intro e; cases e)
    injection hv2 with e1 _ e3
    injection e1 with e1
    injection e1 with e1 _ _
    subst e1; subst e3
    have hcomp := Any.slices_Compact_string Tryz.compS g 0 c ts w2 hH2 (by omega) (by omega)
    rw [htl] at hcomp
    have hfin := hideP (fun q => Lib.ownsRow_putRow (q := q) (k := (Lib.compact ts).length) (ys := Lib.compact ts ++ List.replicate (l.length - (Lib.compact ts).length) []) hown2 (by have := Lib.compact_length_le ts; simp; omega) (by have := Lib.compact_length_le ts; omega))
    have hkl : keysOf l = (Lib.compact ts).map fun s => ⟨s.toArray⟩ := by rw [HT.out]; rfl
    have HL := hideP hkl
    clear hkl hown2 hH2
    go_wp2_with fail
    refine hcomp.mono ?_
    rintro e w3 ⟨rfl, q, hw3⟩
    have ho3 := hfin.out q
    rw [← hw3, List.take_left] at ho3
    have hg3 : w2.grownBy w3 (some g) := by rw [hw3]; exact grown_putRow _
    clear hw3
    go_wp2_with fail
    go_ret
    refine ⟨by rw [HL.out]; simp, ?_, grownBy.trans_ hg2 hg3⟩
    unfold OR
    rw [HL.out, enc_back, List.length_map]
    exact ho3
end Go.Proofs.YtmepmiokpcddbabGreatDoor

set_option linter.unusedVariables false
set_option linter.unusedSimpArgs false
namespace Go.Proofs.YtmepmiokpcddbabGreatDoor
open Go.RowKit

/-- two rows of the call's own, apart from each other -/
structure Two (w : World) (B : Nat) (A1 : Option Addr) (c1 : Nat) (xs : List ByteArray) (A2 : Option Addr) (c2 : Nat) (ys : List ByteArray) : Prop where
  o1 : OR w B 9 A1 c1 (xs.map Value.string)
  o2 : OR w B 9 A2 c2 (ys.map Value.string)
  ap : blk A1 = none ∨ blk A1 ≠ blk A2
section
variable {w w' : World} {B : Nat} {A1 A2 : Option Addr} {c1 c2 : Nat} {xs ys : List ByteArray}
theorem Two.symm (h : Two w B A1 c1 xs A2 c2 ys) : Two w B A2 c2 ys A1 c1 xs :=
  ⟨h.o2, h.o1, by
    rcases h.ap with e | e
    · cases h2 : blk A2 with
      | none => exact .inl rfl
      | some k => exact .inr (by rw [e]; simp)
    · exact .inr fun e' => e e'.symm⟩
theorem Two.below (h : Two w B A1 c1 xs A2 c2 ys) (hb : Below w.heap.size w w') : Two w' B A1 c1 xs A2 c2 ys := ⟨h.o1.below hb, h.o2.below hb, h.ap⟩
theorem Two.drew (h : Two w B A1 c1 xs A2 c2 ys) : Two w.drew B A1 c1 xs A2 c2 ys := h.below (Below.refl _ _).drew
theorem Two.mono (h : Two w B A1 c1 xs A2 c2 ys) {B' : Nat} (hB : B' ≤ B) : Two w B' A1 c1 xs A2 c2 ys := ⟨h.o1.mono hB, h.o2.mono hB, h.ap⟩
theorem Two.app (h : Two w B A1 c1 xs A2 c2 ys) (news : List ByteArray) (hl : xs.length + news.length ≤ 1000) (hB : B ≤ w.heap.size) :
    ∃ A' c' w', (∀ ty, (Builtin.append_ #[25, 25] ty #[.slice A1 xs.length c1, .slice (some ⟨w.heap.size, 0, none⟩) news.length news.length]).run Tryz.prog (w.alloc (.cells (news.map Value.string).toArray 9)) = .ok (.slice A' (xs ++ news).length c') w') ∧ Two w' B A' c' (xs ++ news) A2 c2 ys ∧ (∀ B0 a, B0 ≤ B → Below B0 a w → Below B0 a w') ∧ (∀ p v, w.cell? p = some v → some p.block ≠ blk A1 → w'.cell? p = some v) := by
  obtain ⟨A', c', w', hrun, ho, hb, hg, h5⟩ := app_row (P := Tryz.prog) Tryz.underlying25 strInfo rfl w B 0 A1 c1 _ h.o1 (news.map Value.string) (by intro u hu; obtain ⟨s, _, rfl⟩ := List.mem_map.1 hu; rfl) (by simp; omega) (by decide) hB
  rw [ownBlock_slice, ownBlock_slice] at h5
  rw [ownBlock_slice] at hg
  have hk : OR w' B 9 A2 c2 (ys.map Value.string) := World.ownsRow.kept (World.ownsRow.alloc h.o2 _) hg (by rw [ownBlock_slice]; exact h.symm.ap)
  refine ⟨A', c', w', fun ty => ?_, ⟨by rw [List.map_append]; exact ho, hk, ?_⟩, hb, fun p v hp hne => hg.cell ((((Below.refl _ w).alloc (Nat.le_refl _) _).cell (World.block_lt_of_cell? w p hp)).trans hp) hne⟩
  · simp only [List.length_map] at hrun
    rw [← List.map_append, List.length_map] at hrun
    exact hrun
  · rcases h5 with e | e
    · rw [e]; exact h.ap
    · refine .inr fun e2 => ?_
      rw [e] at e2
      have := (World.ownsRow.lt h.o2 (w.heap.size + 1) (by rw [ownBlock_slice]; exact e2.symm)).2
      omega
theorem Two.add (h : Two w B A1 c1 xs A2 c2 ys) (k : ByteArray) (hl : xs.length ≤ 900) (hB : B ≤ w.heap.size) :
    ∃ A' c' w', (∀ ty, (Builtin.append_ #[25, 25] ty #[.slice A1 xs.length c1, .slice (some ⟨w.heap.size, 0, none⟩) 1 1]).run Tryz.prog (w.alloc (.cells #[.string k] 9)) = .ok (.slice A' (xs ++ [k]).length c') w') ∧ Two w' B A' c' (xs ++ [k]) A2 c2 ys ∧ (∀ B0 a, B0 ≤ B → Below B0 a w → Below B0 a w') ∧ (∀ p v, w.cell? p = some v → some p.block ≠ blk A1 → w'.cell? p = some v) :=
  h.app [k] (by simp; omega) hB
theorem Two.add2 (h : Two w B A1 c1 xs A2 c2 ys) (k j : ByteArray) (hl : xs.length ≤ 900) (hB : B ≤ w.heap.size) :
    ∃ A' c' w', (∀ ty, (Builtin.append_ #[25, 25] ty #[.slice A1 xs.length c1, .slice (some ⟨w.heap.size, 0, none⟩) 2 2]).run Tryz.prog (w.alloc (.cells #[.string k, .string j] 9)) = .ok (.slice A' (xs ++ [k, j]).length c') w') ∧ Two w' B A' c' (xs ++ [k, j]) A2 c2 ys ∧ (∀ B0 a, B0 ≤ B → Below B0 a w → Below B0 a w') ∧ (∀ p v, w.cell? p = some v → some p.block ≠ blk A1 → w'.cell? p = some v) :=
  h.app [k, j] (by simp; omega) hB
theorem Two.sorted (h : Two w B A1 c1 xs A2 c2 ys) (hg : w.grownBy w' (blk A1)) {zs : List ByteArray} (ho : OR w' B 9 A1 c1 (zs.map Value.string)) : Two w' B A1 c1 zs A2 c2 ys :=
  ⟨ho, World.ownsRow.kept h.o2 hg (by rw [ownBlock_slice]; exact h.symm.ap), h.ap⟩
end
theorem sorted_two1 (B : Nat) (A1 A2 : Option Addr) (c1 c2 : Nat) (xs ys : List ByteArray) (w : World) (h : Two w B A1 c1 xs A2 c2 ys) (hB : B ≤ w.heap.size) (hl : xs.length ≤ 1000) :
    Calls Tryz.prog 128 #[.slice A1 xs.length c1] w fun e w' => e = .returned (.slice A1 (keysOf xs).length c1) ∧ Two w' B A1 c1 (keysOf xs) A2 c2 ys ∧ Below B w w' ∧ w.heap.size ≤ w'.heap.size :=
  (sorted_any B A1 c1 xs w h.o1 hl).mono fun e w' ⟨h1, h2, h3⟩ => ⟨h1, h.sorted h3 h2, (Below.refl B w).grown h3 hB (fun k hk => (World.ownsRow.lt h.o1 k (by rw [ownBlock_slice]; exact hk)).1), h3.size⟩
theorem sorted_two2 (B : Nat) (A1 A2 : Option Addr) (c1 c2 : Nat) (xs ys : List ByteArray) (w : World) (h : Two w B A1 c1 xs A2 c2 ys) (hB : B ≤ w.heap.size) (hl : ys.length ≤ 1000) :
    Calls Tryz.prog 128 #[.slice A2 ys.length c2] w fun e w' => e = .returned (.slice A2 (keysOf ys).length c2) ∧ Two w' B A1 c1 xs A2 c2 (keysOf ys) ∧ Below B w w' ∧ w.heap.size ≤ w'.heap.size :=
  (sorted_two1 B A2 A1 c2 c1 ys xs w h.symm hB hl).mono fun e w' ⟨h1, h2, h3, h4⟩ => ⟨h1, h2.symm, h3, h4⟩

/-- what Keys hands back -/
def RetKeys (w : World) (d : List Opr) (e : Ending) (w' : World) : Prop :=
  ∃ A1 c1 A2 c2, e = .returned (.tuple #[.slice A1 (keysOf (rdL d)).length c1, .slice A2 (keysOf (wrL d)).length c2, .int .i64 0]) ∧ Two w' w.heap.size A1 c1 (keysOf (rdL d)) A2 c2 (keysOf (wrL d)) ∧ Below w.heap.size w w'
/-- while the keys are gathered -/
def KeysInv (w : World) (d : List Opr) (s x i : Value) (wr : World) : Prop :=
  ∃ (k : Nat) (A1 : Option Addr) (c1 : Nat) (A2 : Option Addr) (c2 : Nat) (rs ws : List ByteArray), k ≤ d.length ∧ i = .int .i64 k ∧ s = .slice A1 rs.length c1 ∧ x = .slice A2 ws.length c2 ∧ rs = rdL (d.take k) ∧ ws = wrL (d.take k) ∧ Two wr w.heap.size A1 c1 rs A2 c2 ws ∧ Below w.heap.size w wr

set_option maxHeartbeats 1000000 in
set_option maxRecDepth 100000 in
theorem keys_ok (D : Option Addr) (cd : Nat) (d : List Opr) (w : World) (hD : OS w w.heap.size D d) (hd : chkD d = 0) :
    Calls Tryz.prog 97 #[.agg #[.slice D d.length cd]] w (RetKeys w d) := by
  obtain ⟨hd1, hd8, hdo⟩ := chkD_zero.1 hd
  have HD := hideP hd
  clear hd
  have hb0 := (Below.refl w.heap.size w).alloc (Nat.le_refl _) (.cells #[.slice D d.length cd] 24)
  go_enter Tryz.func97, Tryz.ntmps97
  go_wp2_with fail
  have hD0 := hD.go hb0
  have hat : (w.alloc (.cells #[.slice D d.length cd] 24)).cell? ⟨w.heap.size, 0, none⟩ = some (.slice D d.length cd) := by simp
  have hlt : w.heap.size < (w.alloc (.cells #[.slice D d.length cd] 24)).heap.size := by simp
  generalize w.alloc (.cells #[.slice D d.length cd] 24) = w0 at hD0 hb0 hat hlt ⊢
  refine (dcheck_any D cd d _ hD0).mono ?_
  rintro e w1 ⟨rfl, hb1⟩
  rw [HD.out]
  have hat1 := (hb1.cell (p := ⟨w.heap.size, 0, none⟩) hlt).trans hat
  have hb2 := hb0.trans (hb1.mono hb0.size)
  clear hD0 hat hlt hb0 hb1
  go_wp2_with fail
  go_loopw [6, 7, 18] (KeysInv w d) (fun _ _ i _ => d.length - (intOf i).toNat)
  case atStart => exact ⟨0, none, 0, none, 0, [], [], Nat.zero_le _, rfl, rfl, rfl, rfl, rfl, ⟨OR.nil _ _ _, OR.nil _ _ _, .inl rfl⟩, hb2⟩
  case round =>
    obtain ⟨k, A1, c1, A2, c2, rs, ws, hk, rfl, rfl, rfl, hrs, hws, hT, hb⟩ := hrel
    have hrl : rs.length ≤ 16 := by rw [hrs]; have := rdL_len (d.take k); simp at this; omega
    have hwl : ws.length ≤ 16 := by rw [hws]; have := wrL_len (d.take k); simp at this; omega
    have HRS := hideP hrs
    have HWS := hideP hws
    clear hrs hws
    by_cases hlt : k < d.length
    · have hchk := chkO_zero.1 (hdo _ (List.getElem_mem hlt))
      obtain ⟨b, o, rfl, hbl, q1, q2, q3, q4⟩ := (hD.below hb) k _ (List.getElem?_eq_getElem hlt)
      have HR := hideP (rdL_take hlt)
      have HW := hideP (wrL_take hlt)
      generalize hgo : d[k] = p at hchk q1 q2 q3 q4
      have HG := hideP hgo
      clear hgo hdo hD hat1 hb2
      obtain ⟨kd, key, src, n⟩ := p
      simp only at hchk q1 q2 q3 q4
      have hk1 := hchk.1
      have hk5 := hchk.2.1
      clear hchk
      have hba := hb.alloc hb.size (.cells #[.int .i64 kd, .string key, .string src, .int .i64 n] 93)
      have hTa := hT.below ((Below.refl _ wr).alloc (Nat.le_refl _) (.cells #[.int .i64 kd, .string key, .string src, .int .i64 n] 93))
      have hsa := hba.size
      have hne1 : some wr.heap.size ≠ blk A1 := fun e => by have := (World.ownsRow.lt hT.o1 wr.heap.size (by rw [ownBlock_slice]; exact e.symm)).2; omega
      have hne2 : some wr.heap.size ≠ blk A2 := fun e => by have := (World.ownsRow.lt hT.o2 wr.heap.size (by rw [ownBlock_slice]; exact e.symm)).2; omega
      clear hT
      rcases (show kd = 1 ∨ kd = 2 ∨ kd = 3 ∨ kd = 4 ∨ kd = 5 by omega) with rfl | rfl | rfl | rfl | rfl
      · have HRd := hideP (show rdL (d.take (k + 1)) = rs ++ rdO ⟨1, key, src, n⟩ by rw [HR.out, HG.out, HRS.out])
        have HWr := hideP (show wrL (d.take (k + 1)) = ws ++ wrO ⟨1, key, src, n⟩ by rw [HW.out, HG.out, HWS.out])
        obtain ⟨B1, e1, w11, hrun1, hT1, hbel1, hcell1⟩ := ((hTa).symm).add key (by omega) hsa
        replace hT1 := hT1.symm
        simp only [World.size_alloc] at hrun1
        have HR1 := hideP hrun1
        have hb1x := hbel1 w.heap.size w (Nat.le_refl _) hba
        have hs1 := hb1x.size
        clear hrun1 hbel1 hcell1
        go_wp2_with (at_builtin; first | refine Lib.wpList_append_run _ rfl _ _ _ _ rfl _ _ rfl rfl _ _ (HR1.out _) ?_)
        go_roundw
        case rel => exact ⟨k + 1, A1, c1, B1, e1, _, _, by omega, by go_num, by simp, by simp, by rw [HRd.out]; simp [rdO], by rw [HWr.out]; simp [wrO], hT1, hb1x⟩
        case measure => simp [intOf]; omega
      · have HRd := hideP (show rdL (d.take (k + 1)) = rs ++ rdO ⟨2, key, src, n⟩ by rw [HR.out, HG.out, HRS.out])
        have HWr := hideP (show wrL (d.take (k + 1)) = ws ++ wrO ⟨2, key, src, n⟩ by rw [HW.out, HG.out, HWS.out])
        obtain ⟨B1, e1, w11, hrun1, hT1, hbel1, hcell1⟩ := (hTa).add key (by omega) hsa
        simp only [World.size_alloc] at hrun1
        have HR1 := hideP hrun1
        have hb1x := hbel1 w.heap.size w (Nat.le_refl _) hba
        have hs1 := hb1x.size
        clear hrun1 hbel1
        have k1 := hcell1 ⟨wr.heap.size, 1, none⟩ (.string key) (by simp) hne1
        have k2 := hcell1 ⟨wr.heap.size, 2, none⟩ (.string src) (by simp) hne1
        clear hcell1
        obtain ⟨B2, e2, w12, hrun2, hT2, hbel2, hcell2⟩ := ((hT1).symm).add key (by omega) hs1
        replace hT2 := hT2.symm
        have HR2 := hideP hrun2
        have hb2x := hbel2 w.heap.size w (Nat.le_refl _) hb1x
        have hs2 := hb2x.size
        clear hrun2 hbel2 hcell2
        go_wp2_with (at_builtin; first | (refine Lib.wpList_append_run _ rfl _ _ _ _ rfl _ _ rfl rfl _ _ (HR1.out _) ?_; clear HR1) | refine Lib.wpList_append_run _ rfl _ _ _ _ rfl _ _ rfl rfl _ _ (HR2.out _) ?_)
        go_roundw
        case rel => exact ⟨k + 1, B1, e1, B2, e2, _, _, by omega, by go_num, by simp, by simp, by rw [HRd.out]; simp [rdO], by rw [HWr.out]; simp [wrO], hT2, hb2x⟩
        case measure => simp [intOf]; omega
      · have HRd := hideP (show rdL (d.take (k + 1)) = rs ++ rdO ⟨3, key, src, n⟩ by rw [HR.out, HG.out, HRS.out])
        have HWr := hideP (show wrL (d.take (k + 1)) = ws ++ wrO ⟨3, key, src, n⟩ by rw [HW.out, HG.out, HWS.out])
        obtain ⟨B1, e1, w11, hrun1, hT1, hbel1, hcell1⟩ := (hTa).add src (by omega) hsa
        simp only [World.size_alloc] at hrun1
        have HR1 := hideP hrun1
        have hb1x := hbel1 w.heap.size w (Nat.le_refl _) hba
        have hs1 := hb1x.size
        clear hrun1 hbel1
        have k1 := hcell1 ⟨wr.heap.size, 1, none⟩ (.string key) (by simp) hne1
        have k2 := hcell1 ⟨wr.heap.size, 2, none⟩ (.string src) (by simp) hne1
        clear hcell1
        obtain ⟨B2, e2, w12, hrun2, hT2, hbel2, hcell2⟩ := ((hT1).symm).add key (by omega) hs1
        replace hT2 := hT2.symm
        have HR2 := hideP hrun2
        have hb2x := hbel2 w.heap.size w (Nat.le_refl _) hb1x
        have hs2 := hb2x.size
        clear hrun2 hbel2 hcell2
        go_wp2_with (at_builtin; first | (refine Lib.wpList_append_run _ rfl _ _ _ _ rfl _ _ rfl rfl _ _ (HR1.out _) ?_; clear HR1) | refine Lib.wpList_append_run _ rfl _ _ _ _ rfl _ _ rfl rfl _ _ (HR2.out _) ?_)
        go_roundw
        case rel => exact ⟨k + 1, B1, e1, B2, e2, _, _, by omega, by go_num, by simp, by simp, by rw [HRd.out]; simp [rdO], by rw [HWr.out]; simp [wrO], hT2, hb2x⟩
        case measure => simp [intOf]; omega
      · have HRd := hideP (show rdL (d.take (k + 1)) = rs ++ rdO ⟨4, key, src, n⟩ by rw [HR.out, HG.out, HRS.out])
        have HWr := hideP (show wrL (d.take (k + 1)) = ws ++ wrO ⟨4, key, src, n⟩ by rw [HW.out, HG.out, HWS.out])
        obtain ⟨B1, e1, w11, hrun1, hT1, hbel1, hcell1⟩ := (hTa).add key (by omega) hsa
        simp only [World.size_alloc] at hrun1
        have HR1 := hideP hrun1
        have hb1x := hbel1 w.heap.size w (Nat.le_refl _) hba
        have hs1 := hb1x.size
        clear hrun1 hbel1 hcell1
        go_wp2_with (at_builtin; first | refine Lib.wpList_append_run _ rfl _ _ _ _ rfl _ _ rfl rfl _ _ (HR1.out _) ?_)
        go_roundw
        case rel => exact ⟨k + 1, B1, e1, A2, c2, _, _, by omega, by go_num, by simp, by simp, by rw [HRd.out]; simp [rdO], by rw [HWr.out]; simp [wrO], hT1, hb1x⟩
        case measure => simp [intOf]; omega
      · have HRd := hideP (show rdL (d.take (k + 1)) = rs ++ rdO ⟨5, key, src, n⟩ by rw [HR.out, HG.out, HRS.out])
        have HWr := hideP (show wrL (d.take (k + 1)) = ws ++ wrO ⟨5, key, src, n⟩ by rw [HW.out, HG.out, HWS.out])
        obtain ⟨B1, e1, w11, hrun1, hT1, hbel1, hcell1⟩ := (hTa).add2 src key (by omega) hsa
        simp only [World.size_alloc] at hrun1
        have HR1 := hideP hrun1
        have hb1x := hbel1 w.heap.size w (Nat.le_refl _) hba
        have hs1 := hb1x.size
        clear hrun1 hbel1
        have k1 := hcell1 ⟨wr.heap.size, 1, none⟩ (.string key) (by simp) hne1
        have k2 := hcell1 ⟨wr.heap.size, 2, none⟩ (.string src) (by simp) hne1
        clear hcell1
        obtain ⟨B2, e2, w12, hrun2, hT2, hbel2, hcell2⟩ := ((hT1).symm).add2 src key (by omega) hs1
        replace hT2 := hT2.symm
        have HR2 := hideP hrun2
        have hb2x := hbel2 w.heap.size w (Nat.le_refl _) hb1x
        have hs2 := hb2x.size
        clear hrun2 hbel2 hcell2
        go_wp2_with (at_builtin; first | (refine Lib.wpList_append_run _ rfl _ _ _ _ rfl _ _ rfl rfl _ _ (HR1.out _) ?_; clear HR1) | refine Lib.wpList_append_run _ rfl _ _ _ _ rfl _ _ rfl rfl _ _ (HR2.out _) ?_)
        go_roundw
        case rel => exact ⟨k + 1, B1, e1, B2, e2, _, _, by omega, by go_num, by simp, by simp, by rw [HRd.out]; simp [rdO], by rw [HWr.out]; simp [wrO], hT2, hb2x⟩
        case measure => simp [intOf]; omega
    · have hall : d.take k = d := List.take_of_length_le (by omega)
      rw [hall] at HRS HWS
      have hsz := hb.size
      go_wp2_with fail
      refine (sorted_two1 _ A1 A2 c1 c2 rs ws _ hT hsz (by omega)).mono ?_
      rintro e w5 ⟨rfl, hT5, hb5, hs5⟩
      have hb6 := hb.trans hb5
      clear hT hb hb5
      go_wp2_with fail
      refine (sorted_two2 _ A1 A2 c1 c2 _ ws _ hT5 (Nat.le_trans hsz hs5) (by omega)).mono ?_
      rintro e w6 ⟨rfl, hT6, hb7, hs6⟩
      have hb8 := hb6.trans hb7
      go_wp2_with fail
      go_ret3
      have e1 : rs = rdL d := HRS.out
      have e2 : ws = wrL d := HWS.out
      rw [e1, e2] at hT6
      exact ⟨A1, c1, A2, c2, by rw [e1, e2]; rfl, hT6, hb8⟩

set_option maxHeartbeats 400000 in
set_option maxRecDepth 100000 in
theorem keys_bad (D : Option Addr) (cd : Nat) (d : List Opr) (w : World) (hD : OS w w.heap.size D d) (hd : chkD d ≠ 0) :
    Calls Tryz.prog 97 #[.agg #[.slice D d.length cd]] w fun e w' => e = .returned (.tuple #[.slice none 0 0, .slice none 0 0, .int .i64 (chkD d)]) ∧ Below w.heap.size w w' := by
  have hb0 := (Below.refl w.heap.size w).alloc (Nat.le_refl _) (.cells #[.slice D d.length cd] 24)
  have hD0 := hD.go hb0
  have d0 : (chkD d != 0) = true := by simp [hd]
  generalize hq : chkD d = q at d0
  have HQ := hideP hq
  clear hq hd
  go_enter Tryz.func97, Tryz.ntmps97
  go_wp2_with fail
  refine (dcheck_any D cd d _ hD0).mono ?_
  rintro e w1 ⟨rfl, hb1⟩
  rw [HQ.out]
  have hb2 := hb0.trans (hb1.mono hb0.size)
  go_wp2_with fail
  go_ret3
  exact ⟨rfl, hb2⟩
end Go.Proofs.YtmepmiokpcddbabGreatDoor

set_option linter.unusedVariables false
set_option linter.unusedSimpArgs false
namespace Go.Proofs.YtmepmiokpcddbabGreatDoor
open Go.RowKit Go.Sort

abbrev encN : Int → Value := Value.int .i64
theorem heap_sortedI {w : World} {g n : Nat} {os : Array Obj} {cur : Array Value} {e : TypeId} {fr : Nat × Nat} (d : Array Int) (hb : w.heap[g]? = some (.cells cur e fr)) :
    (grow (putRow encN (Sort.ahead w n) g 0 d) os).heap[g]? = some (.cells (putCells encN 0 d cur) e fr) := by
  have hg : g < w.heap.size := (Array.getElem?_eq_some_iff.1 hb).1
  rw [heap_grow_old _ _ (by simpa using hg)]
  simp [putRow, mapBlock, Sort.ahead, Array.getElem?_modify, hb, onCells]
theorem grownBy_sortedI {w : World} {g n : Nat} {os : Array Obj} (d : Array Int) : w.grownBy (grow (putRow encN (Sort.ahead w n) g 0 d) os) (some g) := by
  refine ⟨rfl, rfl, rfl, by simp, fun k hk hne => ?_⟩
  rw [heap_grow_old _ _ (by simpa using hk)]
  have : g ≠ k := fun e => hne (by rw [e])
  simp [putRow, mapBlock, Sort.ahead, Array.getElem?_modify, this]
theorem take_putCellsI (cur : Array Value) (ts : List Int) (h : ts.length ≤ cur.size) : (putCells encN 0 ts.toArray cur).toList.take ts.length = ts.map encN := by
  apply List.ext_getElem?
  intro j
  by_cases hj : j < ts.length
  · rw [List.getElem?_take_of_lt hj, Array.getElem?_toList]
    simp [putCells, hj, show j < cur.size by omega]
  · rw [List.getElem?_take_eq_none (by omega), List.getElem?_eq_none (by simp; omega)]
theorem ownsRow_sortedI {w : World} {base g cap n : Nat} {e : TypeId} {os : Array Obj} {cur : Array Value} {k : Nat} {ts : List Int} (hl : ts.length = k) (hbase : base ≤ g) (hb : w.heap[g]? = some (.cells cur e (0, 0)))
    (h1 : k ≤ cap) (h2 : cap ≤ maxLen) (h3 : cur.size = cap * 1) :
    (grow (putRow encN (Sort.ahead w n) g 0 ts.toArray) os).ownsRow base e 1 (.slice (some ⟨g, 0, none⟩) k cap) k (ts.map encN) :=
  ⟨by simp [hl], .inr ⟨g, cap, _, rfl, hbase, heap_sortedI _ hb, h1, h2, by simp [putCells, h3], by rw [Nat.mul_one, ← hl]; exact take_putCellsI cur ts (by omega)⟩⟩
theorem grown_putRowI {w : World} {g q : Nat} (d : Array Int) : w.grownBy (putRow encN (Sort.ahead w q) g 0 d) (some g) := by
  refine ⟨rfl, rfl, rfl, by simp [putRow, mapBlock, Sort.ahead], fun k hk hne => ?_⟩
  have : g ≠ k := fun e => hne (by rw [e])
  simp [putRow, mapBlock, Sort.ahead, Array.getElem?_modify, this]
theorem grownI_refl (a : World) (row : Option Nat) : a.grownBy a row := ⟨rfl, rfl, rfl, Nat.le_refl _, fun _ _ _ => rfl⟩

set_option maxRecDepth 100000 in
theorem isort_any (B : Nat) (A : Option Addr) (c : Nat) (l : List Int) (w : World) (hO : OR w B 3 A c (l.map encN)) (hl : l.length ≤ 1000) :
    Calls Tryz.prog 98 #[.slice A l.length c] w fun e w' => e = .returned (.tuple #[]) ∧ OR w' B 3 A c ((l.mergeSort fun x y => decide (x ≤ y)).map encN) ∧ w.grownBy w' (blk A) := by
  rcases Nat.eq_zero_or_pos l.length with h0 | h0
  · obtain rfl := List.length_eq_zero_iff.1 h0
    refine (Any.slices_Sort_int_none Tryz.sortI A c w).mono ?_
    rintro e w1 ⟨rfl, rfl⟩
    exact ⟨rfl, by simpa using hO, grownI_refl _ _⟩
  · have hown : w.ownsRow B 3 1 (.slice A l.length c) l.length (l.map encN) := by
      have := hO; unfold OR at this; rw [List.length_map] at this; exact this
    rcases hown.2 with ⟨hv, h⟩ | ⟨g, cap, cur, hv, hbase, hb, h1, h2, h3, h4⟩
    · injection hv with _ e _; omega
    · injection hv with e1 _ e3
      subst e1; subst e3
      obtain ⟨g', cap', hv', _, hlt, _, _, _, hH⟩ := Lib.holds_of_ownsRow hown (by intro e; cases e)
      injection hv' with e1 _ e3
      injection e1 with e1
      injection e1 with e1 _ _
      subst e1; subst e3
      refine (Any.slices_Sort_int Tryz.sortI g 0 c l w hH hlt (by omega)).mono ?_
      rintro e w1 ⟨rfl, nn, os, rfl⟩
      refine ⟨rfl, ?_, grownBy_sortedI _⟩
      unfold OR
      rw [List.length_map]
      have hml : (l.mergeSort fun x y => decide (x ≤ y)).length = l.length := by simp
      rw [hml]
      exact ownsRow_sortedI hml hbase hb h1 h2 h3
set_option maxRecDepth 100000 in
theorem icompact_any (B : Nat) (A : Option Addr) (c : Nat) (l : List Int) (w : World) (hO : OR w B 3 A c (l.map encN)) (hl : l.length ≤ 1000) :
    Calls Tryz.prog 99 #[.slice A l.length c] w fun e w' => e = .returned (.slice A (Lib.compact l).length c) ∧ OR w' B 3 A c ((Lib.compact l).map encN) ∧ w.grownBy w' (blk A) := by
  rcases Nat.eq_zero_or_pos l.length with h0 | h0
  · obtain rfl := List.length_eq_zero_iff.1 h0
    refine (Any.slices_Compact_int_empty Tryz.compI A c w).mono ?_
    rintro e w1 ⟨rfl, rfl⟩
    exact ⟨rfl, hO, grownI_refl _ _⟩
  · have hown : w.ownsRow B 3 1 (.slice A l.length c) l.length (l.map encN) := by
      have := hO; unfold OR at this; rw [List.length_map] at this; exact this
    obtain ⟨g, cap, hv, _, hlt, hn, hm, _, hH⟩ := Lib.holds_of_ownsRow hown (by intro e; injection e with _ e _; omega)
    injection hv with e1 _ e3
    subst e1; subst e3
    refine (Any.slices_Compact_int Tryz.compI g 0 c l w hH (by omega) (by omega)).mono ?_
    rintro e w1 ⟨rfl, q, rfl⟩
    refine ⟨rfl, ?_, grown_putRowI _⟩
    have h := Lib.ownsRow_putRow (q := q) (k := (Lib.compact l).length) (ys := Lib.compact l ++ List.replicate (l.length - (Lib.compact l).length) 0) hown (by have := Lib.compact_length_le l; simp; omega) (by have := Lib.compact_length_le l; omega)
    rw [List.take_left] at h
    unfold OR
    rw [List.length_map]
    exact h
end Go.Proofs.YtmepmiokpcddbabGreatDoor
