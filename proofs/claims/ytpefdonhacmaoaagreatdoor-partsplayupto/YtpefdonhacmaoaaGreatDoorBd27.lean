/-
  slices.Sort and slices.Compact at ints, in the row of the argument.
  shard.Find.
  (*parts.Parts).Who.
-/
import Derived.Test.YtpefdonhacmaoaaGreatDoorBd23
import Derived.Test.YtpefdonhacmaoaaGreatDoorBd3
import Derived.Test.YtpefdonhacmaoaaGreatDoorBd24
import Derived.Test.YtpefdonhacmaoaaGreatDoorBd21
import Derived.Shelf.Sort.Plain
import Derived.Shelf.Slices.CompactI
import Derived.Shelf.Slices.In.SortNone
import Derived.Sort.OwnSorted
import Derived.Lib.OwnBridge
import Derived.WalkKit
import Derived.Test.YtpefdonhacmaoaaGreatDoorBd4
import Derived.Deep.RegionHeld3
import Derived.Test.YtpefdonhacmaoaaGreatDoorBd7
import Derived.Test.YtpefdonhacmaoaaGreatDoorBd26
import Derived.Test.YtpefdonhacmaoaaGreatDoorBd18
set_option linter.unusedVariables false
set_option linter.unusedSimpArgs false
namespace Go.Proofs.YtpefdonhacmaoaaGreatDoor
open Go.RowKit Go.Sort

abbrev encN : Int → Value := Value.int .i64
theorem heap_sortedI {w : World} {g n : Nat} {os : Array Obj} {cur : Array Value} {e : TypeId} {fr : Nat × Nat} (d : Array Int) (hb : w.heap[g]? = some (.cells cur e fr)) :
    (grow (putRow encN (Sort.ahead w n) g 0 d) os).heap[g]? = some (.cells (putCells encN 0 d cur) e fr) := by
  have hg : g < w.heap.size := (Array.getElem?_eq_some_iff.1 hb).1
  rw [heap_grow_old _ _ (by simpa using hg)]
  simp [putRow, mapBlock, Sort.ahead, Array.getElem?_modify, hb, onCells]
theorem grownBy_sortedI {w : World} {g n : Nat} {os : Array Obj} (d : Array Int) : w.grownBy (grow (putRow encN (Sort.ahead w n) g 0 d) os) (some g) := by
  refine ⟨rfl, rfl, rfl, by simp, fun k hk hne => ?_⟩
  rw [heap_grow_old _ _ (by simpa using hk)]
  have : g ≠ k := fun e => hne (by rw [e])
  simp [putRow, mapBlock, Sort.ahead, Array.getElem?_modify, this]
theorem take_putCellsI (cur : Array Value) (ts : List Int) (h : ts.length ≤ cur.size) : (putCells encN 0 ts.toArray cur).toList.take ts.length = ts.map encN := by
  apply List.ext_getElem?
  intro j
  by_cases hj : j < ts.length
  · rw [List.getElem?_take_of_lt hj, Array.getElem?_toList]
    simp [putCells, hj, show j < cur.size by omega]
  · rw [List.getElem?_take_eq_none (by omega), List.getElem?_eq_none (by simp; omega)]
theorem ownsRow_sortedI {w : World} {base g cap n : Nat} {e : TypeId} {os : Array Obj} {cur : Array Value} {k : Nat} {ts : List Int} (hl : ts.length = k) (hbase : base ≤ g) (hb : w.heap[g]? = some (.cells cur e (0, 0)))
    (h1 : k ≤ cap) (h2 : cap ≤ maxLen) (h3 : cur.size = cap * 1) :
    (grow (putRow encN (Sort.ahead w n) g 0 ts.toArray) os).ownsRow base e 1 (.slice (some ⟨g, 0, none⟩) k cap) k (ts.map encN) :=
  ⟨by simp [hl], .inr ⟨g, cap, _, rfl, hbase, heap_sortedI _ hb, h1, h2, by simp [putCells, h3], by rw [Nat.mul_one, ← hl]; exact take_putCellsI cur ts (by omega)⟩⟩
theorem grown_putRowI {w : World} {g q : Nat} (d : Array Int) : w.grownBy (putRow encN (Sort.ahead w q) g 0 d) (some g) := by
  refine ⟨rfl, rfl, rfl, by simp [putRow, mapBlock, Sort.ahead], fun k hk hne => ?_⟩
  have : g ≠ k := fun e => hne (by rw [e])
  simp [putRow, mapBlock, Sort.ahead, Array.getElem?_modify, this]
theorem grownI_refl (a : World) (row : Option Nat) : a.grownBy a row := ⟨rfl, rfl, rfl, Nat.le_refl _, fun _ _ _ => rfl⟩

set_option maxRecDepth 100000 in
theorem isort_any (B : Nat) (A : Option Addr) (c : Nat) (l : List Int) (w : World) (hO : OR w B 3 A c (l.map encN)) (hl : l.length ≤ 1000) :
    Calls Tryz.prog 42 #[.slice A l.length c] w fun e w' => e = .returned (.tuple #[]) ∧ OR w' B 3 A c ((l.mergeSort fun x y => decide (x ≤ y)).map encN) ∧ w.grownBy w' (blk A) := by
  rcases Nat.eq_zero_or_pos l.length with h0 | h0
  · obtain rfl := List.length_eq_zero_iff.1 h0
    refine (Any.slices_Sort_int_none Tryz.sortI A c w).mono ?_
    rintro e w1 ⟨rfl, rfl⟩
    exact ⟨rfl, by simpa using hO, grownI_refl _ _⟩
  · have hown : w.ownsRow B 3 1 (.slice A l.length c) l.length (l.map encN) := by
      have := hO; unfold OR at this; rw [List.length_map] at this; exact this
    rcases hown.2 with ⟨hv, h⟩ | ⟨g, cap, cur, hv, hbase, hb, h1, h2, h3, h4⟩
    · injection hv with _ e _; omega
    · injection hv with e1 _ e3
      subst e1; subst e3
      obtain ⟨g', cap', hv', _, hlt, _, _, _, hH⟩ := Lib.holds_of_ownsRow hown (by intro e; cases e)
      injection hv' with e1 _ e3
      injection e1 with e1
      injection e1 with e1 _ _
      subst e1; subst e3
      refine (Any.slices_Sort_int Tryz.sortI g 0 c l w hH hlt (by omega)).mono ?_
      rintro e w1 ⟨rfl, nn, os, rfl⟩
      refine ⟨rfl, ?_, grownBy_sortedI _⟩
      unfold OR
      rw [List.length_map]
      have hml : (l.mergeSort fun x y => decide (x ≤ y)).length = l.length := by simp
      rw [hml]
      exact ownsRow_sortedI hml hbase hb h1 h2 h3
set_option maxRecDepth 100000 in
theorem icompact_any (B : Nat) (A : Option Addr) (c : Nat) (l : List Int) (w : World) (hO : OR w B 3 A c (l.map encN)) (hl : l.length ≤ 1000) :
    Calls Tryz.prog 43 #[.slice A l.length c] w fun e w' => e = .returned (.slice A (Lib.compact l).length c) ∧ OR w' B 3 A c ((Lib.compact l).map encN) ∧ w.grownBy w' (blk A) := by
  rcases Nat.eq_zero_or_pos l.length with h0 | h0
  · obtain rfl := List.length_eq_zero_iff.1 h0
    refine (Any.slices_Compact_int_empty Tryz.compI A c w).mono ?_
    rintro e w1 ⟨rfl, rfl⟩
    exact ⟨rfl, hO, grownI_refl _ _⟩
  · have hown : w.ownsRow B 3 1 (.slice A l.length c) l.length (l.map encN) := by
      have := hO; unfold OR at this; rw [List.length_map] at this; exact this
    obtain ⟨g, cap, hv, _, hlt, hn, hm, _, hH⟩ := Lib.holds_of_ownsRow hown (by intro e; injection e with _ e _; omega)
    injection hv with e1 _ e3
    subst e1; subst e3
    refine (Any.slices_Compact_int Tryz.compI g 0 c l w hH (by omega) (by omega)).mono ?_
    rintro e w1 ⟨rfl, q, rfl⟩
    refine ⟨rfl, ?_, grown_putRowI _⟩
    have h := Lib.ownsRow_putRow (q := q) (k := (Lib.compact l).length) (ys := Lib.compact l ++ List.replicate (l.length - (Lib.compact l).length) 0) hown (by have := Lib.compact_length_le l; simp; omega) (by have := Lib.compact_length_le l; omega)
    rw [List.take_left] at h
    unfold OR
    rw [List.length_map]
    exact h
end Go.Proofs.YtpefdonhacmaoaaGreatDoor

set_option linter.unusedVariables false
set_option linter.unusedSimpArgs false
namespace Go.Proofs.YtpefdonhacmaoaaGreatDoor
open Go.RowKit

/-- what Find answers -/
def findV (cs : List ByteArray) (os : List Int) (key : ByteArray) : Int × Int :=
  if chkM cs os ≠ 0 then (0, chkM cs os) else if keyB key = false then (0, 3) else (whV cs os key, 0)
theorem findV_bad {cs : List ByteArray} {os : List Int} {key : ByteArray} (h : chkM cs os ≠ 0) : findV cs os key = (0, chkM cs os) := by unfold findV; rw [if_pos h]
theorem findV_key {cs : List ByteArray} {os : List Int} {key : ByteArray} (h : chkM cs os = 0) (hk : keyB key = false) : findV cs os key = (0, 3) := by unfold findV; rw [if_neg (by simp [h]), if_pos hk]
theorem findV_ok {cs : List ByteArray} {os : List Int} {key : ByteArray} (h : chkM cs os = 0) (hk : keyB key = true) : findV cs os key = (whV cs os key, 0) := by unfold findV; rw [if_neg (by simp [h]), if_neg (by simp [hk])]
theorem ret_ii {a b c d : Int} (h : a = c) (k : b = d) : Ending.returned (.tuple #[.int .i64 a, .int .i64 b]) = .returned (.tuple #[.int .i64 c, .int .i64 d]) := by rw [h, k]
def RetFd (w : World) (r : Int × Int) (e : Ending) (w' : World) : Prop := e = .returned (.tuple #[.int .i64 r.1, .int .i64 r.2]) ∧ Below w.heap.size w w'

set_option maxHeartbeats 1000000 in
set_option maxRecDepth 100000 in
theorem shfind_any (m : Mp) (key : ByteArray) (w : World) (hm : MS w m) (l2 : m.os.length ≤ 9223372036854775807) :
    Calls Tryz.prog 41 #[.agg #[.slice m.A m.cs.length m.ca, .slice m.O m.os.length m.co], .string key] w (RetFd w (findV m.cs m.os key)) := by
  have hH := MH.new hm
  go_enter Tryz.func41, Tryz.ntmps41
  obtain ⟨z1, z2⟩ := hH.c
  go_wp2_with fail
  generalize w.alloc (.cells #[.slice m.A m.cs.length m.ca, .slice m.O m.os.length m.co] 25) = w1 at hH z1 z2 ⊢
  generalize w.heap.size = g at hH z1 z2 ⊢
  refine (shcheck_any m _ hH.ms l2).mono ?_
  rintro e w2 ⟨rfl, hb2⟩
  replace hH := hH.below hb2
  clear hb2 z1 z2
  by_cases hc : chkM m.cs m.os = 0
  · have hok := chkM_ok.1 hc
    have hfew := hok.few
    have hlen := hok.len
    have HC := hideP hc
    rw [hc]
    go_wp2_with fail
    refine (key_any _ _).mono ?_
    rintro e w3 ⟨rfl, rfl⟩
    cases hk : keyB key
    · have HK := hideP hk
      have hbe := hH.be
      clear hk
      go_wp2_with fail
      go_ret2
      exact ⟨ret_ii (by rw [findV_key HC.out HK.out]) (by rw [findV_key HC.out HK.out]), hbe⟩
    · have HK := hideP hk
      clear hk
      have hat := atC_le m.cs key
      obtain ⟨bO, oO, eO, _, _⟩ := hm.own (atC m.cs key) (m.os.getD (atC m.cs key) 0) (by simp [List.getD_eq_getElem?_getD, show atC m.cs key < m.os.length by omega])
      have HS := hideP (fun (wr : World) (h : MH w g m wr) => show wr.cell? ⟨g, 0, none⟩ = some (.slice m.A m.cs.length m.ca) ∧ wr.cell? ⟨g, 1, none⟩ = some (.slice (some ⟨bO, oO, none⟩) m.os.length m.co) ∧ wr.cell? ⟨bO, oO + atC m.cs key, none⟩ = some (.int .i64 (whV m.cs m.os key)) from by
        obtain ⟨b2, o2, e2, _, c2⟩ := h.ms.own (atC m.cs key) (m.os.getD (atC m.cs key) 0) (by simp [List.getD_eq_getElem?_getD, show atC m.cs key < m.os.length by omega])
        rw [eO] at e2
        injection e2 with e2
        injection e2 with e3 e4
        subst e3; subst e4
        exact ⟨h.c.1, by rw [← eO]; exact h.c.2, c2⟩)
      have HP := hideP (fun (wr : World) (h : MH w g m wr) => show Calls Tryz.prog 59 #[.agg #[.slice m.A m.cs.length m.ca, .slice (some ⟨bO, oO, none⟩) m.os.length m.co], .string key] wr fun e w' => e = .returned (.int .i64 (atC m.cs key : Nat)) ∧ Below wr.heap.size wr w' from by
        rw [← eO]; exact place_any m key wr h.ms hfew)
      have HF := hideP (show findV m.cs m.os key = (whV m.cs m.os key, 0) from findV_ok HC.out HK.out)
      have g1 : ((atC m.cs key : Nat) : Int) < (m.os.length : Int) := by omega
      have g2 : (0 : Int) ≤ ((atC m.cs key : Nat) : Int) := by omega
      generalize atC m.cs key = a at HS HP g1 g2
      generalize whV m.cs m.os key = v at HS HF
      clear hok hfew hlen hat
      generalize m.cs.length = n1 at HS HP
      generalize m.os.length = n2 at HS HP g1
      go_wp2_with fail
      replace hH := hH.below (Below.refl _ _).drew
      go_region_held3 (fun w' => w'.cell? ⟨g, 0, none⟩ = some (.slice m.A n1 m.ca) ∧ w'.cell? ⟨g, 1, none⟩ = some (.slice (some ⟨bO, oO, none⟩) n2 m.co) ∧ w'.cell? ⟨bO, oO + a, none⟩ = some (.int .i64 v)) (with_reducible exact HS.out _ hH) (first
        | (go_at_call 59; refine (HP.out _ hH).mono ?_; rintro e wn ⟨rfl, hbn⟩; replace hH := hH.below hbn; clear hbn))
      have hbe := hH.be
      go_wp2_with fail
      go_ret2
      exact ⟨ret_ii (by rw [HF.out]) (by rw [HF.out]), hbe⟩
  · have HF := hideP (show findV m.cs m.os key = (0, chkM m.cs m.os) from findV_bad hc)
    have d : (chkM m.cs m.os != 0) = true := by simp [hc]
    have hbe := hH.be
    clear hc
    generalize chkM m.cs m.os = q at d HF ⊢
    go_wp2_with fail
    go_ret2
    exact ⟨ret_ii (by rw [HF.out]) (by rw [HF.out]), hbe⟩
end Go.Proofs.YtpefdonhacmaoaaGreatDoor

set_option linter.unusedVariables false
set_option linter.unusedSimpArgs false
namespace Go.Proofs.YtpefdonhacmaoaaGreatDoor
open Go.RowKit

/-- while the owners are gathered -/
def WhoI (w : World) (m : Mp) (d : List Opr) (As : Option Addr) (cs' : Nat) (v i : Value) (wr : World) : Prop :=
  ∃ (k : Nat) (A : Option Addr) (c : Nat) (zs : List Int), k ≤ (nmL d).length ∧ i = .int .i64 k ∧ v = .slice A zs.length c ∧ zs = ((nmL d).take k).map (whV m.cs m.os) ∧ OR wr w.heap.size 3 A c (zs.map encN) ∧ OR wr w.heap.size 9 As cs' ((nmL d).map Value.string) ∧ Below w.heap.size w wr

set_option maxHeartbeats 2000000 in
set_option maxRecDepth 100000 in
theorem who_ok (B g : Nat) (m : Mp) (l : List Pr) (q : Dv) (D : Option Addr) (cd : Nat) (d : List Opr) (w : World) (h : PB w B g m l q) (hD : OS w w.heap.size D d) (hd : chkD d = 0) :
    Calls Tryz.prog 18 #[.pointer (some ⟨g, 0, none⟩), .agg #[.slice D d.length cd]] w
      fun e w' => ∃ A c, e = .returned (.tuple #[.slice A (whoL m.cs m.os d).length c, .int .i64 0]) ∧ OR w' w.heap.size 3 A c ((whoL m.cs m.os d).map encN) ∧ Below w.heap.size w w' := by
  have hb0 := (Below.refl w.heap.size w).alloc (Nat.le_refl _) (.cells #[.slice D d.length cd] 43)
  have y := (Box.new w 43 #[.slice D d.length cd]).cell 0 (v := .slice D d.length cd) rfl
  have hD0 := hD.go hb0
  have hd8 := (chkD_zero.1 hd).2.1
  have hnl := nmL_len d
  have hkey := names_key hd
  go_enter Tryz.func18, Tryz.ntmps18
  go_wp2_with fail
  generalize w.alloc _ = w1 at hb0 hD0 y ⊢
  refine (keys_ok D cd d _ hD0 hd).mono ?_
  rintro e w2 ⟨A1, c1, A2, c2, rfl, hT, hb2⟩
  have hb2' := hb0.trans (hb2.mono hb0.size)
  have HCA := hideP (sconcat2 w2 w2.heap.size rfl A1 A2 (keysOf (rdL d)).length (keysOf (wrL d)).length c1 c2 _ _ rfl rfl hT.o1.vs hT.o2.vs (by rw [show (keysOf (rdL d)).length + (keysOf (wrL d)).length = (nmL d).length by unfold nmL; rw [List.length_append]]; omega))
  rw [show keysOf (rdL d) ++ keysOf (wrL d) = nmL d from rfl] at HCA
  generalize (keysOf (rdL d)).length = n1 at HCA ⊢
  generalize (keysOf (wrL d)).length = n2 at HCA ⊢
  clear hb0 hb2 hT hD0 hD y
  go_wp2_with fail
  refine HCA.out.mono ?_
  rintro e w3 ⟨As, cs', rfl, hs, hb3⟩
  have hs3 := hs.mono hb2'.size
  have hb3' := hb2'.trans (hb3.mono hb2'.size)
  clear HCA hs hb2' hb3
  go_wp2_with fail
  go_loopw [9, 28] (WhoI w m d As cs') (fun _ i _ => (nmL d).length - (intOf i).toNat)
  case atStart => exact ⟨0, none, 0, [], Nat.zero_le _, rfl, rfl, rfl, OR.nil _ _ _, hs3, hb3'⟩
  case round =>
    obtain ⟨k, A, c, zs, hk, rfl, rfl, hzs, ho, hs, hb⟩ := hrel
    have hzl : zs.length = k := by rw [hzs, List.length_map, List.length_take]; omega
    by_cases hlt : k < (nmL d).length
    · obtain ⟨b, o, rfl, hbl, q1⟩ := hs.vs k (.string (nmL d)[k]) (by simp [hlt])
      have hkk := hkey _ (List.getElem_mem hlt)
      have hw := h.below hb
      have HF := hideP (fun (W : World) (hW : Below w.heap.size w W) => shfind_any m (nmL d)[k] W (h.below hW).mo.ms h.okm.l2)
      rw [findV_ok (chkM_ok.2 h.okm) hkk] at HF
      have HT := hideP (show zs ++ [whV m.cs m.os (nmL d)[k]] = ((nmL d).take (k + 1)).map (whV m.cs m.os) by rw [hzs, List.take_succ_eq_append_getElem hlt, List.map_append]; rfl)
      generalize (nmL d)[k] = key at q1 hkk HF HT
      generalize whV m.cs m.os key = z at HF HT
      have z1 := hw.c0
      have z2 := hw.c1
      have HZ := hideP hzl
      clear hzs hw hs3 hb3' hzl
      go_wp2_with fail
      refine (HF.out _ hb).mono ?_
      rintro e w4 ⟨rfl, hb4⟩
      replace ho := ho.below hb4
      replace hs := hs.below hb4
      have hb5 := hb.trans (hb4.mono hb.size)
      simp only
      obtain ⟨A', c', w6, hrun, ho6, hbl6, hg6, _⟩ := app_row (P := Tryz.prog) Tryz.underlying23 intInfo rfl w4 w.heap.size 23 A c _ ho [.int .i64 z] (by simp [Value.oneCell']) (by rw [List.length_map, HZ.out]; simp only [List.length_singleton]; omega) (by decide) hb5.size
      have hb6 := hbl6 w.heap.size w (Nat.le_refl _) hb5
      have hX : zs.map encN ++ [Value.int .i64 z] = (zs ++ [z]).map encN := by simp
      rw [hX] at hrun ho6
      rw [List.length_map, List.length_map] at hrun
      have hs6 := OR.below hs ((Below.refl w4.heap.size w4).alloc (Nat.le_refl _) (.cells #[.int .i64 z] 3))
      replace hs6 : OR w6 w.heap.size 9 _ cs' _ := World.ownsRow.kept hs6 hg6 (rows_ne hs6 (ho.below ((Below.refl w4.heap.size w4).alloc (Nat.le_refl _) (.cells #[.int .i64 z] 3))) (by decide))
      have HR := hideP hrun
      clear hrun hX ho hs hbl6 hg6 hb4 HF z1 z2
      go_wp2_with (at_builtin; refine Lib.wpList_append_run _ rfl _ _ _ _ rfl _ _ rfl rfl _ _ HR.out ?_)
      go_roundw
      case rel => exact ⟨k + 1, A', c', zs ++ [z], by omega, by go_num, by simp, HT.out, ho6, hs6, hb6⟩
      case measure => simp [intOf]; omega
    · have hfull : zs = (nmL d).map (whV m.cs m.os) := by rw [hzs, List.take_of_length_le (by omega)]
      have HW := hideP (show Lib.compact (zs.mergeSort fun x y => decide (x ≤ y)) = whoL m.cs m.os d by rw [hfull]; rfl)
      have hzm : (zs.mergeSort fun x y => decide (x ≤ y)).length = zs.length := by simp
      have HZM := hideP hzm
      have hz3 : zs.length ≤ 1000 := by omega
      clear hzs hfull hs3 hb3' hzm hs hzl
      go_wp2_with fail
      refine (isort_any w.heap.size A c zs _ ho hz3).mono ?_
      rintro e w5 ⟨rfl, ho5, hg5⟩
      have hb5 : Below w.heap.size w w5 := hb.grown hg5 hb.size (fun j hj => (World.ownsRow.lt ho j (by rw [ownBlock_slice]; exact hj)).1)
      have HCO := hideP (icompact_any w.heap.size A c _ w5 ho5 (by rw [HZM.out]; exact hz3))
      rw [HZM.out, HW.out] at HCO
      clear HW HZM ho hg5 hb
      go_wp2_with fail
      refine HCO.out.mono ?_
      rintro e w6 ⟨rfl, ho6, hg6⟩
      have hb6 : Below w.heap.size w w6 := hb5.grown hg6 hb5.size (fun j hj => (World.ownsRow.lt ho5 j (by rw [ownBlock_slice]; exact hj)).1)
      clear HCO ho5 hg6 hb5
      go_wp2_with fail
      go_ret2
      exact ⟨A, c, rfl, ho6, hb6⟩
end Go.Proofs.YtpefdonhacmaoaaGreatDoor
