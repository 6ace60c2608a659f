/-
  slices.Index and slices.Contains at strings.
  deed.Keys.
-/
import Derived.Test.YtefdipjhjgmokaaGreatBv2
import Derived.Test.YtefdipjhjgmokaaGreatBv1
import Derived.WalkKit
import Derived.WalkSpells
import Derived.WalkLawsBesides
import Derived.Test.YtefdipjhjgmokaaGreatBv47
import Derived.Test.YtefdipjhjgmokaaGreatBv7
import Derived.Deep.RegionWith
set_option linter.unusedVariables false
set_option linter.unusedSimpArgs false
namespace Go.Proofs.YtefdipjhjgmokaaGreat
open Go.RowKit

set_option maxHeartbeats 400000 in
set_option maxRecDepth 100000 in
theorem sindex_any (A : Option Addr) (c : Nat) (l : List ByteArray) (x : ByteArray) (w : World) (hA : VS w A (l.map Value.string)) (hl : l.length < 4611686018427387904) :
    Calls Tryz.prog 110 #[.slice A l.length c, .string x] w fun e w' => ∃ r : Int, e = .returned (.int .i64 r) ∧ decide (0 ≤ r) = inB x l ∧ w = w' := by
  go_enter Tryz.func110, Tryz.ntmps110
  go_wp2_with fail
  go_loop [8] (fun i => ∃ k : Nat, k ≤ l.length ∧ i = .int .i64 k ∧ x ∉ l.take k) (fun i => l.length - (intOf i).toNat)
  case atStart => exact ⟨0, Nat.zero_le _, rfl, by simp⟩
  case round =>
    obtain ⟨k, hk, rfl, hnot⟩ := hrel
    have HN := hideP hnot
    clear hnot
    by_cases hlt : k < l.length
    · obtain ⟨b, o, rfl, hbl, q1⟩ := hA k (.string l[k]) (by simp [hlt])
      have hmem := hideP (List.getElem_mem hlt)
      have hnx := hideP (fun (h2 : x ≠ l[k]) => mem_take_next hlt HN.out h2)
      clear hA
      generalize l[k] = s at q1 hmem hnx
      by_cases he : x = s
      · have d1 := bytes_eq he
        have HE := hideP he
        clear he
        go_wp2_with fail
        go_ret
        exact ⟨k, rfl, by have := hmem.out; rw [← HE.out] at this; rw [inB_iff.2 this]; simp, rfl⟩
      · have d1 := bytes_ne he
        have HE := hideP he
        clear he
        go_wp2_with fail
        go_round
        case rel => exact ⟨k + 1, by omega, by go_num, hnx.out HE.out⟩
        case measure => simp [intOf]; omega
    · go_wp2_with fail
      go_ret
      exact ⟨-1, rfl, by have := HN.out; rw [List.take_of_length_le (by omega)] at this; rw [inB_no this]; rfl, rfl⟩

set_option maxHeartbeats 400000 in
set_option maxRecDepth 100000 in
theorem scontains_any (A : Option Addr) (c : Nat) (l : List ByteArray) (x : ByteArray) (w : World) (hA : VS w A (l.map Value.string)) (hl : l.length < 4611686018427387904) :
    Calls Tryz.prog 82 #[.slice A l.length c, .string x] w fun e w' => e = .returned (.bool (inB x l)) ∧ w = w' := by
  go_enter Tryz.func82, Tryz.ntmps82
  go_wp2_with fail
  refine (sindex_any A c l x _ hA hl).mono ?_
  rintro e w' ⟨r, rfl, hr, rfl⟩
  have HR := hideP hr
  clear hr
  go_wp2_with fail
  go_ret
  exact ⟨ret_bool HR.out, rfl⟩
end Go.Proofs.YtefdipjhjgmokaaGreat

set_option linter.unusedVariables false
set_option linter.unusedSimpArgs false
namespace Go.Proofs.YtefdipjhjgmokaaGreat
open Go.RowKit

/-- two rows of the call's own, apart from each other -/
structure Two (w : World) (B : Nat) (A1 : Option Addr) (c1 : Nat) (xs : List ByteArray) (A2 : Option Addr) (c2 : Nat) (ys : List ByteArray) : Prop where
  o1 : OR w B 9 A1 c1 (xs.map Value.string)
  o2 : OR w B 9 A2 c2 (ys.map Value.string)
  ap : blk A1 = none ∨ blk A1 ≠ blk A2
section
variable {w w' : World} {B : Nat} {A1 A2 : Option Addr} {c1 c2 : Nat} {xs ys : List ByteArray}
theorem Two.symm (h : Two w B A1 c1 xs A2 c2 ys) : Two w B A2 c2 ys A1 c1 xs :=
  ⟨h.o2, h.o1, by
    rcases h.ap with e | e
    · cases h2 : blk A2 with
      | none => exact .inl rfl
      | some k => exact .inr (by rw [e]; simp)
    · exact .inr fun e' => e e'.symm⟩
theorem Two.below (h : Two w B A1 c1 xs A2 c2 ys) (hb : Below w.heap.size w w') : Two w' B A1 c1 xs A2 c2 ys := ⟨h.o1.below hb, h.o2.below hb, h.ap⟩
theorem Two.drew (h : Two w B A1 c1 xs A2 c2 ys) : Two w.drew B A1 c1 xs A2 c2 ys := h.below (Below.refl _ _).drew
theorem Two.mono (h : Two w B A1 c1 xs A2 c2 ys) {B' : Nat} (hB : B' ≤ B) : Two w B' A1 c1 xs A2 c2 ys := ⟨h.o1.mono hB, h.o2.mono hB, h.ap⟩
theorem Two.app (h : Two w B A1 c1 xs A2 c2 ys) (news : List ByteArray) (hl : xs.length + news.length ≤ 1000) (hB : B ≤ w.heap.size) :
    ∃ A' c' w', (∀ ty, (Builtin.append_ #[33, 33] ty #[.slice A1 xs.length c1, .slice (some ⟨w.heap.size, 0, none⟩) news.length news.length]).run Tryz.prog (w.alloc (.cells (news.map Value.string).toArray 9)) = .ok (.slice A' (xs ++ news).length c') w') ∧ Two w' B A' c' (xs ++ news) A2 c2 ys ∧ (∀ B0 a, B0 ≤ B → Below B0 a w → Below B0 a w') ∧ (∀ p v, w.cell? p = some v → some p.block ≠ blk A1 → w'.cell? p = some v) := by
  obtain ⟨A', c', w', hrun, ho, hb, hg, h5⟩ := app_row (P := Tryz.prog) Tryz.underlying33 strInfo rfl w B 0 A1 c1 _ h.o1 (news.map Value.string) (by intro u hu; obtain ⟨s, _, rfl⟩ := List.mem_map.1 hu; rfl) (by simp; omega) (by decide) hB
  rw [ownBlock_slice, ownBlock_slice] at h5
  rw [ownBlock_slice] at hg
  have hk : OR w' B 9 A2 c2 (ys.map Value.string) := World.ownsRow.kept (World.ownsRow.alloc h.o2 _) hg (by rw [ownBlock_slice]; exact h.symm.ap)
  refine ⟨A', c', w', fun ty => ?_, ⟨by rw [List.map_append]; exact ho, hk, ?_⟩, hb, fun p v hp hne => hg.cell ((((Below.refl _ w).alloc (Nat.le_refl _) _).cell (World.block_lt_of_cell? w p hp)).trans hp) hne⟩
  · simp only [List.length_map] at hrun
    rw [← List.map_append, List.length_map] at hrun
    exact hrun
  · rcases h5 with e | e
    · rw [e]; exact h.ap
    · refine .inr fun e2 => ?_
      rw [e] at e2
      have := (World.ownsRow.lt h.o2 (w.heap.size + 1) (by rw [ownBlock_slice]; exact e2.symm)).2
      omega
theorem Two.add (h : Two w B A1 c1 xs A2 c2 ys) (k : ByteArray) (hl : xs.length ≤ 900) (hB : B ≤ w.heap.size) :
    ∃ A' c' w', (∀ ty, (Builtin.append_ #[33, 33] ty #[.slice A1 xs.length c1, .slice (some ⟨w.heap.size, 0, none⟩) 1 1]).run Tryz.prog (w.alloc (.cells #[.string k] 9)) = .ok (.slice A' (xs ++ [k]).length c') w') ∧ Two w' B A' c' (xs ++ [k]) A2 c2 ys ∧ (∀ B0 a, B0 ≤ B → Below B0 a w → Below B0 a w') ∧ (∀ p v, w.cell? p = some v → some p.block ≠ blk A1 → w'.cell? p = some v) :=
  h.app [k] (by simp; omega) hB
theorem Two.add2 (h : Two w B A1 c1 xs A2 c2 ys) (k j : ByteArray) (hl : xs.length ≤ 900) (hB : B ≤ w.heap.size) :
    ∃ A' c' w', (∀ ty, (Builtin.append_ #[33, 33] ty #[.slice A1 xs.length c1, .slice (some ⟨w.heap.size, 0, none⟩) 2 2]).run Tryz.prog (w.alloc (.cells #[.string k, .string j] 9)) = .ok (.slice A' (xs ++ [k, j]).length c') w') ∧ Two w' B A' c' (xs ++ [k, j]) A2 c2 ys ∧ (∀ B0 a, B0 ≤ B → Below B0 a w → Below B0 a w') ∧ (∀ p v, w.cell? p = some v → some p.block ≠ blk A1 → w'.cell? p = some v) :=
  h.app [k, j] (by simp; omega) hB
theorem Two.sorted (h : Two w B A1 c1 xs A2 c2 ys) (hg : w.grownBy w' (blk A1)) {zs : List ByteArray} (ho : OR w' B 9 A1 c1 (zs.map Value.string)) : Two w' B A1 c1 zs A2 c2 ys :=
  ⟨ho, World.ownsRow.kept h.o2 hg (by rw [ownBlock_slice]; exact h.symm.ap), h.ap⟩
end
theorem sorted_two1 (B : Nat) (A1 A2 : Option Addr) (c1 c2 : Nat) (xs ys : List ByteArray) (w : World) (h : Two w B A1 c1 xs A2 c2 ys) (hB : B ≤ w.heap.size) (hl : xs.length ≤ 1000) :
    Calls Tryz.prog 107 #[.slice A1 xs.length c1] w fun e w' => e = .returned (.slice A1 (keysOf xs).length c1) ∧ Two w' B A1 c1 (keysOf xs) A2 c2 ys ∧ Below B w w' ∧ w.heap.size ≤ w'.heap.size :=
  (sorted_any B A1 c1 xs w h.o1 hl).mono fun e w' ⟨h1, h2, h3⟩ => ⟨h1, h.sorted h3 h2, (Below.refl B w).grown h3 hB (fun k hk => (World.ownsRow.lt h.o1 k (by rw [ownBlock_slice]; exact hk)).1), h3.size⟩
theorem sorted_two2 (B : Nat) (A1 A2 : Option Addr) (c1 c2 : Nat) (xs ys : List ByteArray) (w : World) (h : Two w B A1 c1 xs A2 c2 ys) (hB : B ≤ w.heap.size) (hl : ys.length ≤ 1000) :
    Calls Tryz.prog 107 #[.slice A2 ys.length c2] w fun e w' => e = .returned (.slice A2 (keysOf ys).length c2) ∧ Two w' B A1 c1 xs A2 c2 (keysOf ys) ∧ Below B w w' ∧ w.heap.size ≤ w'.heap.size :=
  (sorted_two1 B A2 A1 c2 c1 ys xs w h.symm hB hl).mono fun e w' ⟨h1, h2, h3, h4⟩ => ⟨h1, h2.symm, h3, h4⟩

/-- what Keys hands back -/
def RetKeys (w : World) (d : List Opr) (e : Ending) (w' : World) : Prop :=
  ∃ A1 c1 A2 c2, e = .returned (.tuple #[.slice A1 (keysOf (rdL d)).length c1, .slice A2 (keysOf (wrL d)).length c2, .int .i64 0]) ∧ Two w' w.heap.size A1 c1 (keysOf (rdL d)) A2 c2 (keysOf (wrL d)) ∧ Below w.heap.size w w'
/-- while the keys are gathered -/
def KeysInv (w : World) (d : List Opr) (s x i : Value) (wr : World) : Prop :=
  ∃ (k : Nat) (A1 : Option Addr) (c1 : Nat) (A2 : Option Addr) (c2 : Nat) (rs ws : List ByteArray), k ≤ d.length ∧ i = .int .i64 k ∧ s = .slice A1 rs.length c1 ∧ x = .slice A2 ws.length c2 ∧ rs = rdL (d.take k) ∧ ws = wrL (d.take k) ∧ Two wr w.heap.size A1 c1 rs A2 c2 ws ∧ Below w.heap.size w wr

set_option maxHeartbeats 1000000 in
set_option maxRecDepth 100000 in
theorem keys_ok (D : Option Addr) (cd : Nat) (d : List Opr) (w : World) (hD : OS w w.heap.size D d) (hd : chkD d = 0) :
    Calls Tryz.prog 80 #[.agg #[.slice D d.length cd]] w (RetKeys w d) := by
  obtain ⟨hd1, hd8, hdo⟩ := chkD_zero.1 hd
  have HD := hideP hd
  clear hd
  have hb0 := (Below.refl w.heap.size w).alloc (Nat.le_refl _) (.cells #[.slice D d.length cd] 32)
  go_enter Tryz.func80, Tryz.ntmps80
  go_wp2_with fail
  have hD0 := hD.go hb0
  have hat : (w.alloc (.cells #[.slice D d.length cd] 32)).cell? ⟨w.heap.size, 0, none⟩ = some (.slice D d.length cd) := by simp
  have hlt : w.heap.size < (w.alloc (.cells #[.slice D d.length cd] 32)).heap.size := by simp
  generalize w.alloc (.cells #[.slice D d.length cd] 32) = w0 at hD0 hb0 hat hlt ⊢
  refine (dcheck_any D cd d _ hD0).mono ?_
  rintro e w1 ⟨rfl, hb1⟩
  rw [HD.out]
  have hat1 := (hb1.cell (p := ⟨w.heap.size, 0, none⟩) hlt).trans hat
  have hb2 := hb0.trans (hb1.mono hb0.size)
  clear hD0 hat hlt hb0 hb1
  go_wp2_with fail
  go_loopw [6, 7, 18] (KeysInv w d) (fun _ _ i _ => d.length - (intOf i).toNat)
  case atStart => exact ⟨0, none, 0, none, 0, [], [], Nat.zero_le _, rfl, rfl, rfl, rfl, rfl, ⟨OR.nil _ _ _, OR.nil _ _ _, .inl rfl⟩, hb2⟩
  case round =>
    obtain ⟨k, A1, c1, A2, c2, rs, ws, hk, rfl, rfl, rfl, hrs, hws, hT, hb⟩ := hrel
    have hrl : rs.length ≤ 16 := by rw [hrs]; have := rdL_len (d.take k); simp at this; omega
    have hwl : ws.length ≤ 16 := by rw [hws]; have := wrL_len (d.take k); simp at this; omega
    have HRS := hideP hrs
    have HWS := hideP hws
    clear hrs hws
    by_cases hlt : k < d.length
    · have hchk := chkO_zero.1 (hdo _ (List.getElem_mem hlt))
      obtain ⟨b, o, rfl, hbl, q1, q2, q3, q4⟩ := (hD.below hb) k _ (List.getElem?_eq_getElem hlt)
      have HR := hideP (rdL_take hlt)
      have HW := hideP (wrL_take hlt)
      generalize hgo : d[k] = p at hchk q1 q2 q3 q4
      have HG := hideP hgo
      clear hgo hdo hD hat1 hb2
      obtain ⟨kd, key, src, n⟩ := p
      simp only at hchk q1 q2 q3 q4
      have hk1 := hchk.1
      have hk5 := hchk.2.1
      clear hchk
      have hba := hb.alloc hb.size (.cells #[.int .i64 kd, .string key, .string src, .int .i64 n] 106)
      have hTa := hT.below ((Below.refl _ wr).alloc (Nat.le_refl _) (.cells #[.int .i64 kd, .string key, .string src, .int .i64 n] 106))
      have hsa := hba.size
      have hne1 : some wr.heap.size ≠ blk A1 := fun e => by have := (World.ownsRow.lt hT.o1 wr.heap.size (by rw [ownBlock_slice]; exact e.symm)).2; omega
      have hne2 : some wr.heap.size ≠ blk A2 := fun e => by have := (World.ownsRow.lt hT.o2 wr.heap.size (by rw [ownBlock_slice]; exact e.symm)).2; omega
      clear hT
      rcases (show kd = 1 ∨ kd = 2 ∨ kd = 3 ∨ kd = 4 ∨ kd = 5 by omega) with rfl | rfl | rfl | rfl | rfl
      · have HRd := hideP (show rdL (d.take (k + 1)) = rs ++ rdO ⟨1, key, src, n⟩ by rw [HR.out, HG.out, HRS.out])
        have HWr := hideP (show wrL (d.take (k + 1)) = ws ++ wrO ⟨1, key, src, n⟩ by rw [HW.out, HG.out, HWS.out])
        obtain ⟨B1, e1, w11, hrun1, hT1, hbel1, hcell1⟩ := ((hTa).symm).add key (by omega) hsa
        replace hT1 := hT1.symm
        simp only [World.size_alloc] at hrun1
        have HR1 := hideP hrun1
        have hb1x := hbel1 w.heap.size w (Nat.le_refl _) hba
        have hs1 := hb1x.size
        clear hrun1 hbel1 hcell1
        go_wp2_with (at_builtin; first | refine Lib.wpList_append_run _ rfl _ _ _ _ rfl _ _ rfl rfl _ _ (HR1.out _) ?_)
        go_roundw
        case rel => exact ⟨k + 1, A1, c1, B1, e1, _, _, by omega, by go_num, by simp, by simp, by rw [HRd.out]; simp [rdO], by rw [HWr.out]; simp [wrO], hT1, hb1x⟩
        case measure => simp [intOf]; omega
      · have HRd := hideP (show rdL (d.take (k + 1)) = rs ++ rdO ⟨2, key, src, n⟩ by rw [HR.out, HG.out, HRS.out])
        have HWr := hideP (show wrL (d.take (k + 1)) = ws ++ wrO ⟨2, key, src, n⟩ by rw [HW.out, HG.out, HWS.out])
        obtain ⟨B1, e1, w11, hrun1, hT1, hbel1, hcell1⟩ := (hTa).add key (by omega) hsa
        simp only [World.size_alloc] at hrun1
        have HR1 := hideP hrun1
        have hb1x := hbel1 w.heap.size w (Nat.le_refl _) hba
        have hs1 := hb1x.size
        clear hrun1 hbel1
        have k1 := hcell1 ⟨wr.heap.size, 1, none⟩ (.string key) (by simp) hne1
        have k2 := hcell1 ⟨wr.heap.size, 2, none⟩ (.string src) (by simp) hne1
        clear hcell1
        obtain ⟨B2, e2, w12, hrun2, hT2, hbel2, hcell2⟩ := ((hT1).symm).add key (by omega) hs1
        replace hT2 := hT2.symm
        have HR2 := hideP hrun2
        have hb2x := hbel2 w.heap.size w (Nat.le_refl _) hb1x
        have hs2 := hb2x.size
        clear hrun2 hbel2 hcell2
        go_wp2_with (at_builtin; first | (refine Lib.wpList_append_run _ rfl _ _ _ _ rfl _ _ rfl rfl _ _ (HR1.out _) ?_; clear HR1) | refine Lib.wpList_append_run _ rfl _ _ _ _ rfl _ _ rfl rfl _ _ (HR2.out _) ?_)
        go_roundw
        case rel => exact ⟨k + 1, B1, e1, B2, e2, _, _, by omega, by go_num, by simp, by simp, by rw [HRd.out]; simp [rdO], by rw [HWr.out]; simp [wrO], hT2, hb2x⟩
        case measure => simp [intOf]; omega
      · have HRd := hideP (show rdL (d.take (k + 1)) = rs ++ rdO ⟨3, key, src, n⟩ by rw [HR.out, HG.out, HRS.out])
        have HWr := hideP (show wrL (d.take (k + 1)) = ws ++ wrO ⟨3, key, src, n⟩ by rw [HW.out, HG.out, HWS.out])
        obtain ⟨B1, e1, w11, hrun1, hT1, hbel1, hcell1⟩ := (hTa).add src (by omega) hsa
        simp only [World.size_alloc] at hrun1
        have HR1 := hideP hrun1
        have hb1x := hbel1 w.heap.size w (Nat.le_refl _) hba
        have hs1 := hb1x.size
        clear hrun1 hbel1
        have k1 := hcell1 ⟨wr.heap.size, 1, none⟩ (.string key) (by simp) hne1
        have k2 := hcell1 ⟨wr.heap.size, 2, none⟩ (.string src) (by simp) hne1
        clear hcell1
        obtain ⟨B2, e2, w12, hrun2, hT2, hbel2, hcell2⟩ := ((hT1).symm).add key (by omega) hs1
        replace hT2 := hT2.symm
        have HR2 := hideP hrun2
        have hb2x := hbel2 w.heap.size w (Nat.le_refl _) hb1x
        have hs2 := hb2x.size
        clear hrun2 hbel2 hcell2
        go_wp2_with (at_builtin; first | (refine Lib.wpList_append_run _ rfl _ _ _ _ rfl _ _ rfl rfl _ _ (HR1.out _) ?_; clear HR1) | refine Lib.wpList_append_run _ rfl _ _ _ _ rfl _ _ rfl rfl _ _ (HR2.out _) ?_)
        go_roundw
        case rel => exact ⟨k + 1, B1, e1, B2, e2, _, _, by omega, by go_num, by simp, by simp, by rw [HRd.out]; simp [rdO], by rw [HWr.out]; simp [wrO], hT2, hb2x⟩
        case measure => simp [intOf]; omega
      · have HRd := hideP (show rdL (d.take (k + 1)) = rs ++ rdO ⟨4, key, src, n⟩ by rw [HR.out, HG.out, HRS.out])
        have HWr := hideP (show wrL (d.take (k + 1)) = ws ++ wrO ⟨4, key, src, n⟩ by rw [HW.out, HG.out, HWS.out])
        obtain ⟨B1, e1, w11, hrun1, hT1, hbel1, hcell1⟩ := (hTa).add key (by omega) hsa
        simp only [World.size_alloc] at hrun1
        have HR1 := hideP hrun1
        have hb1x := hbel1 w.heap.size w (Nat.le_refl _) hba
        have hs1 := hb1x.size
        clear hrun1 hbel1 hcell1
        go_wp2_with (at_builtin; first | refine Lib.wpList_append_run _ rfl _ _ _ _ rfl _ _ rfl rfl _ _ (HR1.out _) ?_)
        go_roundw
        case rel => exact ⟨k + 1, B1, e1, A2, c2, _, _, by omega, by go_num, by simp, by simp, by rw [HRd.out]; simp [rdO], by rw [HWr.out]; simp [wrO], hT1, hb1x⟩
        case measure => simp [intOf]; omega
      · have HRd := hideP (show rdL (d.take (k + 1)) = rs ++ rdO ⟨5, key, src, n⟩ by rw [HR.out, HG.out, HRS.out])
        have HWr := hideP (show wrL (d.take (k + 1)) = ws ++ wrO ⟨5, key, src, n⟩ by rw [HW.out, HG.out, HWS.out])
        obtain ⟨B1, e1, w11, hrun1, hT1, hbel1, hcell1⟩ := (hTa).add2 src key (by omega) hsa
        simp only [World.size_alloc] at hrun1
        have HR1 := hideP hrun1
        have hb1x := hbel1 w.heap.size w (Nat.le_refl _) hba
        have hs1 := hb1x.size
        clear hrun1 hbel1
        have k1 := hcell1 ⟨wr.heap.size, 1, none⟩ (.string key) (by simp) hne1
        have k2 := hcell1 ⟨wr.heap.size, 2, none⟩ (.string src) (by simp) hne1
        clear hcell1
        obtain ⟨B2, e2, w12, hrun2, hT2, hbel2, hcell2⟩ := ((hT1).symm).add2 src key (by omega) hs1
        replace hT2 := hT2.symm
        have HR2 := hideP hrun2
        have hb2x := hbel2 w.heap.size w (Nat.le_refl _) hb1x
        have hs2 := hb2x.size
        clear hrun2 hbel2 hcell2
        go_wp2_with (at_builtin; first | (refine Lib.wpList_append_run _ rfl _ _ _ _ rfl _ _ rfl rfl _ _ (HR1.out _) ?_; clear HR1) | refine Lib.wpList_append_run _ rfl _ _ _ _ rfl _ _ rfl rfl _ _ (HR2.out _) ?_)
        go_roundw
        case rel => exact ⟨k + 1, B1, e1, B2, e2, _, _, by omega, by go_num, by simp, by simp, by rw [HRd.out]; simp [rdO], by rw [HWr.out]; simp [wrO], hT2, hb2x⟩
        case measure => simp [intOf]; omega
    · have hall : d.take k = d := List.take_of_length_le (by omega)
      rw [hall] at HRS HWS
      have hsz := hb.size
      go_wp2_with fail
      refine (sorted_two1 _ A1 A2 c1 c2 rs ws _ hT hsz (by omega)).mono ?_
      rintro e w5 ⟨rfl, hT5, hb5, hs5⟩
      have hb6 := hb.trans hb5
      clear hT hb hb5
      go_wp2_with fail
      refine (sorted_two2 _ A1 A2 c1 c2 _ ws _ hT5 (Nat.le_trans hsz hs5) (by omega)).mono ?_
      rintro e w6 ⟨rfl, hT6, hb7, hs6⟩
      have hb8 := hb6.trans hb7
      go_wp2_with fail
      go_ret3
      have e1 : rs = rdL d := HRS.out
      have e2 : ws = wrL d := HWS.out
      rw [e1, e2] at hT6
      exact ⟨A1, c1, A2, c2, by rw [e1, e2]; rfl, hT6, hb8⟩

set_option maxHeartbeats 400000 in
set_option maxRecDepth 100000 in
theorem keys_bad (D : Option Addr) (cd : Nat) (d : List Opr) (w : World) (hD : OS w w.heap.size D d) (hd : chkD d ≠ 0) :
    Calls Tryz.prog 80 #[.agg #[.slice D d.length cd]] w fun e w' => e = .returned (.tuple #[.slice none 0 0, .slice none 0 0, .int .i64 (chkD d)]) ∧ Below w.heap.size w w' := by
  have hb0 := (Below.refl w.heap.size w).alloc (Nat.le_refl _) (.cells #[.slice D d.length cd] 32)
  have hD0 := hD.go hb0
  have d0 : (chkD d != 0) = true := by simp [hd]
  generalize hq : chkD d = q at d0
  have HQ := hideP hq
  clear hq hd
  go_enter Tryz.func80, Tryz.ntmps80
  go_wp2_with fail
  refine (dcheck_any D cd d _ hD0).mono ?_
  rintro e w1 ⟨rfl, hb1⟩
  rw [HQ.out]
  have hb2 := hb0.trans (hb1.mono hb0.size)
  go_wp2_with fail
  go_ret3
  exact ⟨rfl, hb2⟩
end Go.Proofs.YtefdipjhjgmokaaGreat
