/-
  roref.Touches.
-/
import Derived.Test.YtpefdonhacmaoaaGreatDoorBd33
import Derived.Test.YtpefdonhacmaoaaGreatDoorBd20
import Derived.Test.YtpefdonhacmaoaaGreatDoorBd15
import Derived.Deep.RegionHeld3
set_option linter.unusedVariables false
set_option linter.unusedSimpArgs false
namespace Go.Proofs.YtpefdonhacmaoaaGreatDoor
open Go.RowKit Go.WideMaps Go.Maps

theorem OpAt.grown {w w' : World} {b : Nat} {o : Opr} (h : OpAt w b o) {row : Option Nat} (hg : w.grownBy w' row) (hne : some b ≠ row) : OpAt w' b o :=
  ⟨Nat.lt_of_lt_of_le h.lt hg.size, hg.cell h.kind hne, hg.cell h.key hne, hg.cell h.src hne, hg.cell h.n hne⟩
theorem or_swap {p q r : Prop} : (p ∨ q ∨ r) ↔ (p ∨ r ∨ q) := ⟨fun h => by rcases h with h | h | h; exact .inl h; exact .inr (.inr h); exact .inr (.inl h), fun h => by rcases h with h | h | h; exact .inl h; exact .inr (.inr h); exact .inr (.inl h)⟩
/-- two new sets are handed back -/
def RetSets (w : World) (d : List Opr) (e : Ending) (w' : World) : Prop :=
  ∃ b1 b2 n D1 D2, e = .returned (.tuple #[.map (some b1), .map (some b2)]) ∧ Sets w' w.heap.size b1 b2 n D1 D2 (rdL d) (wrL d) ∧ n ≤ 100 ∧ Below w.heap.size w w'
/-- while they are gathered -/
def SetsInv (w : World) (b1 b2 : Nat) (d : List Opr) (i : Value) (wr : World) : Prop :=
  ∃ (k : Nat) (D1 D2 : DataW Unit), k ≤ d.length ∧ i = .int .i64 k ∧ Sets wr w.heap.size b1 b2 (4 * k) D1 D2 (rdL (d.take k)) (wrL (d.take k)) ∧ Below w.heap.size w wr

set_option maxHeartbeats 1000000 in
set_option maxRecDepth 100000 in
theorem touches_any (A : Option Addr) (c : Nat) (d : List Opr) (w : World) (hA : OS w w.heap.size A d) (hd : chkD d = 0) :
    Calls Tryz.prog 19 #[.agg #[.slice A d.length c]] w (RetSets w d) := by
  have hmm := @run_makeMap Tryz.prog
  obtain ⟨hd1, hd8, hdo⟩ := chkD_zero.1 hd
  clear hd
  go_enter Tryz.func19, Tryz.ntmps19
  go_wp2_with fail
  have hS0 : Sets (((w.alloc (.cells #[.slice A d.length c] 43)).alloc (.map #[] 0)).alloc (.map #[] 0)) w.heap.size (w.heap.size + 1) (w.heap.size + 1 + 1) (4 * 0) (.map []) (.map []) [] [] := by
    have h1 := World.ownsMap_made (H := Unit) (w.alloc (.cells #[.slice A d.length c] 43)) Tryz.prog 9 (plainElem Tryz.prog 4)
    have h2 := World.ownsMap_made (H := Unit) ((w.alloc (.cells #[.slice A d.length c] 43)).alloc (.map #[] 0)) Tryz.prog 9 (plainElem Tryz.prog 4)
    rw [World.size_alloc] at h1
    rw [World.size_alloc, World.size_alloc] at h2
    exact ⟨h1.alloc _, h2, KSet.empty, KSet.empty, by omega, by omega, by omega⟩
  have hbW : Below w.heap.size w (((w.alloc (.cells #[.slice A d.length c] 43)).alloc (.map #[] 0)).alloc (.map #[] 0)) := (((Below.refl _ w).alloc (Nat.le_refl _) _).alloc (by simp) _).alloc (by simp; omega) _
  generalize ((w.alloc (.cells #[.slice A d.length c] 43)).alloc (.map #[] 0)).alloc (.map #[] 0) = wS at hS0 hbW ⊢
  go_loopw [13] (SetsInv w (w.heap.size + 1) (w.heap.size + 1 + 1) d) (fun i _ => d.length - (intOf i).toNat)
  case atStart => exact ⟨0, _, _, Nat.zero_le _, rfl, hS0, hbW⟩
  case round =>
    obtain ⟨k, D1, D2, hk, rfl, hSr, hb⟩ := hrel
    clear hS0 hbW
    by_cases hlt : k < d.length
    · have hchk := chkO_zero.1 (hdo _ (List.getElem_mem hlt))
      obtain ⟨b, o, rfl, hbl, q1, q2, q3, q4⟩ := (hA.below hb) k _ (List.getElem?_eq_getElem hlt)
      have HR := hideP (rdL_take hlt)
      have HW := hideP (wrL_take hlt)
      generalize hgo : d[k] = p at hchk q1 q2 q3 q4
      have HG := hideP hgo
      clear hgo hdo hA
      obtain ⟨kd, key, src, n⟩ := p
      simp only at hchk q1 q2 q3 q4
      have hk1 := hchk.1
      have hk5 := hchk.2.1
      have hk6 : key.size ≤ maxLen := by have := hchk.2.2.1; simp [keyB] at this; unfold maxLen; omega
      have hs6' : kd = 3 ∨ kd = 5 → src.size ≤ maxLen := fun h => by have := (hchk.2.2.2.1 h).1; simp [keyB] at this; unfold maxLen; omega
      clear hchk
      have hS := hSr.below ((Below.refl _ wr).alloc (Nat.le_refl _) (.cells #[.int .i64 kd, .string key, .string src, .int .i64 n] 88))
      have hat := OpAt.new wr ⟨kd, key, src, n⟩ 88
      simp only at hat
      have hb0 := hb.alloc hb.size (.cells #[.int .i64 kd, .string key, .string src, .int .i64 n] 88)
      have hx1 : ¬ wr.heap.size = w.heap.size + 1 := by have := hSr.m1.lt; omega
      have hx2 : ¬ wr.heap.size = w.heap.size + 1 + 1 := by have := hSr.m2.lt; omega
      clear hSr
      rcases (show kd = 1 ∨ kd = 2 ∨ kd = 3 ∨ kd = 4 ∨ kd = 5 by omega) with rfl | rfl | rfl | rfl | rfl
      · have hsz0 := hb0.size
        obtain ⟨w1, hr1, hT1, hg1⟩ := (hS.symm).put (by omega) key hk6
        replace hT1 := hT1.symm
        have hat1 := hat.grown hg1 (fun e => hx2 (by injection e))
        have hb1 := hb0.grown hg1 hb0.size (fun j hj => by cases hj; omega)
        have z10 := hat1.kind
        have z11 := hat1.key
        have z12 := hat1.src
        simp only at z10 z11 z12
        clear hg1
        have hF : Sets w1 w.heap.size (w.heap.size + 1) (w.heap.size + 1 + 1) (4 * (k + 1)) _ _ (rdL (d.take (k + 1))) (wrL (d.take (k + 1))) := ⟨hT1.m1.mono (by omega), hT1.m2.mono (by omega), hT1.k1.congr (fun j => by rw [HR.out, HG.out]; simp [rdO]), hT1.k2.congr (fun j => by rw [HW.out, HG.out]; simp [wrO]), hT1.ne, hT1.l1, hT1.l2⟩
        have HF := hideP hF
        clear hF hT1
        go_wp2_with fail
        go_roundw
        case rel => exact ⟨k + 1, _, _, by omega, by go_num, HF.out, hb1⟩
        case measure => simp [intOf]; omega
      · have hsz0 := hb0.size
        obtain ⟨w1, hr1, hT1, hg1⟩ := (hS).put (by omega) key hk6
        have hat1 := hat.grown hg1 (fun e => hx1 (by injection e))
        have hb1 := hb0.grown hg1 hb0.size (fun j hj => by cases hj; omega)
        have z10 := hat1.kind
        have z11 := hat1.key
        have z12 := hat1.src
        simp only at z10 z11 z12
        obtain ⟨w2, hr2, hT2, hg2⟩ := (hT1.symm).put (by omega) key hk6
        replace hT2 := hT2.symm
        have hat2 := hat1.grown hg2 (fun e => hx2 (by injection e))
        have hb2 := hb1.grown hg2 hb1.size (fun j hj => by cases hj; omega)
        have z20 := hat2.kind
        have z21 := hat2.key
        have z22 := hat2.src
        simp only at z20 z21 z22
        clear hg1 hg2
        have hF : Sets w2 w.heap.size (w.heap.size + 1) (w.heap.size + 1 + 1) (4 * (k + 1)) _ _ (rdL (d.take (k + 1))) (wrL (d.take (k + 1))) := ⟨hT2.m1.mono (by omega), hT2.m2.mono (by omega), hT2.k1.congr (fun j => by rw [HR.out, HG.out]; simp [rdO]), hT2.k2.congr (fun j => by rw [HW.out, HG.out]; simp [wrO]), hT2.ne, hT2.l1, hT2.l2⟩
        have HF := hideP hF
        clear hF hT1 hT2
        go_wp2_with fail
        go_roundw
        case rel => exact ⟨k + 1, _, _, by omega, by go_num, HF.out, hb2⟩
        case measure => simp [intOf]; omega
      · have hsz0 := hb0.size
        have hs6 := hs6' (by decide)
        obtain ⟨w1, hr1, hT1, hg1⟩ := (hS).put (by omega) src hs6
        have hat1 := hat.grown hg1 (fun e => hx1 (by injection e))
        have hb1 := hb0.grown hg1 hb0.size (fun j hj => by cases hj; omega)
        have z10 := hat1.kind
        have z11 := hat1.key
        have z12 := hat1.src
        simp only at z10 z11 z12
        obtain ⟨w2, hr2, hT2, hg2⟩ := (hT1.symm).put (by omega) key hk6
        replace hT2 := hT2.symm
        have hat2 := hat1.grown hg2 (fun e => hx2 (by injection e))
        have hb2 := hb1.grown hg2 hb1.size (fun j hj => by cases hj; omega)
        have z20 := hat2.kind
        have z21 := hat2.key
        have z22 := hat2.src
        simp only at z20 z21 z22
        clear hg1 hg2
        have hF : Sets w2 w.heap.size (w.heap.size + 1) (w.heap.size + 1 + 1) (4 * (k + 1)) _ _ (rdL (d.take (k + 1))) (wrL (d.take (k + 1))) := ⟨hT2.m1.mono (by omega), hT2.m2.mono (by omega), hT2.k1.congr (fun j => by rw [HR.out, HG.out]; simp [rdO]), hT2.k2.congr (fun j => by rw [HW.out, HG.out]; simp [wrO]), hT2.ne, hT2.l1, hT2.l2⟩
        have HF := hideP hF
        clear hF hT1 hT2
        go_wp2_with fail
        go_roundw
        case rel => exact ⟨k + 1, _, _, by omega, by go_num, HF.out, hb2⟩
        case measure => simp [intOf]; omega
      · have hsz0 := hb0.size
        obtain ⟨w1, hr1, hT1, hg1⟩ := (hS).put (by omega) key hk6
        have hat1 := hat.grown hg1 (fun e => hx1 (by injection e))
        have hb1 := hb0.grown hg1 hb0.size (fun j hj => by cases hj; omega)
        have z10 := hat1.kind
        have z11 := hat1.key
        have z12 := hat1.src
        simp only at z10 z11 z12
        clear hg1
        have hF : Sets w1 w.heap.size (w.heap.size + 1) (w.heap.size + 1 + 1) (4 * (k + 1)) _ _ (rdL (d.take (k + 1))) (wrL (d.take (k + 1))) := ⟨hT1.m1.mono (by omega), hT1.m2.mono (by omega), hT1.k1.congr (fun j => by rw [HR.out, HG.out]; simp [rdO]), hT1.k2.congr (fun j => by rw [HW.out, HG.out]; simp [wrO]), hT1.ne, hT1.l1, hT1.l2⟩
        have HF := hideP hF
        clear hF hT1
        go_wp2_with fail
        go_roundw
        case rel => exact ⟨k + 1, _, _, by omega, by go_num, HF.out, hb1⟩
        case measure => simp [intOf]; omega
      · have hsz0 := hb0.size
        have hs6 := hs6' (by decide)
        obtain ⟨w1, hr1, hT1, hg1⟩ := (hS).put (by omega) key hk6
        have hat1 := hat.grown hg1 (fun e => hx1 (by injection e))
        have hb1 := hb0.grown hg1 hb0.size (fun j hj => by cases hj; omega)
        have z10 := hat1.kind
        have z11 := hat1.key
        have z12 := hat1.src
        simp only at z10 z11 z12
        obtain ⟨w2, hr2, hT2, hg2⟩ := (hT1).put (by omega) src hs6
        have hat2 := hat1.grown hg2 (fun e => hx1 (by injection e))
        have hb2 := hb1.grown hg2 hb1.size (fun j hj => by cases hj; omega)
        have z20 := hat2.kind
        have z21 := hat2.key
        have z22 := hat2.src
        simp only at z20 z21 z22
        obtain ⟨w3, hr3, hT3, hg3⟩ := (hT2.symm).put (by omega) key hk6
        replace hT3 := hT3.symm
        have hat3 := hat2.grown hg3 (fun e => hx2 (by injection e))
        have hb3 := hb2.grown hg3 hb2.size (fun j hj => by cases hj; omega)
        have z30 := hat3.kind
        have z31 := hat3.key
        have z32 := hat3.src
        simp only at z30 z31 z32
        obtain ⟨w4, hr4, hT4, hg4⟩ := (hT3.symm).put (by omega) src hs6
        replace hT4 := hT4.symm
        have hat4 := hat3.grown hg4 (fun e => hx2 (by injection e))
        have hb4 := hb3.grown hg4 hb3.size (fun j hj => by cases hj; omega)
        have z40 := hat4.kind
        have z41 := hat4.key
        have z42 := hat4.src
        simp only at z40 z41 z42
        clear hg1 hg2 hg3 hg4
        have hF : Sets w4 w.heap.size (w.heap.size + 1) (w.heap.size + 1 + 1) (4 * (k + 1)) _ _ (rdL (d.take (k + 1))) (wrL (d.take (k + 1))) := ⟨hT4.m1.mono (by omega), hT4.m2.mono (by omega), hT4.k1.congr (fun j => by rw [HR.out, HG.out]; simp [rdO]; exact or_swap), hT4.k2.congr (fun j => by rw [HW.out, HG.out]; simp [wrO]; exact or_swap), hT4.ne, hT4.l1, hT4.l2⟩
        have HF := hideP hF
        clear hF hT1 hT2 hT3 hT4
        go_wp2_with fail
        go_roundw
        case rel => exact ⟨k + 1, _, _, by omega, by go_num, HF.out, hb4⟩
        case measure => simp [intOf]; omega
    · rw [List.take_of_length_le (by omega)] at hSr
      have HF := hideP (show RetSets w d (.returned (.tuple #[.map (some (w.heap.size + 1)), .map (some (w.heap.size + 1 + 1))])) wr from ⟨_, _, _, _, _, rfl, hSr, by omega, hb⟩)
      clear hSr
      go_wp2_with fail
      go_ret2
      exact HF.out
end Go.Proofs.YtpefdonhacmaoaaGreatDoor
