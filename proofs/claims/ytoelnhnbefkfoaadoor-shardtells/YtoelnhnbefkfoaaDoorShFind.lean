/-
  shard.Find.
-/
import Derived.Test.YtoelnhnbefkfoaaDoorShSmall
import Derived.Deep.RegionHeld3
set_option linter.unusedVariables false
set_option linter.unusedSimpArgs false
namespace Go.Proofs.YtoelnhnbefkfoaaDoor
open Go.RowKit

/-- while a function of a map runs: its box and what it reads as -/
structure MH (w : World) (g : Nat) (m : Mp) (wr : World) : Prop where
  x0 : Box wr g 25 #[.slice m.A m.cs.length m.ca, .slice m.O m.os.length m.co]
  ms : MS wr m
  be : Below w.heap.size w wr
theorem MH.below {w wr w' : World} {g : Nat} {m : Mp} (h : MH w g m wr) (hb : Below wr.heap.size wr w') : MH w g m w' := ⟨h.x0.below hb, h.ms.below hb, h.be.trans (hb.mono h.be.size)⟩
theorem MH.c {w wr : World} {g : Nat} {m : Mp} (h : MH w g m wr) : wr.cell? ⟨g, 0, none⟩ = some (.slice m.A m.cs.length m.ca) ∧ wr.cell? ⟨g, 1, none⟩ = some (.slice m.O m.os.length m.co) := ⟨h.x0.cell 0 rfl, h.x0.cell 1 rfl⟩
theorem MH.new {w : World} {m : Mp} (hm : MS w m) : MH w w.heap.size m (w.alloc (.cells #[.slice m.A m.cs.length m.ca, .slice m.O m.os.length m.co] 25)) :=
  ⟨Box.new _ _ _, hm.below ((Below.refl _ _).alloc (Nat.le_refl _) _), (Below.refl _ _).alloc (Nat.le_refl _) _⟩
/-- what Find answers -/
def findV (cs : List ByteArray) (os : List Int) (key : ByteArray) : Int × Int :=
  if chkM cs os ≠ 0 then (0, chkM cs os) else if keyB key = false then (0, 3) else (whV cs os key, 0)
theorem findV_bad {cs : List ByteArray} {os : List Int} {key : ByteArray} (h : chkM cs os ≠ 0) : findV cs os key = (0, chkM cs os) := by unfold findV; rw [if_pos h]
theorem findV_key {cs : List ByteArray} {os : List Int} {key : ByteArray} (h : chkM cs os = 0) (hk : keyB key = false) : findV cs os key = (0, 3) := by unfold findV; rw [if_neg (by simp [h]), if_pos hk]
theorem findV_ok {cs : List ByteArray} {os : List Int} {key : ByteArray} (h : chkM cs os = 0) (hk : keyB key = true) : findV cs os key = (whV cs os key, 0) := by unfold findV; rw [if_neg (by simp [h]), if_neg (by simp [hk])]
theorem ret_ii {a b c d : Int} (h : a = c) (k : b = d) : Ending.returned (.tuple #[.int .i64 a, .int .i64 b]) = .returned (.tuple #[.int .i64 c, .int .i64 d]) := by rw [h, k]
def RetFd (w : World) (r : Int × Int) (e : Ending) (w' : World) : Prop := e = .returned (.tuple #[.int .i64 r.1, .int .i64 r.2]) ∧ Below w.heap.size w w'

set_option maxHeartbeats 1000000 in
set_option maxRecDepth 100000 in
theorem shfind_any (m : Mp) (key : ByteArray) (w : World) (hm : MS w m) (l2 : m.os.length ≤ 9223372036854775807) :
    Calls Tryd.prog 6 #[.agg #[.slice m.A m.cs.length m.ca, .slice m.O m.os.length m.co], .string key] w (RetFd w (findV m.cs m.os key)) := by
  have hH := MH.new hm
  go_enter Tryd.func6, Tryd.ntmps6
  obtain ⟨z1, z2⟩ := hH.c
  go_wp2_with fail
  generalize w.alloc (.cells #[.slice m.A m.cs.length m.ca, .slice m.O m.os.length m.co] 25) = w1 at hH z1 z2 ⊢
  generalize w.heap.size = g at hH z1 z2 ⊢
  refine (shcheck_any m _ hH.ms l2).mono ?_
  rintro e w2 ⟨rfl, hb2⟩
  replace hH := hH.below hb2
  clear hb2 z1 z2
  by_cases hc : chkM m.cs m.os = 0
  · have hok := chkM_ok.1 hc
    have hfew := hok.few
    have hlen := hok.len
    have HC := hideP hc
    rw [hc]
    go_wp2_with fail
    refine (key_any _ _).mono ?_
    rintro e w3 ⟨rfl, rfl⟩
    cases hk : keyB key
    · have HK := hideP hk
      have hbe := hH.be
      clear hk
      go_wp2_with fail
      go_ret2
      exact ⟨ret_ii (by rw [findV_key HC.out HK.out]) (by rw [findV_key HC.out HK.out]), hbe⟩
    · have HK := hideP hk
      clear hk
      have hat := atC_le m.cs key
      obtain ⟨bO, oO, eO, _, _⟩ := hm.own (atC m.cs key) (m.os.getD (atC m.cs key) 0) (by simp [List.getD_eq_getElem?_getD, show atC m.cs key < m.os.length by omega])
      have HS := hideP (fun (wr : World) (h : MH w g m wr) => show wr.cell? ⟨g, 0, none⟩ = some (.slice m.A m.cs.length m.ca) ∧ wr.cell? ⟨g, 1, none⟩ = some (.slice (some ⟨bO, oO, none⟩) m.os.length m.co) ∧ wr.cell? ⟨bO, oO + atC m.cs key, none⟩ = some (.int .i64 (whV m.cs m.os key)) from by
        obtain ⟨b2, o2, e2, _, c2⟩ := h.ms.own (atC m.cs key) (m.os.getD (atC m.cs key) 0) (by simp [List.getD_eq_getElem?_getD, show atC m.cs key < m.os.length by omega])
        rw [eO] at e2
        injection e2 with e2
        injection e2 with e3 e4
        subst e3; subst e4
        exact ⟨h.c.1, by rw [← eO]; exact h.c.2, c2⟩)
      have HP := hideP (fun (wr : World) (h : MH w g m wr) => show Calls Tryd.prog 31 #[.agg #[.slice m.A m.cs.length m.ca, .slice (some ⟨bO, oO, none⟩) m.os.length m.co], .string key] wr fun e w' => e = .returned (.int .i64 (atC m.cs key : Nat)) ∧ Below wr.heap.size wr w' from by
        rw [← eO]; exact place_any m key wr h.ms hfew)
      have HF := hideP (show findV m.cs m.os key = (whV m.cs m.os key, 0) from findV_ok HC.out HK.out)
      have g1 : ((atC m.cs key : Nat) : Int) < (m.os.length : Int) := by omega
      have g2 : (0 : Int) ≤ ((atC m.cs key : Nat) : Int) := by omega
      generalize atC m.cs key = a at HS HP g1 g2
      generalize whV m.cs m.os key = v at HS HF
      clear hok hfew hlen hat
      generalize m.cs.length = n1 at HS HP
      generalize m.os.length = n2 at HS HP g1
      go_wp2_with fail
      replace hH := hH.below (Below.refl _ _).drew
      go_region_held3 (fun w' => w'.cell? ⟨g, 0, none⟩ = some (.slice m.A n1 m.ca) ∧ w'.cell? ⟨g, 1, none⟩ = some (.slice (some ⟨bO, oO, none⟩) n2 m.co) ∧ w'.cell? ⟨bO, oO + a, none⟩ = some (.int .i64 v)) (with_reducible exact HS.out _ hH) (first
        | (go_at_call 31; refine (HP.out _ hH).mono ?_; rintro e wn ⟨rfl, hbn⟩; replace hH := hH.below hbn; clear hbn))
      have hbe := hH.be
      go_wp2_with fail
      go_ret2
      exact ⟨ret_ii (by rw [HF.out]) (by rw [HF.out]), hbe⟩
  · have HF := hideP (show findV m.cs m.os key = (0, chkM m.cs m.os) from findV_bad hc)
    have d : (chkM m.cs m.os != 0) = true := by simp [hc]
    have hbe := hH.be
    clear hc
    generalize chkM m.cs m.os = q at d HF ⊢
    go_wp2_with fail
    go_ret2
    exact ⟨ret_ii (by rw [HF.out]) (by rw [HF.out]), hbe⟩
end Go.Proofs.YtoelnhnbefkfoaaDoor
