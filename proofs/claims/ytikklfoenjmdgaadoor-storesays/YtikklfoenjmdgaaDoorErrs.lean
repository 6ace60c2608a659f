/-
  What Put and Join answer where they refuse.
-/
import Derived.Test.YtikklfoenjmdgaaDoorJoin
import Derived.Test.YtikklfoenjmdgaaDoorGet
set_option linter.unusedVariables false
set_option linter.unusedSimpArgs false
namespace Go.Proofs.YtikklfoenjmdgaaDoor
open Go.RowKit

set_option maxHeartbeats 400000 in
set_option maxRecDepth 100000 in
theorem put_key (A : Option Addr) (c : Nat) (l : List Pr) (key : ByteArray) (n : Int) (w : World) (hA : SV w A c l) (hl : l.length < 4611686018427387904) (h : Ok l) (hk : keyB key = false) :
    Calls Tryd.prog 6 #[.slice A l.length c, .string key, .int .i64 n] w fun e w' => e = .returned (.tuple #[.slice none 0 0, .int .i64 3]) ∧ Below w.heap.size w w' := by
  have hps := hA.ps
  have HC := hideP (chk_ok.2 h)
  clear hA h
  go_enter Tryd.func6, Tryd.ntmps6
  go_wp2_with fail
  refine (check_any A c l _ hps hl).mono ?_
  rintro e w' ⟨rfl, hb⟩
  rw [HC.out]
  go_wp2_with fail
  refine (key_any _ _).mono ?_
  rintro e w' ⟨rfl, rfl⟩
  go_wp2_with fail
  go_ret2
  exact ⟨rfl, hb⟩
set_option maxHeartbeats 400000 in
set_option maxRecDepth 100000 in
theorem put_val (A : Option Addr) (c : Nat) (l : List Pr) (key : ByteArray) (n : Int) (w : World) (hA : SV w A c l) (hl : l.length < 4611686018427387904) (h : Ok l) (hk : keyB key = true) (hn : valB n = false) :
    Calls Tryd.prog 6 #[.slice A l.length c, .string key, .int .i64 n] w fun e w' => e = .returned (.tuple #[.slice none 0 0, .int .i64 1]) ∧ Below w.heap.size w w' := by
  have hps := hA.ps
  have HC := hideP (chk_ok.2 h)
  clear hA h
  go_enter Tryd.func6, Tryd.ntmps6
  go_wp2_with fail
  refine (check_any A c l _ hps hl).mono ?_
  rintro e w' ⟨rfl, hb⟩
  rw [HC.out]
  go_wp2_with fail
  refine (key_any _ _).mono ?_
  rintro e w' ⟨rfl, rfl⟩
  go_wp2_with fail
  refine (value_any _ _).mono ?_
  rintro e w' ⟨rfl, rfl⟩
  go_wp2_with fail
  go_ret2
  exact ⟨rfl, hb⟩

/-- the error of Check of two stores, the first one first -/
def chk2 (a b : List Pr) : Int := if chk ByteArray.empty a = 0 then chk ByteArray.empty b else chk ByteArray.empty a
set_option maxHeartbeats 400000 in
set_option maxRecDepth 100000 in
theorem join_bad (A B : Option Addr) (ca cb : Nat) (a b : List Pr) (w : World) (hA : SV w A ca a) (hB : SV w B cb b) (la : a.length < 4611686018427387904) (lb : b.length < 4611686018427387904) (h : chk2 a b ≠ 0) :
    Calls Tryd.prog 18 #[.slice A a.length ca, .slice B b.length cb] w fun e w' => e = .returned (.tuple #[.slice none 0 0, .int .i64 (chk2 a b)]) ∧ Below w.heap.size w w' := by
  have pa := hA.ps
  have pb := hB.ps
  clear hA hB
  by_cases ha : chk ByteArray.empty a = 0
  · have e1 : chk2 a b = chk ByteArray.empty b := by simp [chk2, ha]
    rw [e1] at h ⊢
    clear e1
    generalize hC : chk ByteArray.empty b = C at h
    have HC := hideP hC
    have HA := hideP ha
    have d : (C != 0) = true := by simp [h]
    clear hC h ha
    go_enter Tryd.func18, Tryd.ntmps18
    go_wp2_with fail
    refine (check_any A ca a _ pa la).mono ?_
    rintro e w1 ⟨rfl, hb1⟩
    rw [HA.out]
    have pb1 := (pb.below hb1).more hb1.size
    go_wp2_with fail
    refine (check_any B cb b _ pb1 lb).mono ?_
    rintro e w2 ⟨rfl, hb2⟩
    rw [HC.out]
    go_wp2_with fail
    go_ret2
    exact ⟨rfl, hb1.trans (hb2.mono hb1.size)⟩
  · have e1 : chk2 a b = chk ByteArray.empty a := by simp [chk2, ha]
    rw [e1] at h ⊢
    clear e1 ha
    generalize hC : chk ByteArray.empty a = C at h
    have HC := hideP hC
    have d : (C != 0) = true := by simp [h]
    clear hC h
    go_enter Tryd.func18, Tryd.ntmps18
    go_wp2_with fail
    refine (check_any A ca a _ pa la).mono ?_
    rintro e w1 ⟨rfl, hb1⟩
    rw [HC.out]
    go_wp2_with fail
    go_ret2
    exact ⟨rfl, hb1⟩
end Go.Proofs.YtikklfoenjmdgaaDoor
