/-
  store.Put at a valid store, key and value: the store with that key set, in memory of its own.
-/
import Derived.Test.YtoelnhnbefkfoaaGet
import Derived.Test.YtoelnhnbefkfoaaCount
set_option linter.unusedVariables false
set_option linter.unusedSimpArgs false
namespace Go.Proofs.Ytoelnhnbefkfoaa
open Go.RowKit

/-- the values of keys -/
abbrev VF := ByteArray → Int
def upd (v : VF) (k : ByteArray) (n : Int) : VF := fun j => if j = k then n else v j
theorem upd_same (v : VF) (k : ByteArray) (n : Int) : upd v k n k = n := by simp [upd]
theorem upd_other (v : VF) {k j : ByteArray} (n : Int) (h : j ≠ k) : upd v k n j = v j := by simp [upd, h]
theorem Ok.vb {l : List Pr} (h : Ok l) (k : ByteArray) : valB (valOf l k) = true := by
  by_cases h0 : valOf l k = 0
  · rw [h0]; decide
  · obtain ⟨p, hp, rfl⟩ := valOf_ne h0
    rw [valOf_mem h.srt hp]
    exact h.val p hp
theorem valB_iff {n : Int} : valB n = true ↔ -1000000000 ≤ n ∧ n ≤ 1000000000 := by simp [valB]
/-- a store with one key set is handed back, in memory of its own -/
def RetPut (w : World) (l : List Pr) (key : ByteArray) (n : Int) (e : Ending) (w' : World) : Prop :=
  ∃ A c l', e = .returned (.tuple #[.slice A l'.length c, .int .i64 0]) ∧ SV w' A c l' ∧ Ok l' ∧ valOf l' = upd (valOf l) key n ∧ (Below w.heap.size w w' ∧ OV w' w.heap.size A c l')
theorem put_st (A : Option Addr) (c : Nat) (l : List Pr) (key : ByteArray) (n : Int) (w : World) (hA : SV w A c l) (hl : Ok l) (hk : keyB key = true) (hn : valB n = true) :
    Calls Try.prog 26 #[.slice A l.length c, .string key, .int .i64 n] w (RetPut w l key n) := by
  have hq := posOf_at hl.srt key
  have := hl.small
  refine (put_own A c l key n (posOf l key) w hA hl hk hn hq (by omega)).mono ?_
  rintro e w' ⟨A', c', rfl, hsv, hb⟩
  have h := putL_ok hl hq hk hn
  exact ⟨A', c', _, rfl, hsv, h.1, funext h.2, hb⟩

set_option maxHeartbeats 400000 in
set_option maxRecDepth 100000 in
theorem put_nv (A : Option Addr) (c : Nat) (l : List Pr) (key : ByteArray) (n : Int) (w : World) (hA : SV w A c l) (h : Ok l) (hk : keyB key = true) (hn : valB n = false) :
    Calls Try.prog 26 #[.slice A l.length c, .string key, .int .i64 n] w fun e w' => e = .returned (.tuple #[.slice none 0 0, .int .i64 1]) ∧ Below w.heap.size w w' := by
  have hps := hA.ps
  have hl : l.length < 4611686018427387904 := by have := h.small; omega
  have HC := hideP (chk_ok.2 h)
  clear hA h
  go_enter Try.func26, Try.ntmps26
  go_wp2_with fail
  refine (check_any A c l _ hps hl).mono ?_
  rintro e w' ⟨rfl, hb⟩
  rw [HC.out]
  go_wp2_with fail
  refine (key_any _ _).mono ?_
  rintro e w' ⟨rfl, rfl⟩
  go_wp2_with fail
  refine (value_any _ _).mono ?_
  rintro e w' ⟨rfl, rfl⟩
  go_wp2_with fail
  go_ret2
  exact ⟨rfl, hb⟩
end Go.Proofs.Ytoelnhnbefkfoaa
