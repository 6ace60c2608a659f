/-
  roref.within, Key and Value: what they answer.
-/
import Derived.Test.YtpefdonhacmaoaaGreatDoorBd24
import Derived.Test.YtpefdonhacmaoaaGreatDoorBd4
import Derived.Shelf.Strings.SlTrimAscii
set_option linter.unusedVariables false
set_option linter.unusedSimpArgs false
namespace Go.Proofs.YtpefdonhacmaoaaGreatDoor
open Go.RowKit Go.WideMaps Go.Maps

set_option maxHeartbeats 400000 in
theorem rwithin_any (x a b : Int) (w : World) :
    Calls Tryz.prog 34 #[.int .i64 x, .int .i64 a, .int .i64 b] w fun e w' => e = .returned (.bool (decide (a ≤ x) && decide (x ≤ b))) ∧ w = w' := by
  by_cases h1 : a ≤ x <;> by_cases h2 : x ≤ b
  all_goals
    go_enter Tryz.func34, Tryz.ntmps34
    go_wp2
    go_ret
    exact ⟨ret_bool (by simp [h1, h2]), rfl⟩

set_option maxHeartbeats 400000 in
theorem rvalue_any (n : Int) (w : World) : Calls Tryz.prog 35 #[.int .i64 n] w fun e w' => e = .returned (.bool (valB n)) ∧ w = w' := by
  go_enter Tryz.func35, Tryz.ntmps35
  go_wp2_with fail
  refine (rwithin_any n (-1000000000) 1000000000 _).mono ?_
  rintro e w' ⟨rfl, rfl⟩
  rw [show (decide ((-1000000000 : Int) ≤ n) && decide (n ≤ 1000000000)) = valB n from rfl]
  go_wp2_with fail
  go_ret
  exact ⟨rfl, rfl⟩

def abcL : List UInt8 := [97, 98, 99, 100, 101, 102, 103, 104, 105, 106, 107, 108, 109, 110, 111, 112, 113, 114, 115, 116, 117, 118, 119, 120, 121, 122]
theorem abc_low : ∀ c : UInt8, abcL.contains c = lowB c := by
  have h : ∀ n : Fin 256, abcL.contains (UInt8.ofNat n.val) = lowB (UInt8.ofNat n.val) := by decide +kernel
  intro c
  have := h ⟨c.toNat, c.toNat_lt⟩
  simpa using this
theorem dropWhile_nil {p : UInt8 → Bool} {l : List UInt8} : l.dropWhile p = [] ↔ l.all p = true := by
  induction l with
  | nil => simp
  | cons a r ih => cases h : p a <;> simp [List.dropWhile_cons, h, ih]
theorem all_append_dropWhile {p : UInt8 → Bool} (l : List UInt8) : l.all p = (l.dropWhile p).all p := by
  induction l with
  | nil => rfl
  | cons a r ih => cases h : p a <;> simp [List.dropWhile_cons, h, ih]
theorem trim_nil (l : List UInt8) : (Lib.trimS l abcL).isEmpty = l.all lowB := by
  have e : (fun c => abcL.contains c) = lowB := funext abc_low
  unfold Lib.trimS Lib.trimLeftS Lib.trimRightS
  rw [e]
  have h : (l.reverse.dropWhile lowB).reverse.all lowB = l.all lowB := by
    rw [List.all_reverse, ← all_append_dropWhile, List.all_reverse]
  rw [← h]
  rw [Bool.eq_iff_iff, List.isEmpty_iff, dropWhile_nil]

set_option maxHeartbeats 400000 in
set_option maxRecDepth 100000 in
theorem rkeyR_any (s : ByteArray) (w : World) : Calls Tryz.prog 31 #[.string s] w fun e w' => e = .returned (.bool (keyB s)) ∧ Below w.heap.size w w' := by
  by_cases hin : 1 ≤ s.size ∧ s.size ≤ 6
  · have hcon := Any.strings_Trim_laid Tryz.trim (by kernel_rfl) s ⟨#[97, 98, 99, 100, 101, 102, 103, 104, 105, 106, 107, 108, 109, 110, 111, 112, 113, 114, 115, 116, 117, 118, 119, 120, 121, 122]⟩ w (by omega) (by decide) (ascii_of_all (by decide))
    change Calls Tryz.prog 51 _ _ (fun e w' => e = .returned (.string ⟨(Lib.trimS s.data.toList abcL).toArray⟩) ∧ Below w.heap.size w w') at hcon
    have ht := trim_nil s.data.toList
    have hk : keyB s = (⟨(Lib.trimS s.data.toList abcL).toArray⟩ : ByteArray).toList.isEmpty := by
      rw [ByteArray.toList_eq]
      show keyB s = (Lib.trimS s.data.toList abcL).isEmpty
      rw [ht]; simp [keyB, hin.1, hin.2]
    generalize (⟨(Lib.trimS s.data.toList abcL).toArray⟩ : ByteArray) = r at hcon hk
    have HC := hideP hcon
    have HK := hideP hk
    clear hcon hk ht
    go_enter Tryz.func31, Tryz.ntmps31
    go_wp2_with fail
    refine (rwithin_any _ _ _ _).mono ?_
    rintro e w' ⟨rfl, rfl⟩
    rw [show (decide ((1 : Int) ≤ (s.size : Int)) && decide ((s.size : Int) ≤ 6)) = true by simp; omega]
    cases hr : r.toList.isEmpty
    · go_wp2_with fail
      refine HC.out.mono ?_
      rintro e w1 ⟨rfl, hb⟩
      go_wp2_with fail
      go_ret
      exact ⟨ret_bool (by rw [HK.out, hr]), hb⟩
    · go_wp2_with fail
      refine HC.out.mono ?_
      rintro e w1 ⟨rfl, hb⟩
      go_wp2_with fail
      go_ret
      exact ⟨ret_bool (by rw [HK.out, hr]), hb⟩
  · have hk : keyB s = false := by
      cases h : keyB s
      · rfl
      · simp [keyB] at h; exact absurd h.1 hin
    have HK := hideP hk
    clear hk
    go_enter Tryz.func31, Tryz.ntmps31
    go_wp2_with fail
    refine (rwithin_any _ _ _ _).mono ?_
    rintro e w' ⟨rfl, rfl⟩
    rw [show (decide ((1 : Int) ≤ (s.size : Int)) && decide ((s.size : Int) ≤ 6)) = false by rw [Bool.eq_false_iff]; simp; omega]
    go_wp2_with fail
    go_ret
    exact ⟨ret_bool HK.out.symm, Below.refl _ _⟩
end Go.Proofs.YtpefdonhacmaoaaGreatDoor
