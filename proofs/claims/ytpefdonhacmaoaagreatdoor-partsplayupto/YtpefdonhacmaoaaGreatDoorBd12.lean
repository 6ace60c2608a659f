/-
  There are no more valid keys than 27^6, so that a valid store is no longer (no program in it).
  (*parts.Parts).All.
-/
import Derived.Test.YtpefdonhacmaoaaGreatDoorBd6
import Derived.Test.YtpefdonhacmaoaaGreatDoorBd7
import Derived.Test.YtpefdonhacmaoaaGreatDoorBd11
set_option linter.unusedVariables false
set_option linter.unusedSimpArgs false
namespace Go.Proofs.YtpefdonhacmaoaaGreatDoor
open Go.RowKit

/-- a key as a number of n digits to the base 27 -/
def num : Nat → List UInt8 → Nat
  | 0, _ => 0
  | _ + 1, [] => 0
  | n + 1, c :: r => (c.toNat - 96) * 27 ^ n + num n r
theorem low_dig {c : UInt8} (h : lowB c = true) : 1 ≤ c.toNat - 96 ∧ c.toNat - 96 ≤ 26 := by
  simp [lowB] at h; omega
theorem num_lt : ∀ (n : Nat) (l : List UInt8), l.all lowB = true → num n l < 27 ^ n
  | 0, l, _ => by simp [num]
  | n + 1, [], _ => by simp only [num]; exact Nat.pow_pos (by omega)
  | n + 1, c :: r, h => by
    simp only [List.all_cons, Bool.and_eq_true] at h
    have h1 := low_dig h.1
    have h2 := num_lt n r h.2
    simp only [num]
    have h3 : (c.toNat - 96) * 27 ^ n ≤ 26 * 27 ^ n := Nat.mul_le_mul_right _ h1.2
    rw [Nat.pow_succ]
    omega
theorem num_mono : ∀ (n : Nat) (l m : List UInt8), l.all lowB = true → m.all lowB = true → l.length ≤ n → m.length ≤ n → l < m → num n l < num n m
  | 0, l, m, _, _, h1, h2, h => by
    have e1 : l = [] := List.length_eq_zero_iff.1 (by omega)
    have e2 : m = [] := List.length_eq_zero_iff.1 (by omega)
    subst e1; subst e2; exact absurd h (List.lt_irrefl _)
  | n + 1, [], [], _, _, _, _, h => absurd h (List.lt_irrefl _)
  | n + 1, [], c :: r, _, hm, _, _, _ => by
    simp only [List.all_cons, Bool.and_eq_true] at hm
    have h1 := low_dig hm.1
    simp only [num]
    have h3 : 1 * 27 ^ n ≤ (c.toNat - 96) * 27 ^ n := Nat.mul_le_mul_right _ h1.1
    have h4 : 0 < 27 ^ n := Nat.pow_pos (by omega)
    omega
  | n + 1, c :: r, [], _, _, _, _, h => absurd h (List.not_lt_nil _)
  | n + 1, c :: r, d :: s, hl, hm, h1, h2, h => by
    simp only [List.all_cons, Bool.and_eq_true] at hl hm
    have c1 := low_dig hl.1
    have d1 := low_dig hm.1
    have hr := num_lt n r hl.2
    simp only [num]
    rcases List.cons_lt_cons_iff.1 h with hcd | ⟨rfl, hrs⟩
    · have hlt : c.toNat < d.toNat := UInt8.lt_iff_toNat_lt.1 hcd
      have h3 : (c.toNat - 96 + 1) * 27 ^ n ≤ (d.toNat - 96) * 27 ^ n := Nat.mul_le_mul_right _ (by omega)
      rw [Nat.add_mul] at h3
      omega
    · have := num_mono n r s hl.2 hm.2 (by simp at h1; omega) (by simp at h2; omega) hrs
      omega
theorem len_of_incr {B : Nat} : ∀ (l : List Nat) (lo : Nat), l.Pairwise (· < ·) → (∀ x ∈ l, lo ≤ x ∧ x < B) → lo ≤ B → lo + l.length ≤ B
  | [], lo, _, _, h => by simpa using h
  | x :: r, lo, hp, hb, h => by
    have hp' := List.pairwise_cons.1 hp
    have hx := hb x (by simp)
    have := len_of_incr r (x + 1) hp'.2 (fun y hy => ⟨hp'.1 y hy, (hb y (by simp [hy])).2⟩) (by omega)
    simp only [List.length_cons]
    omega
theorem Ok.small {l : List Pr} (h : Ok l) : l.length ≤ 387420489 := by
  have hk : ∀ p ∈ l, (by8 p.1).all lowB = true ∧ (by8 p.1).length ≤ 6 := fun p hp => by
    have := h.key p hp
    simp only [keyB, Bool.and_eq_true, decide_eq_true_eq] at this
    exact ⟨this.2, by have := this.1.2; simpa [by8] using this⟩
  have hp : (l.map fun p => num 6 (by8 p.1)).Pairwise (· < ·) := by
    rw [List.pairwise_map]
    refine h.srt.imp_of_mem ?_
    intro p q hp hq hlt
    exact num_mono 6 _ _ (hk p hp).1 (hk q hq).1 (hk p hp).2 (hk q hq).2 (ltB_iff.1 hlt)
  have := len_of_incr (B := 387420489) _ 0 hp (fun x hx => by
    obtain ⟨p, hp, rfl⟩ := List.mem_map.1 hx
    exact ⟨Nat.zero_le _, num_lt 6 _ (hk p hp).1⟩) (by omega)
  simpa using this
end Go.Proofs.YtpefdonhacmaoaaGreatDoor

set_option linter.unusedVariables false
set_option linter.unusedSimpArgs false
namespace Go.Proofs.YtpefdonhacmaoaaGreatDoor
open Go.RowKit

/-- the parts of the owners so far, joined -/
theorem all_join {cs : List ByteArray} {os : List Int} {l y : List Pr} {n : Int} (h : Ok l) (hj : Joined (upL cs os n l) (ptL cs os n l) y) : y = upL cs os (n + 1) l :=
  hj.ok.one_ (upL_ok h _) fun p => by rw [hj.mem, up_mem]
def AlI (w : World) (m : Mp) (l : List Pr) (v i : Value) (wr : World) : Prop :=
  ∃ (k : Nat) (A : Option Addr) (c : Nat), k ≤ 4 ∧ i = .int .i64 k ∧ v = .slice A (upL m.cs m.os (k : Int) l).length c ∧ OV wr w.heap.size A c (upL m.cs m.os (k : Int) l) ∧ Below w.heap.size w wr

set_option maxHeartbeats 1000000 in
set_option maxRecDepth 100000 in
theorem all_ok (B g : Nat) (m : Mp) (l : List Pr) (q : Dv) (w : World) (h : PB w B g m l q) :
    Calls Tryz.prog 25 #[.pointer (some ⟨g, 0, none⟩)] w fun e w' => ∃ A c, e = .returned (.slice A l.length c) ∧ OV w' w.heap.size A c l ∧ Below w.heap.size w w' := by
  have p0 : w.cell? ⟨g, 2, none⟩ = some (q.s m.cs m.os l 0) := h.box.cell 2 rfl
  have p1 : w.cell? ⟨g, 3, none⟩ = some (q.s m.cs m.os l 1) := h.box.cell 3 rfl
  have p2 : w.cell? ⟨g, 4, none⟩ = some (q.s m.cs m.os l 2) := h.box.cell 4 rfl
  have p3 : w.cell? ⟨g, 5, none⟩ = some (q.s m.cs m.os l 3) := h.box.cell 5 rfl
  have hsm := h.ok.small
  go_enter Tryz.func25, Tryz.ntmps25
  go_wp2_with fail
  go_loopw [3, 10] (AlI w m l) (fun _ i _ => 4 - (intOf i).toNat)
  case atStart => exact ⟨0, none, 0, by omega, rfl, by rw [show ((0 : Nat) : Int) = 0 from rfl, upL_zero h.okm]; rfl, by rw [show ((0 : Nat) : Int) = 0 from rfl, upL_zero h.okm]; exact World.ownsRow_nil _ _ _ _, Below.refl _ _⟩
  case round =>
    obtain ⟨k, A, c, hk, rfl, rfl, hov, hb⟩ := hrel
    by_cases hk4 : k < 4
    · have HJ : Hid (Calls Tryz.prog 47 #[.slice A (upL m.cs m.os (k : Int) l).length c, q.s m.cs m.os l k] wr fun e w' => ∃ A' c', e = .returned (.tuple #[.slice A' (upL m.cs m.os ((k + 1 : Nat) : Int) l).length c', .int .i64 0]) ∧ OV w' w.heap.size A' c' (upL m.cs m.os ((k + 1 : Nat) : Int) l) ∧ Below w.heap.size w w') := hideP (by
        have hu : (upL m.cs m.os (k : Int) l).length ≤ l.length := List.length_filter_le _ _
        have hp : (ptL m.cs m.os (k : Int) l).length ≤ l.length := List.length_filter_le _ _
        refine (join_own A (q.A k) c (q.c k) _ _ wr hov.sv ((h.own k hk4).below hb |>.sv) (upL_ok h.ok _) (ptL_ok h.ok _) (by omega)).mono ?_
        rintro e w1 ⟨hor, hb1⟩
        rcases hor with ⟨hna, _⟩ | ⟨A1, c1, y, rfl, hy, hj⟩
        · exact absurd (show Apart _ _ from up_apart (k : Int)) hna
        · have e := all_join h.ok hj
          rw [show ((k + 1 : Nat) : Int) = (k : Int) + 1 by omega, ← e]
          exact ⟨A1, c1, rfl, hy.mono hb.size, hb.trans (hb1.mono hb.size)⟩)
      have HI := hideP (fun (A' : Option Addr) (c' : Nat) (w' : World) (h1 : OV w' w.heap.size A' c' (upL m.cs m.os ((k + 1 : Nat) : Int) l)) (h2 : Below w.heap.size w w') (i : Value) (hi : i = .int .i64 ((k + 1 : Nat) : Int)) => show AlI w m l (.slice A' (upL m.cs m.os ((k + 1 : Nat) : Int) l).length c') i w' from ⟨k + 1, A', c', by omega, hi, rfl, h1, h2⟩)
      generalize upL m.cs m.os (k : Int) l = up at HJ ⊢
      generalize upL m.cs m.os ((k + 1 : Nat) : Int) l = nx at HJ HI
      have ix := fun w => idx4 q m.cs m.os l hk4 w
      have g1 : (k : Int) < 4 := by omega
      obtain ⟨ak, nk, ck, ek⟩ : ∃ a n c, q.s m.cs m.os l k = .slice a n c := ⟨_, _, _, rfl⟩
      rw [ek] at ix HJ
      clear h hov hb p0 p1 p2 p3 ek
      go_wp2_with fail
      refine HJ.out.mono ?_
      rintro e w1 ⟨A1, c1, rfl, ho1, hb1⟩
      go_wp2_with fail
      go_roundw
      case rel => exact HI.out _ _ _ ho1 hb1 _ (by go_num)
      case measure => simp [intOf]; omega
    · have hk5 : k = 4 := by omega
      have e4 : upL m.cs m.os (k : Int) l = l := by rw [hk5]; exact upL_all h.okm
      rw [e4] at hov ⊢
      clear e4 hk5
      have g4 : ¬ (k : Int) < 4 := by omega
      go_wp2_with fail
      go_ret
      exact ⟨A, c, rfl, hov, hb⟩
end Go.Proofs.YtpefdonhacmaoaaGreatDoor
