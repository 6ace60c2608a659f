/-
  Literals in memory (no body of the program in it).
  rokeep.planBegun.
  roref.within, Key and Value: what they answer.
-/
import Derived.Test.YtgcnbifgnaepnaaGreatDoorBd8
import Derived.Test.YtgcnbifgnaepnaaGreatDoorBd1
import Derived.Test.YtgcnbifgnaepnaaGreatDoorBd34
import Derived.Test.YtgcnbifgnaepnaaGreatDoorBd16
import Derived.Test.YtgcnbifgnaepnaaGreatDoorBd18
import Derived.Shelf.Strings.SlTrimAscii
set_option linter.unusedVariables false
set_option linter.unusedSimpArgs false
namespace Go.Proofs.YtgcnbifgnaepnaaGreatDoor
open Go.RowKit

theorem OS.lit1 (w W : World) (o : Opr) (t : TypeId) (hW : W = w.alloc (.cells #[.int .i64 o.kind, .string o.key, .string o.src, .int .i64 o.n] t)) (g : Nat) (hg : g = w.heap.size) : OS W W.heap.size (some ⟨g, 0, none⟩) [o] := by
  subst hW; subst hg
  intro i p hp
  cases i with
  | zero => simp at hp; subst hp; exact ⟨w.heap.size, 0, rfl, by simp, by simp, by simp, by simp, by simp⟩
  | succ i => simp at hp
theorem VS.lit0 (w : World) (t : TypeId) : VS (w.alloc (.cells #[.int .i64 0] t)) (some ⟨w.heap.size, 0, none⟩) (nV [0]) := fun i v hv => by
  cases i with
  | zero => simp [nV] at hv; subst hv; exact ⟨w.heap.size, 0, rfl, by simp, by simp⟩
  | succ i => simp [nV] at hv

end Go.Proofs.YtgcnbifgnaepnaaGreatDoor

set_option linter.unusedVariables false
set_option linter.unusedSimpArgs false
namespace Go.Proofs.YtgcnbifgnaepnaaGreatDoor
open Go.RowKit Go.WideMaps Go.Maps

def kA : ByteArray := ⟨#[97]⟩
def oS : Opr := ⟨1, kA, ⟨#[]⟩, 5⟩
theorem kA5_ok : Ok [(kA, 5)] := chk_ok.1 (by decide +kernel)
theorem oS_next : nextO [[oS]] [] [] = 0 := by decide +kernel
theorem oS_chk : chkP [[oS]] = 0 := by decide +kernel
theorem oS_done (v : VF) (hv : v = valOf []) : doneV v [oS] = (valOf [(kA, 5)], true) := by
  subst hv
  have hs : runV (valOf []) [oS] = some (valOf [(kA, 5)]) := by
    rw [runV_cons]
    have : stepV (valOf []) oS = some (valOf [(kA, 5)]) := by
      unfold stepV oS
      rw [if_pos rfl, putV_ok (by decide)]
      congr 1
      funext j
      by_cases h1 : j = kA
      · subst h1; rw [upd_same]; exact (valOf_mem kA5_ok.srt (p := (kA, 5)) (by simp)).symm
      · rw [upd_other _ _ h1, valOf_none, valOf_none]
        · intro p hp e; simp at hp; rw [hp] at e; exact h1 e.symm
        · intro p hp; cases hp
    rw [this]; rfl
  exact doneV_some hs
theorem oS_play : plS [[oS]] [] (valOf []) 1 = (valOf [(kA, 5)], [true]) := by
  have h : plS [[oS]] [] (valOf []) 1 = ((doneV (valOf []) ([[oS]].getD (nextO [[oS]] [] []) [])).1, [false].set (nextO [[oS]] [] []) (doneV (valOf []) ([[oS]].getD (nextO [[oS]] [] []) [])).2) := rfl
  rw [h, oS_next]
  show ((doneV (valOf []) [oS]).1, [(doneV (valOf []) [oS]).2]) = _
  rw [oS_done _ rfl]
theorem oS_order : playN [[oS]] [] 1 = [0] := by
  have h : playN [[oS]] [] 1 = [nextO [[oS]] [] []] := rfl
  rw [h, oS_next]
/-- a transaction of one operation, as a literal -/
theorem DS.lit1 (w : World) (o : Opr) (t u : TypeId) :
    DS ((w.alloc (.cells #[.int .i64 o.kind, .string o.key, .string o.src, .int .i64 o.n] t)).alloc (.cells #[.slice (some ⟨w.heap.size, 0, none⟩) 1 1] u))
      (some ⟨w.heap.size + 1, 0, none⟩) [⟨some ⟨w.heap.size, 0, none⟩, 1, [o]⟩] := by
  have h1 := OS.lit1 w _ o t rfl w.heap.size rfl
  generalize hW : w.alloc (.cells #[.int .i64 o.kind, .string o.key, .string o.src, .int .i64 o.n] t) = W at h1 ⊢
  have hs : W.heap.size = w.heap.size + 1 := by rw [← hW]; simp
  have b2 := (Below.refl W.heap.size W).alloc (Nat.le_refl _) (.cells #[.slice (some ⟨w.heap.size, 0, none⟩) 1 1] u)
  refine ⟨fun i v hv => ?_, fun x hx => ?_⟩
  · rw [← hs]
    rcases i with _ | i
    · simp [dlV] at hv; subst hv; exact ⟨W.heap.size, 0, rfl, by simp, by simp⟩
    · simp at hv
  · rw [List.mem_singleton.1 hx]; exact h1.go b2
/-- the first call of Play -/
theorem play_lit (w : World) : Calls Tryz.prog 4 #[.slice none 0 0, .slice (some ⟨w.heap.size + 1, 0, none⟩) 1 1, .slice none 0 0] ((w.alloc (.cells #[.int .i64 1, .string ⟨#[97]⟩, .string ⟨#[]⟩, .int .i64 5] 30)).alloc (.cells #[.slice (some ⟨w.heap.size, 0, none⟩) 1 1] 33))
    fun e w' => ∃ A c gx A2 c2, e = .returned (.tuple #[.slice A 1 c, .slice (some ⟨gx, 0, none⟩) 1 1, .slice A2 1 c2, .int .i64 0]) ∧ VS w' (some ⟨gx, 0, none⟩) ([true].map Value.bool) ∧ VS w' A2 (nV [0]) ∧ Below w.heap.size w w' := by
  have hb0 := ((Below.refl w.heap.size w).alloc (Nat.le_refl _) (.cells #[.int .i64 1, .string ⟨#[97]⟩, .string ⟨#[]⟩, .int .i64 5] 30)).alloc (by simp) (.cells #[.slice (some ⟨w.heap.size, 0, none⟩) 1 1] 33)
  refine (play_ok none (some ⟨w.heap.size + 1, 0, none⟩) none 0 1 0 [] _ [] _ (SV.nil _) Ok.nil (DS.lit1 w oS 30 33) oS_chk IS.nil (by simp)).mono ?_
  rintro e w1 ⟨A, c, l, gx, A2, c2, he, hov, hok, hv, hex, hor, hb1⟩
  have hv' : valOf l = valOf [(kA, 5)] := hv.trans (congrArg Prod.fst oS_play)
  obtain rfl := hok.ext kA5_ok (fun k => by rw [hv'])
  refine ⟨A, c, gx, A2, c2, he, ?_, ?_, hb0.trans (hb1.mono hb0.size)⟩
  · have h : VS w1 (some ⟨gx, 0, none⟩) ((plS [[oS]] [] (valOf []) 1).2.map Value.bool) := hex.vs
    rw [oS_play] at h
    exact h
  · have h : VS w1 A2 (nV (playN [[oS]] [] 1)) := hor.vs
    rw [oS_order] at h
    exact h
end Go.Proofs.YtgcnbifgnaepnaaGreatDoor

set_option linter.unusedVariables false
set_option linter.unusedSimpArgs false
namespace Go.Proofs.YtgcnbifgnaepnaaGreatDoor
open Go.RowKit Go.WideMaps Go.Maps

set_option maxHeartbeats 400000 in
theorem rwithin_any (x a b : Int) (w : World) :
    Calls Tryz.prog 40 #[.int .i64 x, .int .i64 a, .int .i64 b] w fun e w' => e = .returned (.bool (decide (a ≤ x) && decide (x ≤ b))) ∧ w = w' := by
  by_cases h1 : a ≤ x <;> by_cases h2 : x ≤ b
  all_goals
    go_enter Tryz.func40, Tryz.ntmps40
    go_wp2
    go_ret
    exact ⟨ret_bool (by simp [h1, h2]), rfl⟩

set_option maxHeartbeats 400000 in
theorem rvalue_any (n : Int) (w : World) : Calls Tryz.prog 22 #[.int .i64 n] w fun e w' => e = .returned (.bool (valB n)) ∧ w = w' := by
  go_enter Tryz.func22, Tryz.ntmps22
  go_wp2_with fail
  refine (rwithin_any n (-1000000000) 1000000000 _).mono ?_
  rintro e w' ⟨rfl, rfl⟩
  rw [show (decide ((-1000000000 : Int) ≤ n) && decide (n ≤ 1000000000)) = valB n from rfl]
  go_wp2_with fail
  go_ret
  exact ⟨rfl, rfl⟩

def abcL : List UInt8 := [97, 98, 99, 100, 101, 102, 103, 104, 105, 106, 107, 108, 109, 110, 111, 112, 113, 114, 115, 116, 117, 118, 119, 120, 121, 122]
theorem abc_low : ∀ c : UInt8, abcL.contains c = lowB c := by
  have h : ∀ n : Fin 256, abcL.contains (UInt8.ofNat n.val) = lowB (UInt8.ofNat n.val) := by decide +kernel
  intro c
  have := h ⟨c.toNat, c.toNat_lt⟩
  simpa using this
theorem dropWhile_nil {p : UInt8 → Bool} {l : List UInt8} : l.dropWhile p = [] ↔ l.all p = true := by
  induction l with
  | nil => simp
  | cons a r ih => cases h : p a <;> simp [List.dropWhile_cons, h, ih]
theorem all_append_dropWhile {p : UInt8 → Bool} (l : List UInt8) : l.all p = (l.dropWhile p).all p := by
  induction l with
  | nil => rfl
  | cons a r ih => cases h : p a <;> simp [List.dropWhile_cons, h, ih]
theorem trim_nil (l : List UInt8) : (Lib.trimS l abcL).isEmpty = l.all lowB := by
  have e : (fun c => abcL.contains c) = lowB := funext abc_low
  unfold Lib.trimS Lib.trimLeftS Lib.trimRightS
  rw [e]
  have h : (l.reverse.dropWhile lowB).reverse.all lowB = l.all lowB := by
    rw [List.all_reverse, ← all_append_dropWhile, List.all_reverse]
  rw [← h]
  rw [Bool.eq_iff_iff, List.isEmpty_iff, dropWhile_nil]

set_option maxHeartbeats 400000 in
set_option maxRecDepth 100000 in
theorem rkeyR_any (s : ByteArray) (w : World) : Calls Tryz.prog 21 #[.string s] w fun e w' => e = .returned (.bool (keyB s)) ∧ Below w.heap.size w w' := by
  by_cases hin : 1 ≤ s.size ∧ s.size ≤ 6
  · have hcon := Any.strings_Trim_laid Tryz.trim (by kernel_rfl) s ⟨#[97, 98, 99, 100, 101, 102, 103, 104, 105, 106, 107, 108, 109, 110, 111, 112, 113, 114, 115, 116, 117, 118, 119, 120, 121, 122]⟩ w (by omega) (by decide) (ascii_of_all (by decide))
    change Calls Tryz.prog 41 _ _ (fun e w' => e = .returned (.string ⟨(Lib.trimS s.data.toList abcL).toArray⟩) ∧ Below w.heap.size w w') at hcon
    have ht := trim_nil s.data.toList
    have hk : keyB s = (⟨(Lib.trimS s.data.toList abcL).toArray⟩ : ByteArray).toList.isEmpty := by
      rw [ByteArray.toList_eq]
      show keyB s = (Lib.trimS s.data.toList abcL).isEmpty
      rw [ht]; simp [keyB, hin.1, hin.2]
    generalize (⟨(Lib.trimS s.data.toList abcL).toArray⟩ : ByteArray) = r at hcon hk
    have HC := hideP hcon
    have HK := hideP hk
    clear hcon hk ht
    go_enter Tryz.func21, Tryz.ntmps21
    go_wp2_with fail
    refine (rwithin_any _ _ _ _).mono ?_
    rintro e w' ⟨rfl, rfl⟩
    rw [show (decide ((1 : Int) ≤ (s.size : Int)) && decide ((s.size : Int) ≤ 6)) = true by simp; omega]
    cases hr : r.toList.isEmpty
    · go_wp2_with fail
      refine HC.out.mono ?_
      rintro e w1 ⟨rfl, hb⟩
      go_wp2_with fail
      go_ret
      exact ⟨ret_bool (by rw [HK.out, hr]), hb⟩
    · go_wp2_with fail
      refine HC.out.mono ?_
      rintro e w1 ⟨rfl, hb⟩
      go_wp2_with fail
      go_ret
      exact ⟨ret_bool (by rw [HK.out, hr]), hb⟩
  · have hk : keyB s = false := by
      cases h : keyB s
      · rfl
      · simp [keyB] at h; exact absurd h.1 hin
    have HK := hideP hk
    clear hk
    go_enter Tryz.func21, Tryz.ntmps21
    go_wp2_with fail
    refine (rwithin_any _ _ _ _).mono ?_
    rintro e w' ⟨rfl, rfl⟩
    rw [show (decide ((1 : Int) ≤ (s.size : Int)) && decide ((s.size : Int) ≤ 6)) = false by rw [Bool.eq_false_iff]; simp; omega]
    go_wp2_with fail
    go_ret
    exact ⟨ret_bool HK.out.symm, Below.refl _ _⟩
end Go.Proofs.YtgcnbifgnaepnaaGreatDoor
