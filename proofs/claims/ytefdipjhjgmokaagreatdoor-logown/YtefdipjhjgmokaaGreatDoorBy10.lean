/-
  store.Put.
  store.Get.
  There are no more valid keys than 27^6, so that a valid store is no longer (no program in it).
  The values of keys (no program in it).
  store.Put at a valid store, key and value: the store with that key set, in memory of its own.
-/
import Derived.Test.YtefdipjhjgmokaaGreatDoorBy9
import Derived.Test.YtefdipjhjgmokaaGreatDoorBy8
import Derived.Deep.QuietTactic
import Derived.BigQuiet
set_option linter.unusedVariables false
set_option linter.unusedSimpArgs false
namespace Go.Proofs.YtefdipjhjgmokaaGreatDoor
open Go.RowKit

theorem belowDrewN {B : Nat} {a w : World} (h : Below B a w) (n : Nat) : Below B a (w.drewN n) := ⟨h.os, h.tape, h.output, h.size, h.block⟩
theorem drop_succ {w : World} {B b o : Nat} {l : List Pr} (h : PS w B (some ⟨b, o, none⟩) l) (q : Nat) : PS w B (some ⟨b, o + q * 2 + 2, none⟩) (l.drop (q + 1)) := by
  have := h.drop_ (q + 1)
  rw [show o + (q + 1) * 2 = o + q * 2 + 2 by omega] at this
  exact this
/-- a store is handed back, with OK -/
def RetSt (w : World) (l : List Pr) (e : Ending) (w' : World) : Prop := ∃ A c, e = .returned (.tuple #[.slice A l.length c, .int .i64 0]) ∧ SV w' A c l ∧ Below w.heap.size w w'

/-- the same, with the row that it owns -/
def RetStO (w : World) (l : List Pr) (e : Ending) (w' : World) : Prop := ∃ A c, e = .returned (.tuple #[.slice A l.length c, .int .i64 0]) ∧ SV w' A c l ∧ (Below w.heap.size w w' ∧ OV w' w.heap.size A c l)

set_option maxHeartbeats 400000 in
set_option maxRecDepth 100000 in
theorem put_bad (A : Option Addr) (c : Nat) (l : List Pr) (key : ByteArray) (n : Int) (w : World) (hA : SV w A c l) (hl : l.length < 4611686018427387904) (h : chk ByteArray.empty l ≠ 0) :
    Calls Tryz.prog 82 #[.slice A l.length c, .string key, .int .i64 n] w fun e w' => e = .returned (.tuple #[.slice none 0 0, .int .i64 (chk ByteArray.empty l)]) ∧ Below w.heap.size w w' := by
  have hps := hA.ps
  clear hA
  generalize hC : chk ByteArray.empty l = C at h
  have HC := hideP hC
  clear hC
  have d : (C != 0) = true := by simp [h]
  clear h
  go_enter Tryz.func82, Tryz.ntmps82
  go_wp2_with fail
  refine (check_any A c l _ hps hl).mono ?_
  rintro e w' ⟨rfl, hb⟩
  rw [HC.out]
  go_wp2_with fail
  go_ret2
  exact ⟨rfl, hb⟩

set_option maxHeartbeats 400000 in
set_option maxRecDepth 100000 in
theorem put_own (A : Option Addr) (c : Nat) (l : List Pr) (key : ByteArray) (n : Int) (q : Nat) (w : World) (hA : SV w A c l) (hl : Ok l) (hk : keyB key = true) (hn : valB n = true) (hq : At l key q) (hsz : (l.length + 1) * 24 ≤ 140737488355328) :
    Calls Tryz.prog 82 #[.slice A l.length c, .string key, .int .i64 n] w (RetStO w (putL l key n q)) := by
  have hll : l.length < 4611686018427387904 := by omega
  have hps := hA.ps
  have hC := chk_ok.2 hl
  have HC := hideP hC
  clear hC
  go_enter Tryz.func82, Tryz.ntmps82
  go_wp2_with fail
  refine (check_any A c l _ hps hll).mono ?_
  rintro e w1 ⟨rfl, hb1⟩
  rw [HC.out]
  go_wp2_with fail
  refine (key_any _ _).mono ?_
  rintro e w' ⟨rfl, rfl⟩
  go_wp2_with fail
  refine (value_any _ _).mono ?_
  rintro e w' ⟨rfl, rfl⟩
  go_wp2_with fail
  refine (find_any A c l key q _ ((hps.below hb1).more hb1.size) hll hq).mono ?_
  rintro e w2 ⟨rfl, hb2⟩
  have hb : Below w.heap.size w w2 := hb1.trans (hb2.mono hb1.size)
  clear hb1 hb2
  have hsz2 : w.heap.size ≤ w2.heap.size := hb.size
  have hfin : ∀ (W : World) (l1 l2 l3 : List Pr) (e : Ending) (w' : World), l1 ++ (l2 ++ l3) = putL l key n q → Below w.heap.size w W → RetRow W (l1 ++ (l2 ++ l3)) e w' →
      ∃ A' c', e = .returned (.slice A' (putL l key n q).length c') ∧ SV w' A' c' (putL l key n q) ∧ (Below w.heap.size w w' ∧ OV w' w.heap.size A' c' (putL l key n q)) := by
    rintro W l1 l2 l3 e w' he hbW ⟨v, rfl, hown, hbc⟩
    rw [he] at hown
    obtain ⟨A', c', rfl, hsv⟩ := SV.of_own hown
    exact ⟨A', c', rfl, hsv, hbW.trans (hbc.mono hbW.size), OV.mono hown hbW.size⟩
  have Hfin := hideP hfin
  have hps2 : PS w2 w2.heap.size A l := (hps.below hb).more hb.size
  have hq1 := hq.le
  have hcap : c ≤ 9223372036854775807 := by have := hA.cap; unfold maxLen at this; exact this
  have hle := hA.le
  have hlit := hideP hA.lit
  have hnn := hideP (fun (e : A = none) => (show SV w none c l from e ▸ hA).none_nil)
  clear hq hl hps HC hk hn hA hfin
  by_cases hn0 : n = 0
  · have dn : (n != 0) = false := by simp [hn0]
    have HN := hideP hn0
    clear hn0
    rcases A with _ | ⟨b, o, sp⟩
    · obtain ⟨rfl, rfl⟩ := hnn.out rfl
      obtain rfl : q = 0 := by simpa using hq1
      have hf : fnd [] key 0 = false := rfl
      clear hnn
      go_wp2_with fail
      go_quiet (fail)
      go_wp2_with fail
      with_reducible refine (concat3 _ _ ?hg _ _ _ _ _ _ _ _ _ ([]) [] ([]) ?e1 ?e2 ?e3 ?p1 ?p2 ?p3 ?hn).mono ?_
      case hg => simp
      case e1 => simp
      case e2 => rfl
      case e3 => simp
      case p1 => exact PS.nil
      case p2 => exact PS.nil
      case p3 => exact PS.nil
      case hn => simp <;> omega
      intro e w' hr
      obtain ⟨A', c', rfl, hsv, hbb⟩ := Hfin.out _ _ _ _ e w' (by simp [putL, HN.out]) ((belowDrewN hb nq).alloc (by simp; omega) _) hr
      go_wp2_with fail
      go_ret2
      exact ⟨A', c', rfl, hsv, hbb⟩
    · by_cases hc0 : c = 0
      · subst hc0
        obtain rfl : l = [] := List.length_eq_zero_iff.1 (by omega)
        obtain rfl : q = 0 := by simpa using hq1
        have hf : fnd [] key 0 = false := rfl
        clear hnn hlit
        go_wp2_with fail
        go_quiet (fail)
        go_wp2_with fail
        with_reducible refine (concat3 _ _ ?hg _ _ _ _ _ _ _ _ _ ([]) [] ([]) ?e1 ?e2 ?e3 ?p1 ?p2 ?p3 ?hn).mono ?_
        case hg => simp
        case e1 => simp
        case e2 => rfl
        case e3 => simp
        case p1 => exact PS.nil
        case p2 => exact PS.nil
        case p3 => exact PS.nil
        case hn => simp <;> omega
        intro e w' hr
        obtain ⟨A', c', rfl, hsv, hbb⟩ := Hfin.out _ _ _ _ e w' (by simp [putL, HN.out]) ((belowDrewN hb nq).alloc (by simp; omega) _) hr
        go_wp2_with fail
        go_ret2
        exact ⟨A', c', rfl, hsv, hbb⟩
      · obtain ⟨b', o', e'⟩ := hlit.out (by omega) _ rfl
        injection e' with e1 e2 e3
        clear e1 e2
        subst e3
        clear hlit hnn
        have g1 : (q : Int) ≤ (c : Int) := by omega
        have g2 : (q : Int) ≤ (l.length : Int) := by omega
        have g0 : (0 : Int) ≤ (q : Int) := by omega
        cases hf : fnd l key q
        · have HF := hideP hf
          by_cases hcq : c = q
          · have HQ := hideP hcq
            go_wp2_with fail
            go_quiet (fail)
            go_wp2_with fail
            with_reducible refine (concat3 _ _ ?hg _ _ _ _ _ _ _ _ _ (l.take q) [] (l.drop q) ?e1 ?e2 ?e3 ?p1 ?p2 ?p3 ?hn).mono ?_
            case hg => simp
            case e1 => simp <;> omega
            case e2 => rfl
            case e3 => simp <;> omega
            case p1 => exact ((hps2.take_ q).drewN nq)
            case p2 => exact PS.nil
            case p3 => exact (PS.drop_all (by omega))
            case hn => simp <;> omega
            intro e w' hr
            obtain ⟨A', c', rfl, hsv, hbb⟩ := Hfin.out _ _ _ _ e w' (by simp [putL, HN.out, HF.out]) ((belowDrewN hb nq).alloc (by simp; omega) _) hr
            go_wp2_with fail
            go_ret2
            exact ⟨A', c', rfl, hsv, hbb⟩
          · have dq : ¬ c = q := hcq
            go_wp2_with fail
            go_quiet (fail)
            go_wp2_with fail
            with_reducible refine (concat3 _ _ ?hg _ _ _ _ _ _ _ _ _ (l.take q) [] (l.drop q) ?e1 ?e2 ?e3 ?p1 ?p2 ?p3 ?hn).mono ?_
            case hg => simp
            case e1 => simp <;> omega
            case e2 => rfl
            case e3 => simp <;> omega
            case p1 => exact ((hps2.take_ q).drewN nq)
            case p2 => exact PS.nil
            case p3 => exact ((hps2.drop_ q).drewN nq)
            case hn => simp <;> omega
            intro e w' hr
            obtain ⟨A', c', rfl, hsv, hbb⟩ := Hfin.out _ _ _ _ e w' (by simp [putL, HN.out, HF.out]) ((belowDrewN hb nq).alloc (by simp; omega) _) hr
            go_wp2_with fail
            go_ret2
            exact ⟨A', c', rfl, hsv, hbb⟩
        · have HF := hideP hf
          have hql := fnd_lt hf
          have dq : ¬ c = q := by omega
          have g3 : (1 : Int) ≤ ((l.length - q : Nat) : Int) := by omega
          have g4 : (1 : Int) ≤ ((c - q : Nat) : Int) := by omega
          by_cases hcq : c - q = 1
          · have HQ := hideP hcq
            go_wp2_with fail
            go_quiet (fail)
            go_wp2_with fail
            with_reducible refine (concat3 _ _ ?hg _ _ _ _ _ _ _ _ _ (l.take q) [] (l.drop (q + 1)) ?e1 ?e2 ?e3 ?p1 ?p2 ?p3 ?hn).mono ?_
            case hg => simp
            case e1 => simp <;> omega
            case e2 => rfl
            case e3 => simp <;> omega
            case p1 => exact ((hps2.take_ q).drewN nq)
            case p2 => exact PS.nil
            case p3 => exact (PS.drop_all (by omega))
            case hn => simp <;> omega
            intro e w' hr
            obtain ⟨A', c', rfl, hsv, hbb⟩ := Hfin.out _ _ _ _ e w' (by simp [putL, HN.out, HF.out]) ((belowDrewN hb nq).alloc (by simp; omega) _) hr
            go_wp2_with fail
            go_ret2
            exact ⟨A', c', rfl, hsv, hbb⟩
          · have dq1 : ¬ c - q = 1 := hcq
            go_wp2_with fail
            go_quiet (fail)
            go_wp2_with fail
            with_reducible refine (concat3 _ _ ?hg _ _ _ _ _ _ _ _ _ (l.take q) [] (l.drop (q + 1)) ?e1 ?e2 ?e3 ?p1 ?p2 ?p3 ?hn).mono ?_
            case hg => simp
            case e1 => simp <;> omega
            case e2 => rfl
            case e3 => simp <;> omega
            case p1 => exact ((hps2.take_ q).drewN nq)
            case p2 => exact PS.nil
            case p3 => exact ((drop_succ hps2 q).drewN nq)
            case hn => simp <;> omega
            intro e w' hr
            obtain ⟨A', c', rfl, hsv, hbb⟩ := Hfin.out _ _ _ _ e w' (by simp [putL, HN.out, HF.out]) ((belowDrewN hb nq).alloc (by simp; omega) _) hr
            go_wp2_with fail
            go_ret2
            exact ⟨A', c', rfl, hsv, hbb⟩
  · have dn : (n != 0) = true := by simp [hn0]
    have HN := hideP hn0
    clear hn0
    rcases A with _ | ⟨b, o, sp⟩
    · obtain ⟨rfl, rfl⟩ := hnn.out rfl
      obtain rfl : q = 0 := by simpa using hq1
      have hf : fnd [] key 0 = false := rfl
      clear hnn
      go_wp2_with fail
      go_quiet (fail)
      go_wp2_with fail
      with_reducible refine (concat3 _ _ ?hg _ _ _ _ _ _ _ _ _ ([]) [(key, n)] ([]) ?e1 ?e2 ?e3 ?p1 ?p2 ?p3 ?hn).mono ?_
      case hg => simp
      case e1 => simp
      case e2 => rfl
      case e3 => simp
      case p1 => exact PS.nil.alloc _
      case p2 => exact PS.one _ _ _ _
      case p3 => exact PS.nil.alloc _
      case hn => simp <;> omega
      intro e w' hr
      obtain ⟨A', c', rfl, hsv, hbb⟩ := Hfin.out _ _ _ _ e w' (by simp [putL, HN.out]) (((belowDrewN hb nq).alloc (by simp; omega) _).alloc (by simp; omega) _) hr
      go_wp2_with fail
      go_ret2
      exact ⟨A', c', rfl, hsv, hbb⟩
    · by_cases hc0 : c = 0
      · subst hc0
        obtain rfl : l = [] := List.length_eq_zero_iff.1 (by omega)
        obtain rfl : q = 0 := by simpa using hq1
        have hf : fnd [] key 0 = false := rfl
        clear hnn hlit
        go_wp2_with fail
        go_quiet (fail)
        go_wp2_with fail
        with_reducible refine (concat3 _ _ ?hg _ _ _ _ _ _ _ _ _ ([]) [(key, n)] ([]) ?e1 ?e2 ?e3 ?p1 ?p2 ?p3 ?hn).mono ?_
        case hg => simp
        case e1 => simp
        case e2 => rfl
        case e3 => simp
        case p1 => exact PS.nil.alloc _
        case p2 => exact PS.one _ _ _ _
        case p3 => exact PS.nil.alloc _
        case hn => simp <;> omega
        intro e w' hr
        obtain ⟨A', c', rfl, hsv, hbb⟩ := Hfin.out _ _ _ _ e w' (by simp [putL, HN.out]) (((belowDrewN hb nq).alloc (by simp; omega) _).alloc (by simp; omega) _) hr
        go_wp2_with fail
        go_ret2
        exact ⟨A', c', rfl, hsv, hbb⟩
      · obtain ⟨b', o', e'⟩ := hlit.out (by omega) _ rfl
        injection e' with e1 e2 e3
        clear e1 e2
        subst e3
        clear hlit hnn
        have g1 : (q : Int) ≤ (c : Int) := by omega
        have g2 : (q : Int) ≤ (l.length : Int) := by omega
        have g0 : (0 : Int) ≤ (q : Int) := by omega
        cases hf : fnd l key q
        · have HF := hideP hf
          by_cases hcq : c = q
          · have HQ := hideP hcq
            go_wp2_with fail
            go_quiet (fail)
            go_wp2_with fail
            with_reducible refine (concat3 _ _ ?hg _ _ _ _ _ _ _ _ _ (l.take q) [(key, n)] (l.drop q) ?e1 ?e2 ?e3 ?p1 ?p2 ?p3 ?hn).mono ?_
            case hg => simp
            case e1 => simp <;> omega
            case e2 => rfl
            case e3 => simp <;> omega
            case p1 => exact ((hps2.take_ q).drewN nq).alloc _
            case p2 => exact PS.one _ _ _ _
            case p3 => exact (PS.drop_all (by omega)).alloc _
            case hn => simp <;> omega
            intro e w' hr
            obtain ⟨A', c', rfl, hsv, hbb⟩ := Hfin.out _ _ _ _ e w' (by simp [putL, HN.out, HF.out]) (((belowDrewN hb nq).alloc (by simp; omega) _).alloc (by simp; omega) _) hr
            go_wp2_with fail
            go_ret2
            exact ⟨A', c', rfl, hsv, hbb⟩
          · have dq : ¬ c = q := hcq
            go_wp2_with fail
            go_quiet (fail)
            go_wp2_with fail
            with_reducible refine (concat3 _ _ ?hg _ _ _ _ _ _ _ _ _ (l.take q) [(key, n)] (l.drop q) ?e1 ?e2 ?e3 ?p1 ?p2 ?p3 ?hn).mono ?_
            case hg => simp
            case e1 => simp <;> omega
            case e2 => rfl
            case e3 => simp <;> omega
            case p1 => exact ((hps2.take_ q).drewN nq).alloc _
            case p2 => exact PS.one _ _ _ _
            case p3 => exact ((hps2.drop_ q).drewN nq).alloc _
            case hn => simp <;> omega
            intro e w' hr
            obtain ⟨A', c', rfl, hsv, hbb⟩ := Hfin.out _ _ _ _ e w' (by simp [putL, HN.out, HF.out]) (((belowDrewN hb nq).alloc (by simp; omega) _).alloc (by simp; omega) _) hr
            go_wp2_with fail
            go_ret2
            exact ⟨A', c', rfl, hsv, hbb⟩
        · have HF := hideP hf
          have hql := fnd_lt hf
          have dq : ¬ c = q := by omega
          have g3 : (1 : Int) ≤ ((l.length - q : Nat) : Int) := by omega
          have g4 : (1 : Int) ≤ ((c - q : Nat) : Int) := by omega
          by_cases hcq : c - q = 1
          · have HQ := hideP hcq
            go_wp2_with fail
            go_quiet (fail)
            go_wp2_with fail
            with_reducible refine (concat3 _ _ ?hg _ _ _ _ _ _ _ _ _ (l.take q) [(key, n)] (l.drop (q + 1)) ?e1 ?e2 ?e3 ?p1 ?p2 ?p3 ?hn).mono ?_
            case hg => simp
            case e1 => simp <;> omega
            case e2 => rfl
            case e3 => simp <;> omega
            case p1 => exact ((hps2.take_ q).drewN nq).alloc _
            case p2 => exact PS.one _ _ _ _
            case p3 => exact (PS.drop_all (by omega)).alloc _
            case hn => simp <;> omega
            intro e w' hr
            obtain ⟨A', c', rfl, hsv, hbb⟩ := Hfin.out _ _ _ _ e w' (by simp [putL, HN.out, HF.out]) (((belowDrewN hb nq).alloc (by simp; omega) _).alloc (by simp; omega) _) hr
            go_wp2_with fail
            go_ret2
            exact ⟨A', c', rfl, hsv, hbb⟩
          · have dq1 : ¬ c - q = 1 := hcq
            go_wp2_with fail
            go_quiet (fail)
            go_wp2_with fail
            with_reducible refine (concat3 _ _ ?hg _ _ _ _ _ _ _ _ _ (l.take q) [(key, n)] (l.drop (q + 1)) ?e1 ?e2 ?e3 ?p1 ?p2 ?p3 ?hn).mono ?_
            case hg => simp
            case e1 => simp <;> omega
            case e2 => rfl
            case e3 => simp <;> omega
            case p1 => exact ((hps2.take_ q).drewN nq).alloc _
            case p2 => exact PS.one _ _ _ _
            case p3 => exact ((drop_succ hps2 q).drewN nq).alloc _
            case hn => simp <;> omega
            intro e w' hr
            obtain ⟨A', c', rfl, hsv, hbb⟩ := Hfin.out _ _ _ _ e w' (by simp [putL, HN.out, HF.out]) (((belowDrewN hb nq).alloc (by simp; omega) _).alloc (by simp; omega) _) hr
            go_wp2_with fail
            go_ret2
            exact ⟨A', c', rfl, hsv, hbb⟩
theorem put_ok (A : Option Addr) (c : Nat) (l : List Pr) (key : ByteArray) (n : Int) (q : Nat) (w : World) (hA : SV w A c l) (hl : Ok l) (hk : keyB key = true) (hn : valB n = true) (hq : At l key q) (hsz : (l.length + 1) * 24 ≤ 140737488355328) :
    Calls Tryz.prog 82 #[.slice A l.length c, .string key, .int .i64 n] w (RetSt w (putL l key n q)) :=
  (put_own A c l key n q w hA hl hk hn hq hsz).mono fun _ _ ⟨A', c', h1, h2, h3, _⟩ => ⟨A', c', h1, h2, h3⟩
end Go.Proofs.YtefdipjhjgmokaaGreatDoor

set_option linter.unusedVariables false
set_option linter.unusedSimpArgs false
namespace Go.Proofs.YtefdipjhjgmokaaGreatDoor
open Go.RowKit

set_option maxHeartbeats 400000 in
set_option maxRecDepth 100000 in
theorem get_bad (A : Option Addr) (c : Nat) (l : List Pr) (key : ByteArray) (w : World) (hA : SV w A c l) (hl : l.length < 4611686018427387904) (h : chk ByteArray.empty l ≠ 0) :
    Calls Tryz.prog 239 #[.slice A l.length c, .string key] w fun e w' => e = .returned (.tuple #[.int .i64 0, .int .i64 (chk ByteArray.empty l)]) ∧ Below w.heap.size w w' := by
  have hps := hA.ps
  clear hA
  generalize hC : chk ByteArray.empty l = C at h
  have HC := hideP hC
  clear hC
  have d : (C != 0) = true := by simp [h]
  clear h
  go_enter Tryz.func239, Tryz.ntmps239
  go_wp2_with fail
  refine (check_any A c l _ hps hl).mono ?_
  rintro e w' ⟨rfl, hb⟩
  rw [HC.out]
  go_wp2_with fail
  go_ret2
  exact ⟨rfl, hb⟩

set_option maxHeartbeats 400000 in
set_option maxRecDepth 100000 in
theorem get_key (A : Option Addr) (c : Nat) (l : List Pr) (key : ByteArray) (w : World) (hA : SV w A c l) (hl : l.length < 4611686018427387904) (h : Ok l) (hk : keyB key = false) :
    Calls Tryz.prog 239 #[.slice A l.length c, .string key] w fun e w' => e = .returned (.tuple #[.int .i64 0, .int .i64 3]) ∧ Below w.heap.size w w' := by
  have hps := hA.ps
  have HC := hideP (chk_ok.2 h)
  clear hA h
  go_enter Tryz.func239, Tryz.ntmps239
  go_wp2_with fail
  refine (check_any A c l _ hps hl).mono ?_
  rintro e w' ⟨rfl, hb⟩
  rw [HC.out]
  go_wp2_with fail
  refine (key_any _ _).mono ?_
  rintro e w' ⟨rfl, rfl⟩
  go_wp2_with fail
  go_ret2
  exact ⟨rfl, hb⟩

set_option maxHeartbeats 400000 in
set_option maxRecDepth 100000 in
theorem get_ok (A : Option Addr) (c : Nat) (l : List Pr) (key : ByteArray) (w : World) (hA : SV w A c l) (hl : l.length < 4611686018427387904) (h : Ok l) (hk : keyB key = true) :
    Calls Tryz.prog 239 #[.slice A l.length c, .string key] w fun e w' => e = .returned (.tuple #[.int .i64 (valOf l key), .int .i64 0]) ∧ Below w.heap.size w w' := by
  have hps := hA.ps
  have HC := hideP (chk_ok.2 h)
  have hq := posOf_at h.srt key
  have hv := valOf_at hq h.srt
  clear hA h
  generalize posOf l key = q at hq hv
  cases hf : fnd l key q
  · have HV := hideP (show valOf l key = 0 by rw [hv, dif_neg (by rw [hf]; simp)])
    clear hv
    go_enter Tryz.func239, Tryz.ntmps239
    go_wp2_with fail
    refine (check_any A c l _ hps hl).mono ?_
    rintro e w1 ⟨rfl, hb⟩
    rw [HC.out]
    go_wp2_with fail
    refine (key_any _ _).mono ?_
    rintro e w' ⟨rfl, rfl⟩
    go_wp2_with fail
    refine (find_any A c l key q _ ((hps.below hb).more hb.size) hl hq).mono ?_
    rintro e w2 ⟨rfl, hb2⟩
    go_wp2_with fail
    go_ret2
    exact ⟨by rw [HV.out]; rfl, hb.trans (hb2.mono hb.size)⟩
  · have hql := fnd_lt hf
    have HV := hideP (show valOf l key = (l[q]).2 by rw [hv, dif_pos hf])
    clear hv
    go_enter Tryz.func239, Tryz.ntmps239
    go_wp2_with fail
    refine (check_any A c l _ hps hl).mono ?_
    rintro e w1 ⟨rfl, hb⟩
    rw [HC.out]
    go_wp2_with fail
    refine (key_any _ _).mono ?_
    rintro e w' ⟨rfl, rfl⟩
    go_wp2_with fail
    refine (find_any A c l key q _ ((hps.below hb).more hb.size) hl hq).mono ?_
    rintro e w2 ⟨rfl, hb2⟩
    have hb3 := hb.trans (hb2.mono hb.size)
    obtain ⟨b, o, rfl, hbl, c1, c2⟩ := hps.below hb3 q _ (List.getElem?_eq_getElem hql)
    clear hps hq
    generalize l[q] = p at c1 c2 HV
    go_wp2_with fail
    go_ret2
    exact ⟨by rw [HV.out]; rfl, hb3⟩
end Go.Proofs.YtefdipjhjgmokaaGreatDoor

set_option linter.unusedVariables false
set_option linter.unusedSimpArgs false
namespace Go.Proofs.YtefdipjhjgmokaaGreatDoor
open Go.RowKit

/-- a key as a number of n digits to the base 27 -/
def num : Nat → List UInt8 → Nat
  | 0, _ => 0
  | _ + 1, [] => 0
  | n + 1, c :: r => (c.toNat - 96) * 27 ^ n + num n r
theorem low_dig {c : UInt8} (h : lowB c = true) : 1 ≤ c.toNat - 96 ∧ c.toNat - 96 ≤ 26 := by
  simp [lowB] at h; omega
theorem num_lt : ∀ (n : Nat) (l : List UInt8), l.all lowB = true → num n l < 27 ^ n
  | 0, l, _ => by simp [num]
  | n + 1, [], _ => by simp only [num]; exact Nat.pow_pos (by omega)
  | n + 1, c :: r, h => by
    simp only [List.all_cons, Bool.and_eq_true] at h
    have h1 := low_dig h.1
    have h2 := num_lt n r h.2
    simp only [num]
    have h3 : (c.toNat - 96) * 27 ^ n ≤ 26 * 27 ^ n := Nat.mul_le_mul_right _ h1.2
    rw [Nat.pow_succ]
    omega
theorem num_mono : ∀ (n : Nat) (l m : List UInt8), l.all lowB = true → m.all lowB = true → l.length ≤ n → m.length ≤ n → l < m → num n l < num n m
  | 0, l, m, _, _, h1, h2, h => by
    have e1 : l = [] := List.length_eq_zero_iff.1 (by omega)
    have e2 : m = [] := List.length_eq_zero_iff.1 (by omega)
    subst e1; subst e2; exact absurd h (List.lt_irrefl _)
  | n + 1, [], [], _, _, _, _, h => absurd h (List.lt_irrefl _)
  | n + 1, [], c :: r, _, hm, _, _, _ => by
    simp only [List.all_cons, Bool.and_eq_true] at hm
    have h1 := low_dig hm.1
    simp only [num]
    have h3 : 1 * 27 ^ n ≤ (c.toNat - 96) * 27 ^ n := Nat.mul_le_mul_right _ h1.1
    have h4 : 0 < 27 ^ n := Nat.pow_pos (by omega)
    omega
  | n + 1, c :: r, [], _, _, _, _, h => absurd h (List.not_lt_nil _)
  | n + 1, c :: r, d :: s, hl, hm, h1, h2, h => by
    simp only [List.all_cons, Bool.and_eq_true] at hl hm
    have c1 := low_dig hl.1
    have d1 := low_dig hm.1
    have hr := num_lt n r hl.2
    simp only [num]
    rcases List.cons_lt_cons_iff.1 h with hcd | ⟨rfl, hrs⟩
    · have hlt : c.toNat < d.toNat := UInt8.lt_iff_toNat_lt.1 hcd
      have h3 : (c.toNat - 96 + 1) * 27 ^ n ≤ (d.toNat - 96) * 27 ^ n := Nat.mul_le_mul_right _ (by omega)
      rw [Nat.add_mul] at h3
      omega
    · have := num_mono n r s hl.2 hm.2 (by simp at h1; omega) (by simp at h2; omega) hrs
      omega
theorem len_of_incr {B : Nat} : ∀ (l : List Nat) (lo : Nat), l.Pairwise (· < ·) → (∀ x ∈ l, lo ≤ x ∧ x < B) → lo ≤ B → lo + l.length ≤ B
  | [], lo, _, _, h => by simpa using h
  | x :: r, lo, hp, hb, h => by
    have hp' := List.pairwise_cons.1 hp
    have hx := hb x (by simp)
    have := len_of_incr r (x + 1) hp'.2 (fun y hy => ⟨hp'.1 y hy, (hb y (by simp [hy])).2⟩) (by omega)
    simp only [List.length_cons]
    omega
theorem Ok.small {l : List Pr} (h : Ok l) : l.length ≤ 387420489 := by
  have hk : ∀ p ∈ l, (by8 p.1).all lowB = true ∧ (by8 p.1).length ≤ 6 := fun p hp => by
    have := h.key p hp
    simp only [keyB, Bool.and_eq_true, decide_eq_true_eq] at this
    exact ⟨this.2, by have := this.1.2; simpa [by8] using this⟩
  have hp : (l.map fun p => num 6 (by8 p.1)).Pairwise (· < ·) := by
    rw [List.pairwise_map]
    refine h.srt.imp_of_mem ?_
    intro p q hp hq hlt
    exact num_mono 6 _ _ (hk p hp).1 (hk q hq).1 (hk p hp).2 (hk q hq).2 (ltB_iff.1 hlt)
  have := len_of_incr (B := 387420489) _ 0 hp (fun x hx => by
    obtain ⟨p, hp, rfl⟩ := List.mem_map.1 hx
    exact ⟨Nat.zero_le _, num_lt 6 _ (hk p hp).1⟩) (by omega)
  simpa using this
end Go.Proofs.YtefdipjhjgmokaaGreatDoor

set_option linter.unusedVariables false
set_option linter.unusedSimpArgs false
namespace Go.Proofs.YtefdipjhjgmokaaGreatDoor
open Go.RowKit

/-- the values of keys -/
abbrev VF := ByteArray → Int
def upd (v : VF) (k : ByteArray) (n : Int) : VF := fun j => if j = k then n else v j
theorem upd_same (v : VF) (k : ByteArray) (n : Int) : upd v k n k = n := by simp [upd]
theorem upd_other (v : VF) {k j : ByteArray} (n : Int) (h : j ≠ k) : upd v k n j = v j := by simp [upd, h]
theorem Ok.vb {l : List Pr} (h : Ok l) (k : ByteArray) : valB (valOf l k) = true := by
  by_cases h0 : valOf l k = 0
  · rw [h0]; decide
  · obtain ⟨p, hp, rfl⟩ := valOf_ne h0
    rw [valOf_mem h.srt hp]
    exact h.val p hp
theorem valB_iff {n : Int} : valB n = true ↔ -1000000000 ≤ n ∧ n ≤ 1000000000 := by simp [valB]
end Go.Proofs.YtefdipjhjgmokaaGreatDoor

set_option linter.unusedVariables false
set_option linter.unusedSimpArgs false
namespace Go.Proofs.YtefdipjhjgmokaaGreatDoor
open Go.RowKit

/-- a store with one key set is handed back, in memory of its own -/
def RetPut (w : World) (l : List Pr) (key : ByteArray) (n : Int) (e : Ending) (w' : World) : Prop :=
  ∃ A c l', e = .returned (.tuple #[.slice A l'.length c, .int .i64 0]) ∧ SV w' A c l' ∧ Ok l' ∧ valOf l' = upd (valOf l) key n ∧ (Below w.heap.size w w' ∧ OV w' w.heap.size A c l')
theorem put_st (A : Option Addr) (c : Nat) (l : List Pr) (key : ByteArray) (n : Int) (w : World) (hA : SV w A c l) (hl : Ok l) (hk : keyB key = true) (hn : valB n = true) :
    Calls Tryz.prog 82 #[.slice A l.length c, .string key, .int .i64 n] w (RetPut w l key n) := by
  have hq := posOf_at hl.srt key
  have := hl.small
  refine (put_own A c l key n (posOf l key) w hA hl hk hn hq (by omega)).mono ?_
  rintro e w' ⟨A', c', rfl, hsv, hb⟩
  have h := putL_ok hl hq hk hn
  exact ⟨A', c', _, rfl, hsv, h.1, funext h.2, hb⟩

set_option maxHeartbeats 400000 in
set_option maxRecDepth 100000 in
theorem put_nv (A : Option Addr) (c : Nat) (l : List Pr) (key : ByteArray) (n : Int) (w : World) (hA : SV w A c l) (h : Ok l) (hk : keyB key = true) (hn : valB n = false) :
    Calls Tryz.prog 82 #[.slice A l.length c, .string key, .int .i64 n] w fun e w' => e = .returned (.tuple #[.slice none 0 0, .int .i64 1]) ∧ Below w.heap.size w w' := by
  have hps := hA.ps
  have hl : l.length < 4611686018427387904 := by have := h.small; omega
  have HC := hideP (chk_ok.2 h)
  clear hA h
  go_enter Tryz.func82, Tryz.ntmps82
  go_wp2_with fail
  refine (check_any A c l _ hps hl).mono ?_
  rintro e w' ⟨rfl, hb⟩
  rw [HC.out]
  go_wp2_with fail
  refine (key_any _ _).mono ?_
  rintro e w' ⟨rfl, rfl⟩
  go_wp2_with fail
  refine (value_any _ _).mono ?_
  rintro e w' ⟨rfl, rfl⟩
  go_wp2_with fail
  go_ret2
  exact ⟨rfl, hb⟩
end Go.Proofs.YtefdipjhjgmokaaGreatDoor
