/-
  store.Put.
-/
import Derived.Test.YtmepmiokpcddbabGreatDoorCb18
import Derived.Test.YtmepmiokpcddbabGreatDoorCb5
import Derived.Test.YtmepmiokpcddbabGreatDoorCb7
import Derived.Deep.QuietTactic
import Derived.BigQuiet
set_option linter.unusedVariables false
set_option linter.unusedSimpArgs false
namespace Go.Proofs.YtmepmiokpcddbabGreatDoor
open Go.RowKit

theorem belowDrewN {B : Nat} {a w : World} (h : Below B a w) (n : Nat) : Below B a (w.drewN n) := ⟨h.os, h.tape, h.output, h.size, h.block⟩
theorem drop_succ {w : World} {B b o : Nat} {l : List Pr} (h : PS w B (some ⟨b, o, none⟩) l) (q : Nat) : PS w B (some ⟨b, o + q * 2 + 2, none⟩) (l.drop (q + 1)) := by
  have := h.drop_ (q + 1)
  rw [show o + (q + 1) * 2 = o + q * 2 + 2 by omega] at this
  exact this
/-- a store is handed back, with OK -/
def RetSt (w : World) (l : List Pr) (e : Ending) (w' : World) : Prop := ∃ A c, e = .returned (.tuple #[.slice A l.length c, .int .i64 0]) ∧ SV w' A c l ∧ Below w.heap.size w w'

/-- the same, with the row that it owns -/
def RetStO (w : World) (l : List Pr) (e : Ending) (w' : World) : Prop := ∃ A c, e = .returned (.tuple #[.slice A l.length c, .int .i64 0]) ∧ SV w' A c l ∧ (Below w.heap.size w w' ∧ OV w' w.heap.size A c l)

set_option maxHeartbeats 400000 in
set_option maxRecDepth 100000 in
theorem put_bad (A : Option Addr) (c : Nat) (l : List Pr) (key : ByteArray) (n : Int) (w : World) (hA : SV w A c l) (hl : l.length < 4611686018427387904) (h : chk ByteArray.empty l ≠ 0) :
    Calls Tryz.prog 200 #[.slice A l.length c, .string key, .int .i64 n] w fun e w' => e = .returned (.tuple #[.slice none 0 0, .int .i64 (chk ByteArray.empty l)]) ∧ Below w.heap.size w w' := by
  have hps := hA.ps
  clear hA
  generalize hC : chk ByteArray.empty l = C at h
  have HC := hideP hC
  clear hC
  have d : (C != 0) = true := by simp [h]
  clear h
  go_enter Tryz.func200, Tryz.ntmps200
  go_wp2_with fail
  refine (check_any A c l _ hps hl).mono ?_
  rintro e w' ⟨rfl, hb⟩
  rw [HC.out]
  go_wp2_with fail
  go_ret2
  exact ⟨rfl, hb⟩

set_option maxHeartbeats 400000 in
set_option maxRecDepth 100000 in
theorem put_own (A : Option Addr) (c : Nat) (l : List Pr) (key : ByteArray) (n : Int) (q : Nat) (w : World) (hA : SV w A c l) (hl : Ok l) (hk : keyB key = true) (hn : valB n = true) (hq : At l key q) (hsz : (l.length + 1) * 24 ≤ 140737488355328) :
    Calls Tryz.prog 200 #[.slice A l.length c, .string key, .int .i64 n] w (RetStO w (putL l key n q)) := by
  have hll : l.length < 4611686018427387904 := by omega
  have hps := hA.ps
  have hC := chk_ok.2 hl
  have HC := hideP hC
  clear hC
  go_enter Tryz.func200, Tryz.ntmps200
  go_wp2_with fail
  refine (check_any A c l _ hps hll).mono ?_
  rintro e w1 ⟨rfl, hb1⟩
  rw [HC.out]
  go_wp2_with fail
  refine (key_any _ _).mono ?_
  rintro e w' ⟨rfl, rfl⟩
  go_wp2_with fail
  refine (value_any _ _).mono ?_
  rintro e w' ⟨rfl, rfl⟩
  go_wp2_with fail
  refine (find_any A c l key q _ ((hps.below hb1).more hb1.size) hll hq).mono ?_
  rintro e w2 ⟨rfl, hb2⟩
  have hb : Below w.heap.size w w2 := hb1.trans (hb2.mono hb1.size)
  clear hb1 hb2
  have hsz2 : w.heap.size ≤ w2.heap.size := hb.size
  have hfin : ∀ (W : World) (l1 l2 l3 : List Pr) (e : Ending) (w' : World), l1 ++ (l2 ++ l3) = putL l key n q → Below w.heap.size w W → RetRow W (l1 ++ (l2 ++ l3)) e w' →
      ∃ A' c', e = .returned (.slice A' (putL l key n q).length c') ∧ SV w' A' c' (putL l key n q) ∧ (Below w.heap.size w w' ∧ OV w' w.heap.size A' c' (putL l key n q)) := by
    rintro W l1 l2 l3 e w' he hbW ⟨v, rfl, hown, hbc⟩
    rw [he] at hown
    obtain ⟨A', c', rfl, hsv⟩ := SV.of_own hown
    exact ⟨A', c', rfl, hsv, hbW.trans (hbc.mono hbW.size), OV.mono hown hbW.size⟩
  have Hfin := hideP hfin
  have hps2 : PS w2 w2.heap.size A l := (hps.below hb).more hb.size
  have hq1 := hq.le
  have hcap : c ≤ 9223372036854775807 := by have := hA.cap; unfold maxLen at this; exact this
  have hle := hA.le
  have hlit := hideP hA.lit
  have hnn := hideP (fun (e : A = none) => (show SV w none c l from e ▸ hA).none_nil)
  clear hq hl hps HC hk hn hA hfin
  by_cases hn0 : n = 0
  · have dn : (n != 0) = false := by simp [hn0]
    have HN := hideP hn0
    clear hn0
    rcases A with _ | ⟨b, o, sp⟩
    · obtain ⟨rfl, rfl⟩ := hnn.out rfl
      obtain rfl : q = 0 := by simpa using hq1
      have hf : fnd [] key 0 = false := rfl
      clear hnn
      go_wp2_with fail
      go_quiet (fail)
      go_wp2_with fail
      with_reducible refine (concat3 _ _ ?hg _ _ _ _ _ _ _ _ _ ([]) [] ([]) ?e1 ?e2 ?e3 ?p1 ?p2 ?p3 ?hn).mono ?_
      case hg => simp
      case e1 => simp
      case e2 => rfl
      case e3 => simp
      case p1 => exact PS.nil
      case p2 => exact PS.nil
      case p3 => exact PS.nil
      case hn => simp <;> omega
      intro e w' hr
      obtain ⟨A', c', rfl, hsv, hbb⟩ := Hfin.out _ _ _ _ e w' (by simp [putL, HN.out]) ((belowDrewN hb nq).alloc (by simp; omega) _) hr
      go_wp2_with fail
      go_ret2
      exact ⟨A', c', rfl, hsv, hbb⟩
    · by_cases hc0 : c = 0
      · subst hc0
        obtain rfl : l = [] := List.length_eq_zero_iff.1 (by omega)
        obtain rfl : q = 0 := by simpa using hq1
        have hf : fnd [] key 0 = false := rfl
        clear hnn hlit
        go_wp2_with fail
        go_quiet (fail)
        go_wp2_with fail
        with_reducible refine (concat3 _ _ ?hg _ _ _ _ _ _ _ _ _ ([]) [] ([]) ?e1 ?e2 ?e3 ?p1 ?p2 ?p3 ?hn).mono ?_
        case hg => simp
        case e1 => simp
        case e2 => rfl
        case e3 => simp
        case p1 => exact PS.nil
        case p2 => exact PS.nil
        case p3 => exact PS.nil
        case hn => simp <;> omega
        intro e w' hr
        obtain ⟨A', c', rfl, hsv, hbb⟩ := Hfin.out _ _ _ _ e w' (by simp [putL, HN.out]) ((belowDrewN hb nq).alloc (by simp; omega) _) hr
        go_wp2_with fail
        go_ret2
        exact ⟨A', c', rfl, hsv, hbb⟩
      · obtain ⟨b', o', e'⟩ := hlit.out (by omega) _ rfl
        injection e' with e1 e2 e3
        clear e1 e2
        subst e3
        clear hlit hnn
        have g1 : (q : Int) ≤ (c : Int) := by omega
        have g2 : (q : Int) ≤ (l.length : Int) := by omega
        have g0 : (0 : Int) ≤ (q : Int) := by omega
        cases hf : fnd l key q
        · have HF := hideP hf
          by_cases hcq : c = q
          · have HQ := hideP hcq
            go_wp2_with fail
            go_quiet (fail)
            go_wp2_with fail
            with_reducible refine (concat3 _ _ ?hg _ _ _ _ _ _ _ _ _ (l.take q) [] (l.drop q) ?e1 ?e2 ?e3 ?p1 ?p2 ?p3 ?hn).mono ?_
            case hg => simp
            case e1 => simp <;> omega
            case e2 => rfl
            case e3 => simp <;> omega
            case p1 => exact ((hps2.take_ q).drewN nq)
            case p2 => exact PS.nil
            case p3 => exact (PS.drop_all (by omega))
            case hn => simp <;> omega
            intro e w' hr
            obtain ⟨A', c', rfl, hsv, hbb⟩ := Hfin.out _ _ _ _ e w' (by simp [putL, HN.out, HF.out]) ((belowDrewN hb nq).alloc (by simp; omega) _) hr
            go_wp2_with fail
            go_ret2
            exact ⟨A', c', rfl, hsv, hbb⟩
          · have dq : ¬ c = q := hcq
            go_wp2_with fail
            go_quiet (fail)
            go_wp2_with fail
            with_reducible refine (concat3 _ _ ?hg _ _ _ _ _ _ _ _ _ (l.take q) [] (l.drop q) ?e1 ?e2 ?e3 ?p1 ?p2 ?p3 ?hn).mono ?_
            case hg => simp
            case e1 => simp <;> omega
            case e2 => rfl
            case e3 => simp <;> omega
            case p1 => exact ((hps2.take_ q).drewN nq)
            case p2 => exact PS.nil
            case p3 => exact ((hps2.drop_ q).drewN nq)
            case hn => simp <;> omega
            intro e w' hr
            obtain ⟨A', c', rfl, hsv, hbb⟩ := Hfin.out _ _ _ _ e w' (by simp [putL, HN.out, HF.out]) ((belowDrewN hb nq).alloc (by simp; omega) _) hr
            go_wp2_with fail
            go_ret2
            exact ⟨A', c', rfl, hsv, hbb⟩
        · have HF := hideP hf
          have hql := fnd_lt hf
          have dq : ¬ c = q := by omega
          have g3 : (1 : Int) ≤ ((l.length - q : Nat) : Int) := by omega
          have g4 : (1 : Int) ≤ ((c - q : Nat) : Int) := by omega
          by_cases hcq : c - q = 1
          · have HQ := hideP hcq
            go_wp2_with fail
            go_quiet (fail)
            go_wp2_with fail
            with_reducible refine (concat3 _ _ ?hg _ _ _ _ _ _ _ _ _ (l.take q) [] (l.drop (q + 1)) ?e1 ?e2 ?e3 ?p1 ?p2 ?p3 ?hn).mono ?_
            case hg => simp
            case e1 => simp <;> omega
            case e2 => rfl
            case e3 => simp <;> omega
            case p1 => exact ((hps2.take_ q).drewN nq)
            case p2 => exact PS.nil
            case p3 => exact (PS.drop_all (by omega))
            case hn => simp <;> omega
            intro e w' hr
            obtain ⟨A', c', rfl, hsv, hbb⟩ := Hfin.out _ _ _ _ e w' (by simp [putL, HN.out, HF.out]) ((belowDrewN hb nq).alloc (by simp; omega) _) hr
            go_wp2_with fail
            go_ret2
            exact ⟨A', c', rfl, hsv, hbb⟩
          · have dq1 : ¬ c - q = 1 := hcq
            go_wp2_with fail
            go_quiet (fail)
            go_wp2_with fail
            with_reducible refine (concat3 _ _ ?hg _ _ _ _ _ _ _ _ _ (l.take q) [] (l.drop (q + 1)) ?e1 ?e2 ?e3 ?p1 ?p2 ?p3 ?hn).mono ?_
            case hg => simp
            case e1 => simp <;> omega
            case e2 => rfl
            case e3 => simp <;> omega
            case p1 => exact ((hps2.take_ q).drewN nq)
            case p2 => exact PS.nil
            case p3 => exact ((drop_succ hps2 q).drewN nq)
            case hn => simp <;> omega
            intro e w' hr
            obtain ⟨A', c', rfl, hsv, hbb⟩ := Hfin.out _ _ _ _ e w' (by simp [putL, HN.out, HF.out]) ((belowDrewN hb nq).alloc (by simp; omega) _) hr
            go_wp2_with fail
            go_ret2
            exact ⟨A', c', rfl, hsv, hbb⟩
  · have dn : (n != 0) = true := by simp [hn0]
    have HN := hideP hn0
    clear hn0
    rcases A with _ | ⟨b, o, sp⟩
    · obtain ⟨rfl, rfl⟩ := hnn.out rfl
      obtain rfl : q = 0 := by simpa using hq1
      have hf : fnd [] key 0 = false := rfl
      clear hnn
      go_wp2_with fail
      go_quiet (fail)
      go_wp2_with fail
      with_reducible refine (concat3 _ _ ?hg _ _ _ _ _ _ _ _ _ ([]) [(key, n)] ([]) ?e1 ?e2 ?e3 ?p1 ?p2 ?p3 ?hn).mono ?_
      case hg => simp
      case e1 => simp
      case e2 => rfl
      case e3 => simp
      case p1 => exact PS.nil.alloc _
      case p2 => exact PS.one _ _ _ _
      case p3 => exact PS.nil.alloc _
      case hn => simp <;> omega
      intro e w' hr
      obtain ⟨A', c', rfl, hsv, hbb⟩ := Hfin.out _ _ _ _ e w' (by simp [putL, HN.out]) (((belowDrewN hb nq).alloc (by simp; omega) _).alloc (by simp; omega) _) hr
      go_wp2_with fail
      go_ret2
      exact ⟨A', c', rfl, hsv, hbb⟩
    · by_cases hc0 : c = 0
      · subst hc0
        obtain rfl : l = [] := List.length_eq_zero_iff.1 (by omega)
        obtain rfl : q = 0 := by simpa using hq1
        have hf : fnd [] key 0 = false := rfl
        clear hnn hlit
        go_wp2_with fail
        go_quiet (fail)
        go_wp2_with fail
        with_reducible refine (concat3 _ _ ?hg _ _ _ _ _ _ _ _ _ ([]) [(key, n)] ([]) ?e1 ?e2 ?e3 ?p1 ?p2 ?p3 ?hn).mono ?_
        case hg => simp
        case e1 => simp
        case e2 => rfl
        case e3 => simp
        case p1 => exact PS.nil.alloc _
        case p2 => exact PS.one _ _ _ _
        case p3 => exact PS.nil.alloc _
        case hn => simp <;> omega
        intro e w' hr
        obtain ⟨A', c', rfl, hsv, hbb⟩ := Hfin.out _ _ _ _ e w' (by simp [putL, HN.out]) (((belowDrewN hb nq).alloc (by simp; omega) _).alloc (by simp; omega) _) hr
        go_wp2_with fail
        go_ret2
        exact ⟨A', c', rfl, hsv, hbb⟩
      · obtain ⟨b', o', e'⟩ := hlit.out (by omega) _ rfl
        injection e' with e1 e2 e3
        clear e1 e2
        subst e3
        clear hlit hnn
        have g1 : (q : Int) ≤ (c : Int) := by omega
        have g2 : (q : Int) ≤ (l.length : Int) := by omega
        have g0 : (0 : Int) ≤ (q : Int) := by omega
        cases hf : fnd l key q
        · have HF := hideP hf
          by_cases hcq : c = q
          · have HQ := hideP hcq
            go_wp2_with fail
            go_quiet (fail)
            go_wp2_with fail
            with_reducible refine (concat3 _ _ ?hg _ _ _ _ _ _ _ _ _ (l.take q) [(key, n)] (l.drop q) ?e1 ?e2 ?e3 ?p1 ?p2 ?p3 ?hn).mono ?_
            case hg => simp
            case e1 => simp <;> omega
            case e2 => rfl
            case e3 => simp <;> omega
            case p1 => exact ((hps2.take_ q).drewN nq).alloc _
            case p2 => exact PS.one _ _ _ _
            case p3 => exact (PS.drop_all (by omega)).alloc _
            case hn => simp <;> omega
            intro e w' hr
            obtain ⟨A', c', rfl, hsv, hbb⟩ := Hfin.out _ _ _ _ e w' (by simp [putL, HN.out, HF.out]) (((belowDrewN hb nq).alloc (by simp; omega) _).alloc (by simp; omega) _) hr
            go_wp2_with fail
            go_ret2
            exact ⟨A', c', rfl, hsv, hbb⟩
          · have dq : ¬ c = q := hcq
            go_wp2_with fail
            go_quiet (fail)
            go_wp2_with fail
            with_reducible refine (concat3 _ _ ?hg _ _ _ _ _ _ _ _ _ (l.take q) [(key, n)] (l.drop q) ?e1 ?e2 ?e3 ?p1 ?p2 ?p3 ?hn).mono ?_
            case hg => simp
            case e1 => simp <;> omega
            case e2 => rfl
            case e3 => simp <;> omega
            case p1 => exact ((hps2.take_ q).drewN nq).alloc _
            case p2 => exact PS.one _ _ _ _
            case p3 => exact ((hps2.drop_ q).drewN nq).alloc _
            case hn => simp <;> omega
            intro e w' hr
            obtain ⟨A', c', rfl, hsv, hbb⟩ := Hfin.out _ _ _ _ e w' (by simp [putL, HN.out, HF.out]) (((belowDrewN hb nq).alloc (by simp; omega) _).alloc (by simp; omega) _) hr
            go_wp2_with fail
            go_ret2
            exact ⟨A', c', rfl, hsv, hbb⟩
        · have HF := hideP hf
          have hql := fnd_lt hf
          have dq : ¬ c = q := by omega
          have g3 : (1 : Int) ≤ ((l.length - q : Nat) : Int) := by omega
          have g4 : (1 : Int) ≤ ((c - q : Nat) : Int) := by omega
          by_cases hcq : c - q = 1
          · have HQ := hideP hcq
            go_wp2_with fail
            go_quiet (fail)
            go_wp2_with fail
            with_reducible refine (concat3 _ _ ?hg _ _ _ _ _ _ _ _ _ (l.take q) [(key, n)] (l.drop (q + 1)) ?e1 ?e2 ?e3 ?p1 ?p2 ?p3 ?hn).mono ?_
            case hg => simp
            case e1 => simp <;> omega
            case e2 => rfl
            case e3 => simp <;> omega
            case p1 => exact ((hps2.take_ q).drewN nq).alloc _
            case p2 => exact PS.one _ _ _ _
            case p3 => exact (PS.drop_all (by omega)).alloc _
            case hn => simp <;> omega
            intro e w' hr
            obtain ⟨A', c', rfl, hsv, hbb⟩ := Hfin.out _ _ _ _ e w' (by simp [putL, HN.out, HF.out]) (((belowDrewN hb nq).alloc (by simp; omega) _).alloc (by simp; omega) _) hr
            go_wp2_with fail
            go_ret2
            exact ⟨A', c', rfl, hsv, hbb⟩
          · have dq1 : ¬ c - q = 1 := hcq
            go_wp2_with fail
            go_quiet (fail)
            go_wp2_with fail
            with_reducible refine (concat3 _ _ ?hg _ _ _ _ _ _ _ _ _ (l.take q) [(key, n)] (l.drop (q + 1)) ?e1 ?e2 ?e3 ?p1 ?p2 ?p3 ?hn).mono ?_
            case hg => simp
            case e1 => simp <;> omega
            case e2 => rfl
            case e3 => simp <;> omega
            case p1 => exact ((hps2.take_ q).drewN nq).alloc _
            case p2 => exact PS.one _ _ _ _
            case p3 => exact ((drop_succ hps2 q).drewN nq).alloc _
            case hn => simp <;> omega
            intro e w' hr
            obtain ⟨A', c', rfl, hsv, hbb⟩ := Hfin.out _ _ _ _ e w' (by simp [putL, HN.out, HF.out]) (((belowDrewN hb nq).alloc (by simp; omega) _).alloc (by simp; omega) _) hr
            go_wp2_with fail
            go_ret2
            exact ⟨A', c', rfl, hsv, hbb⟩
theorem put_ok (A : Option Addr) (c : Nat) (l : List Pr) (key : ByteArray) (n : Int) (q : Nat) (w : World) (hA : SV w A c l) (hl : Ok l) (hk : keyB key = true) (hn : valB n = true) (hq : At l key q) (hsz : (l.length + 1) * 24 ≤ 140737488355328) :
    Calls Tryz.prog 200 #[.slice A l.length c, .string key, .int .i64 n] w (RetSt w (putL l key n q)) :=
  (put_own A c l key n q w hA hl hk hn hq hsz).mono fun _ _ ⟨A', c', h1, h2, h3, _⟩ => ⟨A', c', h1, h2, h3⟩
end Go.Proofs.YtmepmiokpcddbabGreatDoor
