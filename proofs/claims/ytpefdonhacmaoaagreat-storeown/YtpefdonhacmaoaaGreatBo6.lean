/-
  store.Get.
  store.Scan.
-/
import Derived.Test.YtpefdonhacmaoaaGreatBo5
set_option linter.unusedVariables false
set_option linter.unusedSimpArgs false
namespace Go.Proofs.YtpefdonhacmaoaaGreat
open Go.RowKit

set_option maxHeartbeats 400000 in
set_option maxRecDepth 100000 in
theorem get_bad (A : Option Addr) (c : Nat) (l : List Pr) (key : ByteArray) (w : World) (hA : SV w A c l) (hl : l.length < 4611686018427387904) (h : chk ByteArray.empty l ≠ 0) :
    Calls Tryz.prog 124 #[.slice A l.length c, .string key] w fun e w' => e = .returned (.tuple #[.int .i64 0, .int .i64 (chk ByteArray.empty l)]) ∧ Below w.heap.size w w' := by
  have hps := hA.ps
  clear hA
  generalize hC : chk ByteArray.empty l = C at h
  have HC := hideP hC
  clear hC
  have d : (C != 0) = true := by simp [h]
  clear h
  go_enter Tryz.func124, Tryz.ntmps124
  go_wp2_with fail
  refine (check_any A c l _ hps hl).mono ?_
  rintro e w' ⟨rfl, hb⟩
  rw [HC.out]
  go_wp2_with fail
  go_ret2
  exact ⟨rfl, hb⟩

set_option maxHeartbeats 400000 in
set_option maxRecDepth 100000 in
theorem get_key (A : Option Addr) (c : Nat) (l : List Pr) (key : ByteArray) (w : World) (hA : SV w A c l) (hl : l.length < 4611686018427387904) (h : Ok l) (hk : keyB key = false) :
    Calls Tryz.prog 124 #[.slice A l.length c, .string key] w fun e w' => e = .returned (.tuple #[.int .i64 0, .int .i64 3]) ∧ Below w.heap.size w w' := by
  have hps := hA.ps
  have HC := hideP (chk_ok.2 h)
  clear hA h
  go_enter Tryz.func124, Tryz.ntmps124
  go_wp2_with fail
  refine (check_any A c l _ hps hl).mono ?_
  rintro e w' ⟨rfl, hb⟩
  rw [HC.out]
  go_wp2_with fail
  refine (key_any _ _).mono ?_
  rintro e w' ⟨rfl, rfl⟩
  go_wp2_with fail
  go_ret2
  exact ⟨rfl, hb⟩

set_option maxHeartbeats 400000 in
set_option maxRecDepth 100000 in
theorem get_ok (A : Option Addr) (c : Nat) (l : List Pr) (key : ByteArray) (w : World) (hA : SV w A c l) (hl : l.length < 4611686018427387904) (h : Ok l) (hk : keyB key = true) :
    Calls Tryz.prog 124 #[.slice A l.length c, .string key] w fun e w' => e = .returned (.tuple #[.int .i64 (valOf l key), .int .i64 0]) ∧ Below w.heap.size w w' := by
  have hps := hA.ps
  have HC := hideP (chk_ok.2 h)
  have hq := posOf_at h.srt key
  have hv := valOf_at hq h.srt
  clear hA h
  generalize posOf l key = q at hq hv
  cases hf : fnd l key q
  · have HV := hideP (show valOf l key = 0 by rw [hv, dif_neg (by rw [hf]; simp)])
    clear hv
    go_enter Tryz.func124, Tryz.ntmps124
    go_wp2_with fail
    refine (check_any A c l _ hps hl).mono ?_
    rintro e w1 ⟨rfl, hb⟩
    rw [HC.out]
    go_wp2_with fail
    refine (key_any _ _).mono ?_
    rintro e w' ⟨rfl, rfl⟩
    go_wp2_with fail
    refine (find_any A c l key q _ ((hps.below hb).more hb.size) hl hq).mono ?_
    rintro e w2 ⟨rfl, hb2⟩
    go_wp2_with fail
    go_ret2
    exact ⟨by rw [HV.out]; rfl, hb.trans (hb2.mono hb.size)⟩
  · have hql := fnd_lt hf
    have HV := hideP (show valOf l key = (l[q]).2 by rw [hv, dif_pos hf])
    clear hv
    go_enter Tryz.func124, Tryz.ntmps124
    go_wp2_with fail
    refine (check_any A c l _ hps hl).mono ?_
    rintro e w1 ⟨rfl, hb⟩
    rw [HC.out]
    go_wp2_with fail
    refine (key_any _ _).mono ?_
    rintro e w' ⟨rfl, rfl⟩
    go_wp2_with fail
    refine (find_any A c l key q _ ((hps.below hb).more hb.size) hl hq).mono ?_
    rintro e w2 ⟨rfl, hb2⟩
    have hb3 := hb.trans (hb2.mono hb.size)
    obtain ⟨b, o, rfl, hbl, c1, c2⟩ := hps.below hb3 q _ (List.getElem?_eq_getElem hql)
    clear hps hq
    generalize l[q] = p at c1 c2 HV
    go_wp2_with fail
    go_ret2
    exact ⟨by rw [HV.out]; rfl, hb3⟩
end Go.Proofs.YtpefdonhacmaoaaGreat

set_option linter.unusedVariables false
set_option linter.unusedSimpArgs false
namespace Go.Proofs.YtpefdonhacmaoaaGreat
open Go.RowKit

set_option maxHeartbeats 400000 in
set_option maxRecDepth 100000 in
theorem scan_bad (A : Option Addr) (c : Nat) (l : List Pr) (f t : ByteArray) (w : World) (hA : SV w A c l) (hl : l.length < 4611686018427387904) (h : chk ByteArray.empty l ≠ 0) :
    Calls Tryz.prog 24 #[.slice A l.length c, .string f, .string t] w fun e w' => e = .returned (.tuple #[.slice none 0 0, .int .i64 (chk ByteArray.empty l)]) ∧ Below w.heap.size w w' := by
  have hps := hA.ps
  clear hA
  generalize hC : chk ByteArray.empty l = C at h
  have HC := hideP hC
  clear hC
  have d : (C != 0) = true := by simp [h]
  clear h
  go_enter Tryz.func24, Tryz.ntmps24
  go_wp2_with fail
  refine (check_any A c l _ hps hl).mono ?_
  rintro e w' ⟨rfl, hb⟩
  rw [HC.out]
  go_wp2_with fail
  go_ret2
  exact ⟨rfl, hb⟩

/-- what Scan makes -/
def scanL (l : List Pr) (f t : ByteArray) : List Pr := l.filter fun p => !ltB p.1 f && (t.toList.isEmpty || ltB p.1 t)
theorem filter_at {l : List Pr} {f : ByteArray} {q : Nat} (h : At l f q) : l.filter (fun p => !ltB p.1 f) = l.drop q := by
  rw [← List.take_append_drop q l, List.filter_append]
  rw [List.filter_eq_nil_iff.2 (fun p hp => by simp [h.ahead hp]), List.filter_eq_self.2 (fun p hp => by simp [h.behind hp])]
  have : (l.take q).length = q := by simp; have := h.le; omega
  simp [List.drop_append, this]
theorem filter_at' {l : List Pr} {t : ByteArray} {q : Nat} (h : At l t q) : l.filter (fun p => ltB p.1 t) = l.take q := by
  conv => lhs; rw [← List.take_append_drop q l]
  rw [List.filter_append, List.filter_eq_self.2 (fun p hp => h.ahead hp), List.filter_eq_nil_iff.2 (fun p hp => by simp [h.behind hp])]
  simp
theorem scanL_open {l : List Pr} {f t : ByteArray} {q : Nat} (ht : t.toList.isEmpty = true) (h : At l f q) : scanL l f t = l.drop q := by
  unfold scanL; simp only [ht, Bool.true_or, Bool.and_true]; exact filter_at h
theorem scanL_shut {l : List Pr} {f t : ByteArray} {q r : Nat} (ht : t.toList.isEmpty = false) (h : At l f q) (k : At l t r) : scanL l f t = (l.take (max q r)).drop q := by
  have e1 : scanL l f t = (l.filter fun p => ltB p.1 t).filter fun p => !ltB p.1 f := by
    unfold scanL; rw [List.filter_filter]; simp only [ht, Bool.false_or]
  rw [e1, filter_at' k]
  have hat : At (l.take r) f (min q r) := by
    refine ⟨by simp; have := k.le; have := h.le; omega, fun j hj hlt => ?_, fun j hj hle => ?_⟩
    · simp at hj; simp only [List.getElem_take]; exact h.lo j (by omega) (by omega)
    · simp at hj; simp only [List.getElem_take]; exact h.hi j (by omega) (by omega)
  rw [filter_at hat]
  by_cases hqr : q ≤ r
  · rw [Nat.max_eq_right hqr, Nat.min_eq_left hqr]
  · rw [Nat.max_eq_left (by omega), Nat.min_eq_right (by omega), List.drop_of_length_le (by simp; omega), List.drop_of_length_le (by simp; omega)]

set_option maxHeartbeats 400000 in
set_option maxRecDepth 100000 in
theorem scan_openO (A : Option Addr) (c : Nat) (l : List Pr) (f t : ByteArray) (w : World) (hA : SV w A c l) (hsz : l.length * 24 ≤ 140737488355328) (h : Ok l) (ht : t.toList.isEmpty = true) :
    Calls Tryz.prog 24 #[.slice A l.length c, .string f, .string t] w (RetStO w (scanL l f t)) := by
  have hl : l.length < 4611686018427387904 := by omega
  have hps := hA.ps
  have HC := hideP (chk_ok.2 h)
  have hq := posOf_at h.srt f
  have HS := hideP (scanL_open ht hq)
  have hcap : c ≤ 9223372036854775807 := by have := hA.cap; unfold maxLen at this; exact this
  have hle := hA.le
  have hlit := hideP hA.lit
  have hnn := hideP (fun (e : A = none) => (show SV w none c l from e ▸ hA).none_nil)
  clear hA h
  generalize posOf l f = q at hq HS
  have hq1 := hq.le
  have g1 : (q : Int) ≤ (l.length : Int) := by omega
  have g2 : (l.length : Int) ≤ (c : Int) := by omega
  have g0 : (0 : Int) ≤ (q : Int) := by omega
  have hfin : ∀ (W : World) (e : Ending) (w' : World), Below w.heap.size w W → RetRow W (l.drop q) e w' → ∃ A' c', e = .returned (.slice A' (scanL l f t).length c') ∧ SV w' A' c' (scanL l f t) ∧ Below w.heap.size w w' ∧ OV w' w.heap.size A' c' (scanL l f t) := by
    rintro W e w' hbW ⟨v, rfl, hown, hbc⟩
    rw [← HS.out] at hown
    obtain ⟨A', c', rfl, hov⟩ := OV.of_own hown
    exact ⟨A', c', rfl, hov.sv, hbW.trans (hbc.mono hbW.size), hov.mono hbW.size⟩
  have Hfin := hideP hfin
  clear hfin
  go_enter Tryz.func24, Tryz.ntmps24
  go_wp2_with fail
  refine (check_any A c l _ hps hl).mono ?_
  rintro e w1 ⟨rfl, hb1⟩
  rw [HC.out]
  go_wp2_with fail
  refine (find_any A c l f q _ ((hps.below hb1).more hb1.size) hl hq).mono ?_
  rintro e w2 ⟨rfl, hb2⟩
  generalize fnd l f q = F
  have hb : Below w.heap.size w w2 := hb1.trans (hb2.mono hb1.size)
  clear hb1 hb2
  have hsz2 : w.heap.size ≤ w2.heap.size := hb.size
  have hps2 : PS w2 w2.heap.size A l := (hps.below hb).more hb.size
  clear hps
  rcases A with _ | ⟨b, o, sp⟩
  · obtain ⟨rfl, rfl⟩ := hnn.out rfl
    obtain rfl : q = 0 := by simpa using hq1
    go_wp2_with fail
    all_goals
      with_reducible refine (concat1 _ _ ?hg _ _ _ (([] : List Pr)) ?e1 ?p1 ?hn).mono ?_
      case hg => simp
      case e1 => simp <;> omega
      case p1 => (exact PS.nil)
      case hn => simp <;> omega
      intro e w' hr'
      obtain ⟨A', c', rfl, hsv, hbb⟩ := Hfin.out _ e w' (hb.alloc hsz2 _) hr'
      go_wp2_with fail
      go_ret2
      exact ⟨A', c', rfl, hsv, hbb⟩
  · by_cases hc0 : c = 0
    · subst hc0
      obtain rfl : l = [] := List.length_eq_zero_iff.1 (by omega)
      obtain rfl : q = 0 := by simpa using hq1
      go_wp2_with fail
      all_goals
        with_reducible refine (concat1 _ _ ?hg _ _ _ (([] : List Pr)) ?e1 ?p1 ?hn).mono ?_
        case hg => simp
        case e1 => simp <;> omega
        case p1 => (exact PS.nil)
        case hn => simp <;> omega
        intro e w' hr'
        obtain ⟨A', c', rfl, hsv, hbb⟩ := Hfin.out _ e w' (hb.alloc hsz2 _) hr'
        go_wp2_with fail
        go_ret2
        exact ⟨A', c', rfl, hsv, hbb⟩
    · obtain ⟨b', o', e'⟩ := hlit.out (by omega) _ rfl
      injection e' with e1 e2 e3
      clear e1 e2
      subst e3
      clear hlit hnn
      by_cases hcq : c = q
      · have HQ := hideP hcq
        go_wp2_with fail
        all_goals
          with_reducible refine (concat1 _ _ ?hg _ _ _ (l.drop q) ?e1 ?p1 ?hn).mono ?_
          case hg => simp
          case e1 => simp <;> omega
          case p1 => (first | exact (hps2).drop_ q | exact PS.drop_all (by (try simp) <;> omega))
          case hn => simp <;> omega
          intro e w' hr'
          obtain ⟨A', c', rfl, hsv, hbb⟩ := Hfin.out _ e w' (hb.alloc hsz2 _) hr'
          go_wp2_with fail
          go_ret2
          exact ⟨A', c', rfl, hsv, hbb⟩
      · have dq : ¬ c = q := hcq
        go_wp2_with fail
        all_goals
          with_reducible refine (concat1 _ _ ?hg _ _ _ (l.drop q) ?e1 ?p1 ?hn).mono ?_
          case hg => simp
          case e1 => simp <;> omega
          case p1 => (first | exact (hps2).drop_ q | exact PS.drop_all (by (try simp) <;> omega))
          case hn => simp <;> omega
          intro e w' hr'
          obtain ⟨A', c', rfl, hsv, hbb⟩ := Hfin.out _ e w' (hb.alloc hsz2 _) hr'
          go_wp2_with fail
          go_ret2
          exact ⟨A', c', rfl, hsv, hbb⟩

theorem scan_open (A : Option Addr) (c : Nat) (l : List Pr) (f t : ByteArray) (w : World) (hA : SV w A c l) (hsz : l.length * 24 ≤ 140737488355328) (h : Ok l) (ht : t.toList.isEmpty = true) :
    Calls Tryz.prog 24 #[.slice A l.length c, .string f, .string t] w (RetSt w (scanL l f t)) :=
  (scan_openO A c l f t w hA hsz h ht).mono fun e w' ⟨A', c', h1, h2, h3, _⟩ => ⟨A', c', h1, h2, h3⟩

set_option maxHeartbeats 400000 in
set_option maxRecDepth 100000 in
theorem scan_shut (A : Option Addr) (c : Nat) (l : List Pr) (f t : ByteArray) (w : World) (hA : SV w A c l) (hsz : l.length * 24 ≤ 140737488355328) (h : Ok l) (ht : t.toList.isEmpty = false) :
    Calls Tryz.prog 24 #[.slice A l.length c, .string f, .string t] w (RetSt w (scanL l f t)) := by
  have hl : l.length < 4611686018427387904 := by omega
  have hps := hA.ps
  have HC := hideP (chk_ok.2 h)
  have hq := posOf_at h.srt f
  have hr := posOf_at h.srt t
  have HS := hideP (scanL_shut ht hq hr)
  have hcap : c ≤ 9223372036854775807 := by have := hA.cap; unfold maxLen at this; exact this
  have hle := hA.le
  have hlit := hideP hA.lit
  have hnn := hideP (fun (e : A = none) => (show SV w none c l from e ▸ hA).none_nil)
  clear hA h
  generalize posOf l f = q at hq HS
  have hq1 := hq.le
  generalize posOf l t = r at hr HS
  have hr1 := hr.le
  obtain ⟨E, hE⟩ : ∃ E : Nat, E = max q r := ⟨_, rfl⟩
  have HE := hideP hE
  have hEl : E ≤ l.length := by omega
  have hqE : q ≤ E := by omega
  have g1 : (q : Int) ≤ (l.length : Int) := by omega
  have g2 : (l.length : Int) ≤ (c : Int) := by omega
  have g0 : (0 : Int) ≤ (q : Int) := by omega
  have hfin : ∀ (W : World) (e : Ending) (w' : World), Below w.heap.size w W → RetRow W ((l.take E).drop q) e w' → ∃ A' c', e = .returned (.slice A' (scanL l f t).length c') ∧ SV w' A' c' (scanL l f t) ∧ Below w.heap.size w w' := by
    rintro W e w' hbW ⟨v, rfl, hown, hbc⟩
    rw [HE.out, ← HS.out] at hown
    obtain ⟨A', c', rfl, hsv⟩ := SV.of_own hown
    exact ⟨A', c', rfl, hsv, hbW.trans (hbc.mono hbW.size)⟩
  have Hfin := hideP hfin
  clear hfin
  go_enter Tryz.func24, Tryz.ntmps24
  go_wp2_with fail
  refine (check_any A c l _ hps hl).mono ?_
  rintro e w1 ⟨rfl, hb1⟩
  rw [HC.out]
  go_wp2_with fail
  refine (find_any A c l f q _ ((hps.below hb1).more hb1.size) hl hq).mono ?_
  rintro e w2 ⟨rfl, hb2⟩
  generalize fnd l f q = F
  have hb : Below w.heap.size w w2 := hb1.trans (hb2.mono hb1.size)
  clear hb1 hb2
  go_wp2_with fail
  refine (find_any A c l t r _ ((hps.below hb).more hb.size) hl hr).mono ?_
  rintro e w3 ⟨rfl, hb3⟩
  generalize fnd l t r = F2
  replace hb : Below w.heap.size w w3 := hb.trans (hb3.mono hb.size)
  clear hb3
  have hsz2 : w.heap.size ≤ w3.heap.size := hb.size
  have hps2 : PS w3 w3.heap.size A l := (hps.below hb).more hb.size
  clear hps
  rcases A with _ | ⟨b, o, sp⟩
  · obtain ⟨rfl, rfl⟩ := hnn.out rfl
    obtain rfl : q = 0 := by simpa using hq1
    obtain rfl : E = 0 := by simpa using hEl
    clear hE
    obtain rfl : r = 0 := by simpa using hr1
    go_wp2_with fail
    all_goals
      with_reducible refine (concat1 _ _ ?hg _ _ _ ((([] : List Pr).take 0).drop 0) ?e1 ?p1 ?hn).mono ?_
      case hg => simp
      case e1 => simp <;> omega
      case p1 => (exact PS.nil)
      case hn => simp <;> omega
      intro e w' hr'
      obtain ⟨A', c', rfl, hsv, hbb⟩ := Hfin.out _ e w' (hb.alloc hsz2 _) hr'
      go_wp2_with fail
      go_ret2
      exact ⟨A', c', rfl, hsv, hbb⟩
  · by_cases hc0 : c = 0
    · subst hc0
      obtain rfl : l = [] := List.length_eq_zero_iff.1 (by omega)
      obtain rfl : q = 0 := by simpa using hq1
      obtain rfl : E = 0 := by simpa using hEl
      clear hE
      obtain rfl : r = 0 := by simpa using hr1
      go_wp2_with fail
      all_goals
        with_reducible refine (concat1 _ _ ?hg _ _ _ ((([] : List Pr).take 0).drop 0) ?e1 ?p1 ?hn).mono ?_
        case hg => simp
        case e1 => simp <;> omega
        case p1 => (exact PS.nil)
        case hn => simp <;> omega
        intro e w' hr'
        obtain ⟨A', c', rfl, hsv, hbb⟩ := Hfin.out _ e w' (hb.alloc hsz2 _) hr'
        go_wp2_with fail
        go_ret2
        exact ⟨A', c', rfl, hsv, hbb⟩
    · obtain ⟨b', o', e'⟩ := hlit.out (by omega) _ rfl
      injection e' with e1 e2 e3
      clear e1 e2
      subst e3
      clear hlit hnn
      by_cases hcq : c = q
      · have HQ := hideP hcq
        go_wp2_with fail
        all_goals
          with_reducible refine (concat1 _ _ ?hg _ _ _ ((l.take E).drop q) ?e1 ?p1 ?hn).mono ?_
          case hg => simp
          case e1 => simp <;> omega
          case p1 => (first | exact (hps2.take_ E).drop_ q | exact PS.drop_all (by (try simp) <;> omega))
          case hn => simp <;> omega
          intro e w' hr'
          obtain ⟨A', c', rfl, hsv, hbb⟩ := Hfin.out _ e w' (hb.alloc hsz2 _) hr'
          go_wp2_with fail
          go_ret2
          exact ⟨A', c', rfl, hsv, hbb⟩
      · have dq : ¬ c = q := hcq
        go_wp2_with fail
        all_goals
          with_reducible refine (concat1 _ _ ?hg _ _ _ ((l.take E).drop q) ?e1 ?p1 ?hn).mono ?_
          case hg => simp
          case e1 => simp <;> omega
          case p1 => (first | exact (hps2.take_ E).drop_ q | exact PS.drop_all (by (try simp) <;> omega))
          case hn => simp <;> omega
          intro e w' hr'
          obtain ⟨A', c', rfl, hsv, hbb⟩ := Hfin.out _ e w' (hb.alloc hsz2 _) hr'
          go_wp2_with fail
          go_ret2
          exact ⟨A', c', rfl, hsv, hbb⟩

theorem scan_ok (A : Option Addr) (c : Nat) (l : List Pr) (f t : ByteArray) (w : World) (hA : SV w A c l) (hsz : l.length * 24 ≤ 140737488355328) (h : Ok l) :
    Calls Tryz.prog 24 #[.slice A l.length c, .string f, .string t] w (RetSt w (scanL l f t)) := by
  cases ht : t.toList.isEmpty
  · exact scan_shut A c l f t w hA hsz h ht
  · exact scan_open A c l f t w hA hsz h ht
theorem scanL_len (l : List Pr) (f t : ByteArray) : (scanL l f t).length ≤ l.length := List.length_filter_le _ _
end Go.Proofs.YtpefdonhacmaoaaGreat
