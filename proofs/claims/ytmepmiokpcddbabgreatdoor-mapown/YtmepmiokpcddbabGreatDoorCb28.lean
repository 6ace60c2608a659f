/-
  Log entries as text, plainly (no program in it).
  A line one byte of which is another one cannot be read, plainly (no program in it).
  text.Map: what it writes.
-/
import Derived.Test.YtmepmiokpcddbabGreatDoorCb15
import Derived.Test.YtmepmiokpcddbabGreatDoorCb27
import Derived.Test.YtmepmiokpcddbabGreatDoorCb3
set_option linter.unusedVariables false
set_option linter.unusedSimpArgs false
namespace Go.Proofs.YtmepmiokpcddbabGreatDoor
open Go.Lib

/-- the word map and a space -/
def mapW : List UInt8 := [109, 97, 112, 32]
/-- what stands before the sum -/
def bodyT (x : Ent) : List UInt8 := if x.isM then mapW ++ tM x.cs x.os else tD x.d
/-- a line -/
def lnT (b : List UInt8) : List UInt8 := b ++ 32 :: (itoa (sm b) ++ [10])
def entT (x : Ent) : List UInt8 := lnT (bodyT x)
/-- without what is not so -/
def bareE (x : Ent) : Ent := if x.isM then ⟨true, [], x.cs, x.os⟩ else ⟨false, x.d.map bare, [], []⟩
/-- what stands before the sum, read -/
def rdB (l : List UInt8) : Int × Ent := if mapW.isPrefixOf l then
    (if (rdM (l.drop 4)).1 = 0 then (0, ⟨true, [], (rdM (l.drop 4)).2.1, (rdM (l.drop 4)).2.2⟩) else ((rdM (l.drop 4)).1, ent0))
  else (if (rdD l).1 = 0 then (0, ⟨false, (rdD l).2, [], []⟩) else ((rdD l).1, ent0))
/-- a line without its newline, read -/
def prL (l : List UInt8) : Int × Ent := if lastIndex l [32] < 0 then (9, ent0) else
  match rdN (l.drop ((lastIndex l [32]).toNat + 1)) with
  | none => (9, ent0)
  | some n => if n ≠ (sm (l.take (lastIndex l [32]).toNat) : Int) then (8, ent0) else rdB (l.take (lastIndex l [32]).toNat)
/-- the first line, read: the error, the entry, the length -/
def rdE (l : List UInt8) : Int × Ent × Nat := if (cut l [10]).2.2 = false then (7, ent0, 0) else
  if (prL (cut l [10]).1).1 = 0 then (0, (prL (cut l [10]).1).2, (cut l [10]).1.length + 1) else ((prL (cut l [10]).1).1, ent0, 0)
theorem mapW_pre (l : List UInt8) : mapW.isPrefixOf (mapW ++ l) = true := by simp
theorem pre_map {l : List UInt8} (h : mapW.isPrefixOf l = true) : l = mapW ++ l.drop 4 := by
  obtain ⟨r, rfl⟩ := List.isPrefixOf_iff_prefix.1 h
  rfl
theorem tD_not {d : List Opr} {c : UInt8} (h : chkD d = 0) (h1 : c.toNat < 97) (h2 : c.toNat ≠ 45) (h3 : c.toNat < 48 ∨ 57 < c.toNat) (h4 : signs.contains c = false) (h5 : c ≠ 42) (h6 : c ≠ 59) : c ∉ tD d := by
  refine join_has h6 fun x hx => ?_
  obtain ⟨o, ho, rfl⟩ := List.mem_map.1 hx
  exact opT_not ((chkD_zero.1 h).2.2 o ho) h1 h2 h3 h4 h5
theorem tM_not {cs : List ByteArray} {os : List Int} {c : UInt8} (h : OkM cs os) (h1 : c.toNat < 97) (h2 : c.toNat ≠ 45) (h3 : c.toNat < 48 ∨ 57 < c.toNat) (h4 : c ≠ 58) : c ∉ tM cs os := join_has h4 (wdM_not h1 h2 h3 h)
theorem not_map {d : List Opr} (h : chkD d = 0) : mapW.isPrefixOf (tD d) = false := by
  cases e : mapW.isPrefixOf (tD d)
  · rfl
  · have h1 := pre_map e
    have h2 : (32 : UInt8) ∈ tD d := by rw [h1]; simp [mapW]
    exact absurd h2 (tD_not h (by decide) (by decide) (by decide) (by decide) (by decide) (by decide))
theorem rdB_body {x : Ent} (h : chkE x = 0) : rdB (bodyT x) = (0, bareE x) := by
  obtain ⟨m, d, cs, os⟩ := x
  cases m
  · have h' : chkD d = 0 := h
    show rdB (tD d) = _
    rw [rdB, not_map h', rdD_tD h']; rfl
  · have h' : OkM cs os := chkM_ok.1 h
    show rdB (mapW ++ tM cs os) = _
    have e : (mapW ++ tM cs os).drop 4 = tM cs os := rfl
    rw [rdB, mapW_pre, e, rdM_tM h']; rfl
theorem body_rdB {l : List UInt8} {x : Ent} (h : rdB l = (0, x)) : bodyT x = l ∧ chkE x = 0 ∧ bareE x = x := by
  unfold rdB at h
  split at h
  · next hp =>
    split at h
    · next hz =>
      injection h with _ h
      subst h
      obtain ⟨h1, h2⟩ := tM_rdM (show rdM (l.drop 4) = (0, (rdM (l.drop 4)).2.1, (rdM (l.drop 4)).2.2) by rw [← hz])
      refine ⟨?_, chkM_ok.2 h2, rfl⟩
      show mapW ++ tM _ _ = l
      rw [h1]; exact (pre_map hp).symm
    · next hz => injection h with h _; exact absurd h hz
  · next hp =>
    split at h
    · next hz =>
      injection h with _ h
      subst h
      obtain ⟨h1, h2, h3⟩ := tD_rdD (show rdD l = (0, (rdD l).2) by rw [← hz])
      exact ⟨h1, h2, by show Ent.mk false ((rdD l).2.map bare) [] [] = _; rw [h3]⟩
    · next hz => injection h with h _; exact absurd h hz
theorem body_not {x : Ent} (h : chkE x = 0) : (10 : UInt8) ∉ bodyT x := by
  obtain ⟨m, d, cs, os⟩ := x
  cases m
  · exact tD_not (show chkD d = 0 from h) (by decide) (by decide) (by decide) (by decide) (by decide) (by decide)
  · show (10 : UInt8) ∉ mapW ++ tM cs os
    have := tM_not (c := 10) (chkM_ok.1 (show chkM cs os = 0 from h)) (by decide) (by decide) (by decide) (by decide)
    simp [mapW, this]
theorem body_sp {x : Ent} (h : chkE x = 0) {j : Nat} (hj : (bodyT x)[j]? = some 32) : j = 3 ∧ ∃ r, bodyT x = mapW ++ r := by
  obtain ⟨m, d, cs, os⟩ := x
  cases m
  · exact absurd (List.mem_of_getElem? hj) (tD_not (show chkD d = 0 from h) (by decide) (by decide) (by decide) (by decide) (by decide) (by decide))
  · have h1 := tM_not (c := 32) (chkM_ok.1 (show chkM cs os = 0 from h)) (by decide) (by decide) (by decide) (by decide)
    have hj' : (mapW ++ tM cs os)[j]? = some 32 := hj
    refine ⟨?_, _, rfl⟩
    rcases Nat.lt_or_ge j 4 with hlt | hge
    · rw [List.getElem?_append_left (by exact hlt)] at hj'
      match j, hlt with
      | 0, _ => simp [mapW] at hj'
      | 1, _ => simp [mapW] at hj'
      | 2, _ => simp [mapW] at hj'
      | 3, _ => rfl
    · rw [List.getElem?_append_right (by exact hge)] at hj'
      exact absurd (List.mem_of_getElem? hj') h1
theorem prL_of {b r : List UInt8} (h : (32 : UInt8) ∉ r) : prL (b ++ 32 :: r) = match rdN r with
    | none => (9, ent0)
    | some n => if n ≠ (sm b : Int) then (8, ent0) else rdB b := by
  have e1 : (b ++ 32 :: r).drop (b.length + 1) = r := by rw [List.drop_append]; simp
  have e2 : (b ++ 32 :: r).take b.length = b := by simp
  have e3 : ((b.length : Int)).toNat = b.length := by omega
  rw [prL, last_hit h, if_neg (by omega), e3, e1, e2]
theorem prL_line {x : Ent} (h : chkE x = 0) : prL (bodyT x ++ 32 :: itoa (sm (bodyT x))) = (0, bareE x) := by
  have h1 := sm_lt (bodyT x)
  rw [prL_of (num_not (by decide) (by decide)), rdN_own (by omega) (by omega)]
  simp only
  rw [if_neg (by simp), rdB_body h]
theorem entT_eq (x : Ent) (more : List UInt8) : entT x ++ more = (bodyT x ++ 32 :: itoa (sm (bodyT x))) ++ 10 :: more := by simp [entT, lnT]
theorem line_not {x : Ent} (h : chkE x = 0) : (10 : UInt8) ∉ bodyT x ++ 32 :: itoa (sm (bodyT x)) := by
  have h1 := body_not h
  have h2 : (10 : UInt8) ∉ itoa (sm (bodyT x)) := num_not (by decide) (by decide)
  simp [h1, h2]
theorem rdE_ent {x : Ent} (h : chkE x = 0) (more : List UInt8) : rdE (entT x ++ more) = (0, bareE x, (entT x).length) := by
  rw [entT_eq, rdE, cut_hit (line_not h)]
  simp only [Bool.true_eq_false, if_false]
  rw [prL_line h]
  simp only [if_true, Prod.mk.injEq, true_and]
  simp [entT, lnT]
  omega
/-- what is read was written -/
theorem ent_rdE {l : List UInt8} {x : Ent} {n : Nat} (h : rdE l = (0, x, n)) : ∃ more, l = entT x ++ more ∧ chkE x = 0 ∧ bareE x = x ∧ n = (entT x).length := by
  unfold rdE at h
  rcases cut_cases 10 l with ⟨_, e⟩ | ⟨line, more, rfl, hn, e⟩
  · rw [e] at h; simp at h
  · rw [e] at h
    simp only [Bool.true_eq_false, if_false] at h
    split at h
    · next hz =>
      injection h with _ h
      injection h with h1 h2
      rcases at_last 32 line with hs | ⟨b, r, rfl, hs⟩
      · rw [prL, last_no hs] at hz; simp at hz
      · rw [prL_of hs] at hz h1
        split at hz
        · simp at hz
        · next m hm =>
          rw [hm] at h1
          simp only at h1
          split at hz
          · simp at hz
          · next he =>
            rw [if_neg he] at h1
            have he' : m = (sm b : Int) := by simpa using he
            subst he'
            obtain ⟨g1, g2, g3⟩ := body_rdB (show rdB b = (0, x) by rw [← h1, ← hz])
            have hline : b ++ 32 :: r = bodyT x ++ 32 :: itoa (sm (bodyT x)) := by rw [g1, (rdN_some hm).1]
            refine ⟨more, ?_, g2, g3, ?_⟩
            · rw [entT_eq, ← hline]
            · rw [← h2, hline]; simp [entT, lnT]; omega
    · next hz => injection h with h _; exact absurd h hz
theorem map_no {x : Ent} (h : chkE x = 0) (e : bodyT x = [109, 97, 112]) : False := by
  have h1 := rdB_body h
  rw [e] at h1
  have h2 : rdB [109, 97, 112] = (9, ent0) := rfl
  rw [h2] at h1
  injection h1 with h1 _
  exact absurd h1 (by decide)
end Go.Proofs.YtmepmiokpcddbabGreatDoor

set_option linter.unusedVariables false
set_option linter.unusedSimpArgs false
namespace Go.Proofs.YtmepmiokpcddbabGreatDoor
open Go.Lib

theorem join_le {c : UInt8} {k : Nat} : ∀ {xs : List (List UInt8)}, (∀ x ∈ xs, x.length ≤ k) → (join xs [c]).length ≤ xs.length * (k + 1)
  | [], _ => by simp [join_nil]
  | [x], h => by rw [join_one]; have := h x (by simp); simp; omega
  | x :: y :: r, h => by
    rw [join_two]
    have h1 := h x (by simp)
    have h2 := join_le (c := c) (xs := y :: r) (fun z hz => h z (List.mem_cons_of_mem _ hz))
    simp only [List.length_append, List.length_cons, Nat.add_mul] at h2 ⊢
    omega
theorem key_len {s : ByteArray} (h : keyB s = true) : s.data.toList.length ≤ 6 := by
  simp [keyB] at h
  have : s.data.toList.length = s.size := by simp
  omega
theorem val_len {n : Int} (h : valB n = true) : (itoa n).length ≤ 11 := by
  simp [valB] at h
  exact itoa_short (by omega) (by omega)
theorem opT_len {o : Opr} (h : chkO o = 0) : (opT o).length ≤ 25 := by
  obtain ⟨g1, g2, g3, g4, g5, g6⟩ := chkO_zero.1 h
  have k1 := key_len g3
  unfold opT
  split
  · next e => have := val_len (g5 (by omega)); simp only [List.length_append, List.length_cons]; omega
  · split
    · next e => have := val_len (g5 (by omega)); simp only [List.length_append, List.length_cons]; omega
    · split
      · next e => have := key_len (g4 (.inl e)).1; simp only [List.length_append, List.length_cons]; omega
      · split
        · next e => have := val_len (g5 (by omega)); simp only [List.length_append, List.length_cons]; omega
        · next e1 e2 e3 e4 =>
          have h1 := val_len (g5 (by omega))
          have h2 := key_len (g4 (.inr (by omega))).1
          simp only [List.length_append, List.length_cons]; omega
theorem own_len {n : Int} (h0 : 0 ≤ n) (h1 : n ≤ 3) : (itoa n).length = 1 := by
  obtain rfl | rfl | rfl | rfl : n = 0 ∨ n = 1 ∨ n = 2 ∨ n = 3 := by omega
  all_goals
    unfold itoa
    rw [if_neg (by decide), decDigits_length, nDigits_small (by decide)]
theorem wdT_len : ∀ (cs : List ByteArray) (os : List Int), (∀ k ∈ cs, keyB k = true) → (∀ n ∈ os, 0 ≤ n ∧ n ≤ 3) → (wdT cs os).length ≤ 2 * cs.length ∧ ∀ x ∈ wdT cs os, x.length ≤ 6
  | [], os, _, _ => by simp [wdT]
  | _ :: _, [], _, _ => by simp [wdT]
  | k :: cs, o :: os, hk, ho => by
    obtain ⟨h1, h2⟩ := wdT_len cs os (fun j hj => hk j (List.mem_cons_of_mem _ hj)) (fun n hn => ho n (List.mem_cons_of_mem _ hn))
    rw [wdT]
    refine ⟨by simp only [List.length_cons]; omega, ?_⟩
    intro x hx
    rcases List.mem_cons.1 hx with rfl | hx
    · exact key_len (hk k (by simp))
    rcases List.mem_cons.1 hx with rfl | hx
    · have := ho o (by simp); rw [own_len this.1 this.2]; omega
    · exact h2 x hx
theorem body_len {x : Ent} (h : chkE x = 0) : (bodyT x).length ≤ 256 := by
  obtain ⟨m, d, cs, os⟩ := x
  cases m
  · have h' := chkD_zero.1 (show chkD d = 0 from h)
    show (tD d).length ≤ 256
    have h1 : (tD d).length ≤ (d.map opT).length * 26 := join_le fun x hx => by
      obtain ⟨o, ho, rfl⟩ := List.mem_map.1 hx
      exact opT_len (h'.2.2 o ho)
    rw [List.length_map] at h1
    have := h'.2.1
    omega
  · have h' := chkM_ok.1 (show chkM cs os = 0 from h)
    show (mapW ++ tM cs os).length ≤ 256
    obtain ⟨o, r, rfl, hl⟩ := okM_one h'
    obtain ⟨h1, h2⟩ := wdT_len cs r (okM_keys h') (fun n hn => h'.own n (List.mem_cons_of_mem _ hn))
    have h3 : (tM cs (o :: r)).length ≤ (wdM cs (o :: r)).length * 7 := join_le fun x hx => by
      rw [wdM] at hx
      rcases List.mem_cons.1 hx with rfl | hx
      · have := h'.own o (by simp); rw [own_len this.1 this.2]; omega
      · exact h2 x hx
    rw [wdM, List.length_cons] at h3
    have := h'.few
    simp only [List.length_append, mapW, List.length_cons, List.length_nil]
    omega
/-- a line without its newline -/
def lineT (x : Ent) : List UInt8 := bodyT x ++ 32 :: itoa (sm (bodyT x))
theorem entT_line (x : Ent) : entT x = lineT x ++ [10] := by simp [entT, lnT, lineT]
theorem line_at (x : Ent) : (lineT x)[(bodyT x).length]? = some 32 := by simp [lineT]
theorem line_lt (x : Ent) : (bodyT x).length < (lineT x).length := by simp [lineT]
theorem line_take (x : Ent) : (lineT x).take (bodyT x).length = bodyT x := by simp [lineT]
theorem line_drop (x : Ent) : (lineT x).drop ((bodyT x).length + 1) = itoa (sm (bodyT x)) := by simp [lineT, List.drop_append]
theorem sp_of {x : Ent} (h : chkE x = 0) {j : Nat} (hj : (lineT x)[j]? = some 32) : j = (bodyT x).length ∨ j = 3 ∧ 3 < (bodyT x).length ∧ (bodyT x).take 3 = [109, 97, 112] := by
  rcases Nat.lt_trichotomy j (bodyT x).length with hlt | heq | hgt
  · rw [lineT, List.getElem?_append_left hlt] at hj
    obtain ⟨rfl, r, hr⟩ := body_sp h hj
    exact .inr ⟨rfl, hlt, by rw [hr]; rfl⟩
  · exact .inl heq
  · rw [lineT, List.getElem?_append_right (by omega)] at hj
    obtain ⟨m, hm⟩ : ∃ m, j - (bodyT x).length = m + 1 := ⟨j - (bodyT x).length - 1, by omega⟩
    rw [hm, List.getElem?_cons_succ] at hj
    exact absurd (List.mem_of_getElem? hj) (num_not (by decide) (by decide))
theorem line_eq {x y : Ent} (h : bodyT x = bodyT y) : lineT x = lineT y := by unfold lineT; rw [h]
theorem changed {x : Ent} (h : chkE x = 0) {i : Nat} {v : UInt8} (hi : i < (entT x).length) (hv : (entT x)[i]? ≠ some v) : (rdE ((entT x).set i v)).1 ≠ 0 := by
  intro hz
  obtain ⟨y, n, hr⟩ : ∃ y n, rdE ((entT x).set i v) = (0, y, n) := ⟨_, _, by rw [← hz]⟩
  obtain ⟨more, hX, hy, _, _⟩ := ent_rdE hr
  clear hr hz
  have lx := line_not h
  have ly := line_not hy
  change (10 : UInt8) ∉ lineT x at lx
  change (10 : UInt8) ∉ lineT y at ly
  rw [entT_line, entT_line] at hX
  rw [entT_line] at hv hi
  have hlen : (lineT x).length + 1 = (lineT y).length + 1 + more.length := by
    have := congrArg List.length hX
    simp at this
    omega
  simp only [List.length_append, List.length_cons, List.length_nil] at hi
  -- the place of Y's newline
  have y10 : (lineT y ++ [10] ++ more)[(lineT y).length]? = some 10 := by simp
  rw [← hX] at y10
  by_cases hiY : i = (lineT y).length
  · subst hiY
    have hlt : (lineT y).length < (lineT x).length := by
      rcases Nat.lt_or_ge (lineT y).length (lineT x).length with hlt | hge
      · exact hlt
      · have e : (lineT y).length = (lineT x).length := by omega
        rw [e] at y10 hv
        rw [List.getElem?_set_self (by simp)] at y10
        injection y10 with y10
        subst y10
        exact absurd (by simp) hv
    have hpre : lineT y = (lineT x).take (lineT y).length := by
      have h1 := congrArg (List.take (lineT y).length) hX
      rw [List.take_set_of_le (Nat.le_refl _), List.take_append_of_le_length (by omega)] at h1
      rw [h1]; simp
    have hq := line_at y
    have hql := line_lt y
    rw [hpre, List.getElem?_take_of_lt hql] at hq
    rcases sp_of h hq with e | ⟨e, e1, e2⟩
    · have hb : bodyT y = bodyT x := by
        rw [← line_take y, hpre, List.take_take, Nat.min_eq_left (by omega), e, line_take]
      have := congrArg List.length (line_eq hb)
      omega
    · refine map_no hy ?_
      rw [← line_take y, hpre, List.take_take, Nat.min_eq_left (by omega), e, ← e2, ← line_take x, List.take_take, Nat.min_eq_left (by omega)]
  · rw [List.getElem?_set_ne hiY] at y10
    have hLe : (lineT y).length = (lineT x).length := by
      rcases Nat.lt_or_ge (lineT y).length (lineT x).length with hlt | hge
      · rw [List.getElem?_append_left hlt] at y10
        exact absurd (List.mem_of_getElem? y10) lx
      · omega
    have hm : more = [] := List.length_eq_zero_iff.1 (by omega)
    subst hm
    rw [List.append_nil] at hX
    have hil : i < (lineT x).length := by
      rcases Nat.lt_or_ge i (lineT x).length with hlt | hge
      · exact hlt
      · exact absurd (show i = (lineT y).length by omega) hiY
    rw [List.set_append_left _ _ hil] at hX
    have hL : (lineT x).set i v = lineT y := List.append_cancel_right hX
    rw [List.getElem?_append_left hil] at hv
    clear hX y10 hiY hlen hi
    have hp := line_at x
    have hpl := line_lt x
    have hq := line_at y
    have hql := line_lt y
    have hiv : (lineT y)[i]? = some v := by rw [← hL, List.getElem?_set_self hil]
    have hne : ∀ j, j ≠ i → (lineT y)[j]? = (lineT x)[j]? := fun j hj => by rw [← hL, List.getElem?_set_ne (fun e => hj e.symm)]
    by_cases hpq : (bodyT y).length = (bodyT x).length
    · rcases Nat.lt_trichotomy i (bodyT x).length with hlt | heq | hgt
      · have hb : bodyT y = (bodyT x).set i v := by
          rw [← line_take y, hpq, ← hL, List.take_set, line_take]
        have hN : itoa (sm (bodyT y)) = itoa (sm (bodyT x)) := by
          rw [← line_drop y, hpq, ← hL, List.drop_set_of_lt (by omega), line_drop]
        have b1 := sm_lt (bodyT x)
        have b2 := sm_lt (bodyT y)
        have e := itoa_inj (by omega) (by omega) (by omega) (by omega) hN
        have e' : sm (bodyT y) = sm (bodyT x) := by omega
        rw [hb] at e'
        refine sm_set hlt (body_len h) ?_ e'
        intro e3
        apply hv
        rw [lineT, List.getElem?_append_left hlt, List.getElem?_eq_getElem hlt, e3]
      · subst heq
        rw [hpq] at hq
        rw [hq] at hiv
        injection hiv with hiv
        subst hiv
        exact hv hp
      · have hb : bodyT y = bodyT x := by
          rw [← line_take y, hpq, ← hL, List.take_set_of_le (by omega), line_take]
        rw [line_eq hb] at hiv
        exact hv hiv
    · by_cases hiq : i = (bodyT y).length
      · have hip : (bodyT x).length ≠ i := fun e => hpq (by omega)
        rw [← hne _ hip] at hp
        rcases sp_of hy hp with e | ⟨e, e1, e2⟩
        · exact hpq e.symm
        · refine map_no h ?_
          rw [← line_take x, e, ← e2, ← line_take y, ← hL, List.take_take, List.take_set_of_le (by omega), Nat.min_eq_left (by omega)]
      · rw [hne _ (fun e => hiq e.symm)] at hq
        rcases sp_of h hq with e | ⟨e, e1, e2⟩
        · exact hpq e
        · have hip : i = (bodyT x).length := by
            refine Classical.byContradiction fun hip => ?_
            rw [← hne _ (fun e => hip e.symm)] at hp
            rcases sp_of hy hp with e3 | ⟨e3, e4, _⟩
            · exact hpq e3.symm
            · omega
          refine map_no hy ?_
          rw [← line_take y, e, ← hL, List.take_set_of_le (by omega), ← e2, ← line_take x, List.take_take, Nat.min_eq_left (by omega)]
end Go.Proofs.YtmepmiokpcddbabGreatDoor

set_option linter.unusedVariables false
set_option linter.unusedSimpArgs false
namespace Go.Proofs.YtmepmiokpcddbabGreatDoor
open Go.RowKit
open Go.Lib hiding intOf

theorem wdT_snoc : ∀ (cs : List ByteArray) (os : List Int) (c : ByteArray) (o : Int), cs.length = os.length → wdT (cs ++ [c]) (os ++ [o]) = wdT cs os ++ [c.data.toList, itoa o]
  | [], [], c, o, _ => rfl
  | [], _ :: _, _, _, h => by simp at h
  | _ :: _, [], _, _, h => by simp at h
  | d :: cs, p :: os, c, o, h => by
    show d.data.toList :: itoa p :: wdT (cs ++ [c]) (os ++ [o]) = _
    rw [wdT_snoc cs os c o (by simpa using h)]; rfl
/-- the words so far -/
def wsB (cs : List ByteArray) (os : List Int) (k : Nat) : List ByteArray := (wdM (cs.take k) (os.take (k + 1))).map bs
theorem wsB_step {cs : List ByteArray} {os : List Int} {k : Nat} (h : os.length = cs.length + 1) (hk : k < cs.length) (hk2 : k + 1 < os.length) : wsB cs os (k + 1) = wsB cs os k ++ [cs[k], bs (itoa os[k + 1])] := by
  unfold wsB
  cases os with
  | nil => simp at h
  | cons o r =>
    have hl : cs.length = r.length := by simp at h; omega
    rw [List.take_succ_cons, List.take_succ_cons, wdM, wdM, List.take_succ_eq_append_getElem hk, List.take_succ_eq_append_getElem (show k < r.length by omega), wdT_snoc _ _ _ _ (by simp; omega)]
    simp [bs_of, bs_data]
theorem wsB_zero {cs : List ByteArray} {os : List Int} (h : 0 < os.length) : wsB cs os 0 = [bs (itoa os[0])] := by
  cases os with
  | nil => simp at h
  | cons o r => rfl
theorem wsB_end {cs : List ByteArray} {os : List Int} (h : os.length = cs.length + 1) : (wsB cs os cs.length).map (·.data.toList) = wdM cs os := by
  unfold wsB
  rw [List.take_of_length_le (Nat.le_refl _), List.take_of_length_le (by omega), List.map_map]
  exact List.map_id' _
theorem wsB_len {cs : List ByteArray} {os : List Int} {k : Nat} (h : os.length = cs.length + 1) (hk : k ≤ cs.length) : (wsB cs os k).length = 2 * k + 1 := by
  induction k with
  | zero => rw [wsB_zero (by omega)]; rfl
  | succ k ih => rw [wsB_step h (by omega) (by omega), List.length_append, ih (by omega)]; simp; omega
theorem OR.of_box1 {w : World} {g B : Nat} {t : TypeId} {cs : Array Value} (h : Box w g t cs) (hB : B ≤ g) (hl : cs.size ≤ maxLen) : OR w B t (some ⟨g, 0, none⟩) cs.size cs.toList := by
  unfold OR
  rw [Array.length_toList]
  exact ⟨by simp, .inr ⟨g, cs.size, cs, rfl, hB, h, Nat.le_refl _, hl, by simp, by rw [Nat.mul_one]; exact List.take_of_length_le (by simp)⟩⟩
/-- what Map answers -/
def mpA (cs : List ByteArray) (os : List Int) : ByteArray := if chkM cs os = 0 then bs (tM cs os) else ByteArray.empty
/-- while the words are gathered -/
def MtI (w2 : World) (cs : List ByteArray) (os : List Int) (s i : Value) (wr : World) : Prop :=
  ∃ (k : Nat) (A : Option Addr) (c : Nat), k ≤ cs.length ∧ i = .int .i64 k ∧ s = .slice A (wsB cs os k).length c ∧ OR wr w2.heap.size 9 A c ((wsB cs os k).map Value.string) ∧ Below w2.heap.size w2 wr
set_option maxHeartbeats 2000000 in
set_option maxRecDepth 100000 in
theorem mapT_any (m : Mp) (w : World) (hm : MS w m) (hg : Gl w) :
    Calls Tryz.prog 7 #[.agg #[.slice m.A m.cs.length m.ca, .slice m.O m.os.length m.co]] w fun e w' => e = .returned (.tuple #[.string (mpA m.cs m.os), .int .i64 (chkM m.cs m.os)]) ∧ Below w.heap.size w w' := by
  have b0 := (Below.refl w.heap.size w).alloc (Nat.le_refl _) (.cells #[.slice m.A m.cs.length m.ca, .slice m.O m.os.length m.co] 28)
  have x0 := Box.new w 28 #[.slice m.A m.cs.length m.ca, .slice m.O m.os.length m.co]
  have hm1 := hm.below b0
  have hg1 := hg.below b0
  have ho := hm.lo
  have hmo := hm.mo
  unfold maxLen at hmo
  have HQ := hideP (shcheck_any m (w.alloc (.cells #[.slice m.A m.cs.length m.ca, .slice m.O m.os.length m.co] 28)) hm1 (by omega))
  obtain ⟨A, ca, cs, O, co, os⟩ := m
  simp only at hm1 b0 x0 HQ ⊢
  have c0 := x0.cell 0 (v := .slice A cs.length ca) rfl
  have c1 := x0.cell 1 (v := .slice O os.length co) rfl
  go_enter Tryz.func7, Tryz.ntmps7
  go_wp2_with fail
  refine HQ.out.mono ?_
  clear HQ hm hg
  generalize w.alloc (.cells #[.slice A cs.length ca, .slice O os.length co] 28) = w1 at b0 x0 hm1 hg1 c0 c1 ⊢
  rintro e w2 ⟨rfl, hb2⟩
  have b2 := b0.trans (hb2.mono b0.size)
  by_cases hc : chkM cs os = 0
  · have HV := hideP (show mpA cs os = bs (tM cs os) by unfold mpA; rw [if_pos hc])
    have HO := hideP (chkM_ok.1 hc)
    rw [hc]
    have HC := hideP hc
    clear hc
    have x2 := x0.below hb2
    have hm2 := hm1.below hb2
    have hg2 := hg1.below hb2
    have d0 := x2.cell 0 (v := .slice A cs.length ca) rfl
    have d1 := x2.cell 1 (v := .slice O os.length co) rfl
    have hlen := HO.out.len
    have hfew := HO.out.few
    have hown := HO.out.own
    obtain ⟨b, o, e, hbl, q0⟩ := hm2.own 0 (os[0]'(by omega)) (show os[0]? = _ from List.getElem?_eq_getElem (by omega))
    simp only at e
    subst e
    have hz := hown os[0] (List.getElem_mem _)
    have HW0 := hideP (wsB_zero (cs := cs) (show 0 < os.length by omega))
    generalize os[0] = z at q0 hz HW0
    have g0 : (0 : Int) < (os.length : Int) := by omega
    rw [Nat.add_zero] at q0
    clear b0 x0 hm1 hg1 c0 c1 hb2
    have HI := hideP (itoa_any z (by omega) (by omega) w2 hg2)
    go_wp2_with fail
    refine HI.out.mono ?_
    rintro e w3 ⟨rfl, hb3⟩
    have b3 := b2.trans (hb3.mono b2.size)
    have x3 := x2.below hb3
    have hm3 := hm2.below hb3
    have hg3 := hg2.below hb3
    have e0 := x3.cell 0 (v := .slice (A) cs.length ca) rfl
    have hlt3 := x3.lt
    have al := (Below.refl w3.heap.size w3).alloc (Nat.le_refl _) (.cells #[.string (bs (itoa z))] 9)
    have xs := Box.new w3 9 #[.string (bs (itoa z))]
    have HI0 := hideP (show MtI w3 cs os (.slice (some ⟨w3.heap.size, 0, none⟩) 1 1) (.int .i64 0) (w3.alloc (.cells #[.string (bs (itoa z))] 9)) from
      ⟨0, some ⟨w3.heap.size, 0, none⟩, 1, Nat.zero_le _, rfl, by rw [HW0.out]; rfl, by rw [HW0.out]; exact OR.of_box1 xs (Nat.le_refl _) (by simp [maxLen]), al⟩)
    clear d0 d1 hm2 hg2 x2 q0 HI xs hbl
    generalize bs (itoa z) = tz at HI0 al ⊢
    have e1 := (al.cell (p := ⟨w.heap.size, 0, none⟩) hlt3).trans e0
    go_wp2_with fail
    generalize w3.alloc (.cells #[.string tz] 9) = w4 at HI0 al e1 ⊢
    generalize hgg : w.heap.size = gx at hlt3 x3 e1 e0 ⊢
    have HB3 := hideP b3
    have HGG := hideP hgg
    clear b2 b3 hgg e0 hb3
    go_loopw [5, 22] (MtI w3 cs os) (fun _ i _ => cs.length - (intOf i).toNat)
    case atStart => exact HI0.out
    case round =>
      obtain ⟨k, P, cp, hk, rfl, rfl, hor, hb⟩ := hrel
      by_cases hkl : k < cs.length
      · have g1 : (k : Int) < (cs.length : Int) := by omega
        have g2 : (0 : Int) ≤ (k : Int) := by omega
        have g3 : (0 : Int) ≤ (k : Int) + 1 := by omega
        have g4 : (k : Int) + 1 < (os.length : Int) := by omega
        have pk : IntKind.i64.wrap ((k : Int) + 1) = (k : Int) + 1 := by simp only [IntKind.wrap_i64]; omega
        obtain ⟨b1, o1, ea, hbl1, q1⟩ := (hm3.below hb).cuts k (.string cs[k]) (by simp [hkl])
        obtain ⟨b2, o2, eo, hbl2, q2⟩ := (hm3.below hb).own (k + 1) (os[k + 1]'(by omega)) (show os[k + 1]? = _ from List.getElem?_eq_getElem (by omega))
        simp only at ea eo
        subst ea
        injection eo with eo
        injection eo with eb eo _
        subst eb
        subst eo
        have hz2 := hown os[k + 1] (List.getElem_mem _)
        have hst := wsB_step hlen hkl (show k + 1 < os.length by omega)
        have hwl := wsB_len hlen hk
        generalize cs[k] = ck at q1 hst
        generalize os[k + 1] = ok at q2 hz2 hst
        have xk := x3.below hb
        have f1 := xk.cell 1 (v := .slice (some ⟨b, o, none⟩) os.length co) rfl
        have HI2 := hideP (itoa_any ok (by omega) (by omega) wr (hg3.below hb))
        have tn : ((k : Int) + 1).toNat = k + 1 := by omega
        have q2' : wr.cell? ⟨b, o + ((k : Int) + 1).toNat, none⟩ = some (.int .i64 ok) := by rw [tn]; exact q2
        have HST := hideP hst
        have HWL := hideP hwl
        clear hst hwl xk
        go_wp2_with fail
        refine HI2.out.mono ?_
        rintro e w5 ⟨rfl, hb5⟩
        have hor5 := hor.below hb5
        have hbw := hb.trans (hb5.mono hb.size)
        obtain ⟨A', c', w6, hrun, hor6, hbl6, _, _⟩ := app_row (P := Tryz.prog) Tryz.underlying25 strInfo rfl w5 w3.heap.size 25 P cp _ hor5 [.string ck, .string (bs (itoa ok))] (by simp [Value.oneCell']) (by rw [List.length_map, HWL.out]; simp only [List.length_cons, List.length_nil]; omega) (by decide) hbw.size
        have hX : (wsB cs os k).map Value.string ++ [.string ck, .string (bs (itoa ok))] = (wsB cs os (k + 1)).map Value.string := by rw [HST.out]; simp
        rw [hX] at hrun hor6
        rw [List.length_map, List.length_map] at hrun
        have hb6 := hbl6 w3.heap.size w3 (Nat.le_refl _) hbw
        have HR := hideP hrun
        clear hrun hbl6 hor5 hor hX hb5 hbw
        generalize bs (itoa ok) = tk at HR ⊢
        go_wp2_with (at_builtin; first | refine Lib.wpList_append_run _ rfl _ _ _ _ rfl _ _ rfl rfl _ _ HR.out ?_)
        go_roundw
        case rel => exact ⟨k + 1, A', c', by omega, by go_num, rfl, hor6, hb6⟩
        case measure => simp [intOf]; omega
      · have hke : k = cs.length := by omega
        subst hke
        have hwl := wsB_len hlen (Nat.le_refl cs.length)
        have hT : (tM cs os).length ≤ 252 := by
          have := body_len (x := ⟨true, [], cs, os⟩) HC.out
          simp only [bodyT, if_true, List.length_append] at this
          have h4 : mapW.length = 4 := rfl
          omega
        have HJ := hideP (join_any P cp (wsB cs os cs.length) ⟨#[58]⟩ wr hor.vs (by omega) (by omega) (by have := hor.caps.1; rwa [List.length_map] at this) (by rw [wsB_end hlen]; show (tM cs os).length ≤ _; omega))
        have HE := hideP (wsB_end hlen)
        clear hwl hT
        go_wp2_with fail
        refine HJ.out.mono ?_
        rintro e w5 ⟨rfl, hb5⟩
        rw [HE.out]
        have hb6 := HB3.out.trans ((hb.trans (hb5.mono hb.size)).mono HB3.out.size)
        go_wp2_with fail
        go_ret2
        exact ⟨by rw [HV.out, HC.out]; rfl, hb6⟩
  · have HV := hideP (show mpA cs os = ByteArray.empty by unfold mpA; rw [if_neg hc])
    have d1 : (chkM cs os != 0) = true := by simpa using hc
    clear hc
    generalize hq : chkM cs os = q at d1 ⊢
    have HQ := hideP hq
    clear hq
    go_wp2_with fail
    go_ret2
    exact ⟨by rw [HV.out, HQ.out]; rfl, b2⟩
end Go.Proofs.YtmepmiokpcddbabGreatDoor
