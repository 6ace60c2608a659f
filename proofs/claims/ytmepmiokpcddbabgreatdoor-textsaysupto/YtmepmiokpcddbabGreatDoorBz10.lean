/-
  Log entries as text, plainly (no program in it).
-/
import Derived.Test.YtmepmiokpcddbabGreatDoorBz9
set_option linter.unusedVariables false
set_option linter.unusedSimpArgs false
namespace Go.Proofs.YtmepmiokpcddbabGreatDoor
open Go.Lib

/-- the word map and a space -/
def mapW : List UInt8 := [109, 97, 112, 32]
/-- what stands before the sum -/
def bodyT (x : Ent) : List UInt8 := if x.isM then mapW ++ tM x.cs x.os else tD x.d
/-- a line -/
def lnT (b : List UInt8) : List UInt8 := b ++ 32 :: (itoa (sm b) ++ [10])
def entT (x : Ent) : List UInt8 := lnT (bodyT x)
/-- without what is not so -/
def bareE (x : Ent) : Ent := if x.isM then ⟨true, [], x.cs, x.os⟩ else ⟨false, x.d.map bare, [], []⟩
/-- what stands before the sum, read -/
def rdB (l : List UInt8) : Int × Ent := if mapW.isPrefixOf l then
    (if (rdM (l.drop 4)).1 = 0 then (0, ⟨true, [], (rdM (l.drop 4)).2.1, (rdM (l.drop 4)).2.2⟩) else ((rdM (l.drop 4)).1, ent0))
  else (if (rdD l).1 = 0 then (0, ⟨false, (rdD l).2, [], []⟩) else ((rdD l).1, ent0))
/-- a line without its newline, read -/
def prL (l : List UInt8) : Int × Ent := if lastIndex l [32] < 0 then (9, ent0) else
  match rdN (l.drop ((lastIndex l [32]).toNat + 1)) with
  | none => (9, ent0)
  | some n => if n ≠ (sm (l.take (lastIndex l [32]).toNat) : Int) then (8, ent0) else rdB (l.take (lastIndex l [32]).toNat)
/-- the first line, read: the error, the entry, the length -/
def rdE (l : List UInt8) : Int × Ent × Nat := if (cut l [10]).2.2 = false then (7, ent0, 0) else
  if (prL (cut l [10]).1).1 = 0 then (0, (prL (cut l [10]).1).2, (cut l [10]).1.length + 1) else ((prL (cut l [10]).1).1, ent0, 0)
theorem mapW_pre (l : List UInt8) : mapW.isPrefixOf (mapW ++ l) = true := by simp
theorem pre_map {l : List UInt8} (h : mapW.isPrefixOf l = true) : l = mapW ++ l.drop 4 := by
  obtain ⟨r, rfl⟩ := List.isPrefixOf_iff_prefix.1 h
  rfl
theorem tD_not {d : List Opr} {c : UInt8} (h : chkD d = 0) (h1 : c.toNat < 97) (h2 : c.toNat ≠ 45) (h3 : c.toNat < 48 ∨ 57 < c.toNat) (h4 : signs.contains c = false) (h5 : c ≠ 42) (h6 : c ≠ 59) : c ∉ tD d := by
  refine join_has h6 fun x hx => ?_
  obtain ⟨o, ho, rfl⟩ := List.mem_map.1 hx
  exact opT_not ((chkD_zero.1 h).2.2 o ho) h1 h2 h3 h4 h5
theorem tM_not {cs : List ByteArray} {os : List Int} {c : UInt8} (h : OkM cs os) (h1 : c.toNat < 97) (h2 : c.toNat ≠ 45) (h3 : c.toNat < 48 ∨ 57 < c.toNat) (h4 : c ≠ 58) : c ∉ tM cs os := join_has h4 (wdM_not h1 h2 h3 h)
theorem not_map {d : List Opr} (h : chkD d = 0) : mapW.isPrefixOf (tD d) = false := by
  cases e : mapW.isPrefixOf (tD d)
  · rfl
  · have h1 := pre_map e
    have h2 : (32 : UInt8) ∈ tD d := by rw [h1]; simp [mapW]
    exact absurd h2 (tD_not h (by decide) (by decide) (by decide) (by decide) (by decide) (by decide))
theorem rdB_body {x : Ent} (h : chkE x = 0) : rdB (bodyT x) = (0, bareE x) := by
  obtain ⟨m, d, cs, os⟩ := x
  cases m
  · have h' : chkD d = 0 := h
    show rdB (tD d) = _
    rw [rdB, not_map h', rdD_tD h']; rfl
  · have h' : OkM cs os := chkM_ok.1 h
    show rdB (mapW ++ tM cs os) = _
    have e : (mapW ++ tM cs os).drop 4 = tM cs os := rfl
    rw [rdB, mapW_pre, e, rdM_tM h']; rfl
theorem body_rdB {l : List UInt8} {x : Ent} (h : rdB l = (0, x)) : bodyT x = l ∧ chkE x = 0 ∧ bareE x = x := by
  unfold rdB at h
  split at h
  · next hp =>
    split at h
    · next hz =>
      injection h with _ h
      subst h
      obtain ⟨h1, h2⟩ := tM_rdM (show rdM (l.drop 4) = (0, (rdM (l.drop 4)).2.1, (rdM (l.drop 4)).2.2) by rw [← hz])
      refine ⟨?_, chkM_ok.2 h2, rfl⟩
      show mapW ++ tM _ _ = l
      rw [h1]; exact (pre_map hp).symm
    · next hz => injection h with h _; exact absurd h hz
  · next hp =>
    split at h
    · next hz =>
      injection h with _ h
      subst h
      obtain ⟨h1, h2, h3⟩ := tD_rdD (show rdD l = (0, (rdD l).2) by rw [← hz])
      exact ⟨h1, h2, by show Ent.mk false ((rdD l).2.map bare) [] [] = _; rw [h3]⟩
    · next hz => injection h with h _; exact absurd h hz
theorem body_not {x : Ent} (h : chkE x = 0) : (10 : UInt8) ∉ bodyT x := by
  obtain ⟨m, d, cs, os⟩ := x
  cases m
  · exact tD_not (show chkD d = 0 from h) (by decide) (by decide) (by decide) (by decide) (by decide) (by decide)
  · show (10 : UInt8) ∉ mapW ++ tM cs os
    have := tM_not (c := 10) (chkM_ok.1 (show chkM cs os = 0 from h)) (by decide) (by decide) (by decide) (by decide)
    simp [mapW, this]
theorem body_sp {x : Ent} (h : chkE x = 0) {j : Nat} (hj : (bodyT x)[j]? = some 32) : j = 3 ∧ ∃ r, bodyT x = mapW ++ r := by
  obtain ⟨m, d, cs, os⟩ := x
  cases m
  · exact absurd (List.mem_of_getElem? hj) (tD_not (show chkD d = 0 from h) (by decide) (by decide) (by decide) (by decide) (by decide) (by decide))
  · have h1 := tM_not (c := 32) (chkM_ok.1 (show chkM cs os = 0 from h)) (by decide) (by decide) (by decide) (by decide)
    have hj' : (mapW ++ tM cs os)[j]? = some 32 := hj
    refine ⟨?_, _, rfl⟩
    rcases Nat.lt_or_ge j 4 with hlt | hge
    · rw [List.getElem?_append_left (by exact hlt)] at hj'
      match j, hlt with
      | 0, _ => simp [mapW] at hj'
      | 1, _ => simp [mapW] at hj'
      | 2, _ => simp [mapW] at hj'
      | 3, _ => rfl
    · rw [List.getElem?_append_right (by exact hge)] at hj'
      exact absurd (List.mem_of_getElem? hj') h1
theorem prL_of {b r : List UInt8} (h : (32 : UInt8) ∉ r) : prL (b ++ 32 :: r) = match rdN r with
    | none => (9, ent0)
    | some n => if n ≠ (sm b : Int) then (8, ent0) else rdB b := by
  have e1 : (b ++ 32 :: r).drop (b.length + 1) = r := by rw [List.drop_append]; simp
  have e2 : (b ++ 32 :: r).take b.length = b := by simp
  have e3 : ((b.length : Int)).toNat = b.length := by omega
  rw [prL, last_hit h, if_neg (by omega), e3, e1, e2]
theorem prL_line {x : Ent} (h : chkE x = 0) : prL (bodyT x ++ 32 :: itoa (sm (bodyT x))) = (0, bareE x) := by
  have h1 := sm_lt (bodyT x)
  rw [prL_of (num_not (by decide) (by decide)), rdN_own (by omega) (by omega)]
  simp only
  rw [if_neg (by simp), rdB_body h]
theorem entT_eq (x : Ent) (more : List UInt8) : entT x ++ more = (bodyT x ++ 32 :: itoa (sm (bodyT x))) ++ 10 :: more := by simp [entT, lnT]
theorem line_not {x : Ent} (h : chkE x = 0) : (10 : UInt8) ∉ bodyT x ++ 32 :: itoa (sm (bodyT x)) := by
  have h1 := body_not h
  have h2 : (10 : UInt8) ∉ itoa (sm (bodyT x)) := num_not (by decide) (by decide)
  simp [h1, h2]
theorem rdE_ent {x : Ent} (h : chkE x = 0) (more : List UInt8) : rdE (entT x ++ more) = (0, bareE x, (entT x).length) := by
  rw [entT_eq, rdE, cut_hit (line_not h)]
  simp only [Bool.true_eq_false, if_false]
  rw [prL_line h]
  simp only [if_true, Prod.mk.injEq, true_and]
  simp [entT, lnT]
  omega
/-- what is read was written -/
theorem ent_rdE {l : List UInt8} {x : Ent} {n : Nat} (h : rdE l = (0, x, n)) : ∃ more, l = entT x ++ more ∧ chkE x = 0 ∧ bareE x = x ∧ n = (entT x).length := by
  unfold rdE at h
  rcases cut_cases 10 l with ⟨_, e⟩ | ⟨line, more, rfl, hn, e⟩
  · rw [e] at h; simp at h
  · rw [e] at h
    simp only [Bool.true_eq_false, if_false] at h
    split at h
    · next hz =>
      injection h with _ h
      injection h with h1 h2
      rcases at_last 32 line with hs | ⟨b, r, rfl, hs⟩
      · rw [prL, last_no hs] at hz; simp at hz
      · rw [prL_of hs] at hz h1
        split at hz
        · simp at hz
        · next m hm =>
          rw [hm] at h1
          simp only at h1
          split at hz
          · simp at hz
          · next he =>
            rw [if_neg he] at h1
            have he' : m = (sm b : Int) := by simpa using he
            subst he'
            obtain ⟨g1, g2, g3⟩ := body_rdB (show rdB b = (0, x) by rw [← h1, ← hz])
            have hline : b ++ 32 :: r = bodyT x ++ 32 :: itoa (sm (bodyT x)) := by rw [g1, (rdN_some hm).1]
            refine ⟨more, ?_, g2, g3, ?_⟩
            · rw [entT_eq, ← hline]
            · rw [← h2, hline]; simp [entT, lnT]; omega
    · next hz => injection h with h _; exact absurd h hz
theorem map_no {x : Ent} (h : chkE x = 0) (e : bodyT x = [109, 97, 112]) : False := by
  have h1 := rdB_body h
  rw [e] at h1
  have h2 : rdB [109, 97, 112] = (9, ent0) := rfl
  rw [h2] at h1
  injection h1 with h1 _
  exact absurd h1 (by decide)
end Go.Proofs.YtmepmiokpcddbabGreatDoor
