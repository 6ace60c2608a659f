/-
  Partition maps as text, plainly (no program in it).
  The sum of a text, the last space of a line, plainly (no program in it).
  Log entries, plainly (no program in it).
  Log entries as text, plainly (no program in it).
-/
import Derived.Test.YtmepmiokpcddbabGreatDoorCa2
import Derived.Test.YtmepmiokpcddbabGreatDoorCa1
set_option linter.unusedVariables false
set_option linter.unusedSimpArgs false
namespace Go.Proofs.YtmepmiokpcddbabGreatDoor
open Go.Lib

/-- the words of the cuts and the owners behind them -/
def wdT : List ByteArray → List Int → List (List UInt8)
  | c :: cs, o :: os => c.data.toList :: itoa o :: wdT cs os
  | _, _ => []
/-- the words of a map -/
def wdM (cs : List ByteArray) : List Int → List (List UInt8)
  | o :: os => itoa o :: wdT cs os
  | [] => []
/-- a map that is written -/
def tM (cs : List ByteArray) (os : List Int) : List UInt8 := join (wdM cs os) [58]
/-- words that are read: first an owner, then a cut, and so on -/
def rdW : Bool → List ByteArray → List Int → List (List UInt8) → Option (List ByteArray × List Int)
  | _, cs, os, [] => some (cs, os)
  | true, cs, os, w :: r => match rdN w with
    | none => none
    | some n => rdW false cs (os ++ [n]) r
  | false, cs, os, w :: r => rdW true (cs ++ [bs w]) os r
/-- a map that is read: the error, the cuts and the owners -/
def rdM (l : List UInt8) : Int × List ByteArray × List Int := match rdW true [] [] (spl 58 l) with
  | none => (9, [], [])
  | some (cs, os) => if chkM cs os = 0 then (0, cs, os) else (chkM cs os, [], [])
theorem rdW_true_nil (cs : List ByteArray) (os : List Int) : rdW true cs os [] = some (cs, os) := rfl
theorem rdW_false_nil (cs : List ByteArray) (os : List Int) : rdW false cs os [] = some (cs, os) := rfl
theorem rdW_wdT : ∀ (cs : List ByteArray) (os : List Int) (ca : List ByteArray) (oa : List Int), cs.length = os.length → (∀ n ∈ os, 0 ≤ n ∧ n ≤ 3) → rdW false ca oa (wdT cs os) = some (ca ++ cs, oa ++ os)
  | [], [], ca, oa, _, _ => by simp [wdT, rdW]
  | [], _ :: _, _, _, h, _ => by simp at h
  | _ :: _, [], _, _, h, _ => by simp at h
  | c :: cs, o :: os, ca, oa, h, ho => by
    have h1 := ho o (by simp)
    rw [wdT, rdW, rdW, rdN_own h1.1 (by omega)]
    simp only
    rw [rdW_wdT cs os _ _ (by simpa using h) (fun n hn => ho n (List.mem_cons_of_mem _ hn)), bs_of]
    simp
theorem okM_one {cs : List ByteArray} {os : List Int} (h : OkM cs os) : ∃ o r, os = o :: r ∧ cs.length = r.length := by
  cases os with
  | nil => have := h.len; simp at this
  | cons o r => exact ⟨o, r, rfl, by have := h.len; simp at this; omega⟩
theorem wdM_read {cs : List ByteArray} {os : List Int} (h : OkM cs os) : rdW true [] [] (wdM cs os) = some (cs, os) := by
  obtain ⟨o, r, rfl, hl⟩ := okM_one h
  have h1 := h.own o (by simp)
  rw [wdM, rdW, rdN_own h1.1 (by omega)]
  simp only
  rw [rdW_wdT cs r _ _ hl (fun n hn => h.own n (List.mem_cons_of_mem _ hn))]
  simp
theorem wdT_not {c : UInt8} (h1 : c.toNat < 97) (h2 : c.toNat ≠ 45) (h3 : c.toNat < 48 ∨ 57 < c.toNat) : ∀ (cs : List ByteArray) (os : List Int), (∀ k ∈ cs, keyB k = true) → ∀ x ∈ wdT cs os, c ∉ x
  | [], _, _, x, hx => by simp [wdT] at hx
  | _ :: _, [], _, x, hx => by simp [wdT] at hx
  | k :: cs, o :: os, hk, x, hx => by
    rw [wdT] at hx
    rcases List.mem_cons.1 hx with rfl | hx
    · exact key_not (hk k (by simp)) h1
    rcases List.mem_cons.1 hx with rfl | hx
    · exact num_not h2 h3
    · exact wdT_not h1 h2 h3 cs os (fun j hj => hk j (List.mem_cons_of_mem _ hj)) x hx
theorem okM_keys {cs : List ByteArray} {os : List Int} (h : OkM cs os) : ∀ k ∈ cs, keyB k = true := fun k hk => ((cutsB_iff.1 h.cuts).1 k hk).1
theorem wdM_not {c : UInt8} (h1 : c.toNat < 97) (h2 : c.toNat ≠ 45) (h3 : c.toNat < 48 ∨ 57 < c.toNat) {cs : List ByteArray} {os : List Int} (h : OkM cs os) : ∀ x ∈ wdM cs os, c ∉ x := by
  obtain ⟨o, r, rfl, hl⟩ := okM_one h
  intro x hx
  rw [wdM] at hx
  rcases List.mem_cons.1 hx with rfl | hx
  · exact num_not h2 h3
  · exact wdT_not h1 h2 h3 cs r (okM_keys h) x hx
theorem wdM_ne {cs : List ByteArray} {os : List Int} (h : OkM cs os) : wdM cs os ≠ [] := by
  obtain ⟨o, r, rfl, hl⟩ := okM_one h
  simp [wdM]
theorem spl_tM {cs : List ByteArray} {os : List Int} (h : OkM cs os) : spl 58 (tM cs os) = wdM cs os := spl_join (wdM_ne h) (wdM_not (by decide) (by decide) (by decide) h)
theorem rdM_tM {cs : List ByteArray} {os : List Int} (h : OkM cs os) : rdM (tM cs os) = (0, cs, os) := by
  rw [rdM, spl_tM h, wdM_read h]
  simp only
  rw [if_pos (chkM_ok.2 h)]
/-- what is read, by how the words alternate -/
theorem rdW_inv : ∀ (ws : List (List UInt8)) (ca : List ByteArray) (oa : List Int) (cs : List ByteArray) (os : List Int), rdW false ca oa ws = some (cs, os) →
    ∃ c' o', cs = ca ++ c' ∧ os = oa ++ o' ∧ (c'.length = o'.length ∧ ws = wdT c' o' ∨ c'.length = o'.length + 1)
  | [], ca, oa, cs, os, h => by
    injection h with h
    injection h with h1 h2
    exact ⟨[], [], by simp [h1], by simp [h2], .inl ⟨rfl, rfl⟩⟩
  | [w], ca, oa, cs, os, h => by
    rw [rdW, rdW_true_nil] at h
    injection h with h
    injection h with h1 h2
    exact ⟨[bs w], [], h1.symm, by simp [h2], .inr rfl⟩
  | w :: v :: ws, ca, oa, cs, os, h => by
    rw [rdW, rdW] at h
    split at h
    · cases h
    · next n hn =>
      obtain ⟨c', o', rfl, rfl, hc⟩ := rdW_inv ws _ _ _ _ h
      refine ⟨bs w :: c', n :: o', by simp, by simp, ?_⟩
      rcases hc with ⟨h1, h2⟩ | h1
      · exact .inl ⟨by simp [h1], by rw [wdT, bs_data, (rdN_some hn).1, h2]⟩
      · exact .inr (by simp [h1])
theorem tM_rdM {l : List UInt8} {cs : List ByteArray} {os : List Int} (h : rdM l = (0, cs, os)) : tM cs os = l ∧ OkM cs os := by
  unfold rdM at h
  split at h
  · cases h
  · next cs' os' e =>
    split at h
    · next hc =>
      injection h with _ h
      injection h with h1 h2
      subst h1; subst h2
      have ho := chkM_ok.1 hc
      refine ⟨?_, ho⟩
      cases hs : spl 58 l with
      | nil => exact absurd hs (spl_ne _ _)
      | cons w ws =>
        rw [hs, rdW] at e
        split at e
        · cases e
        · next n hn =>
          obtain ⟨c', o', rfl, rfl, hcc⟩ := rdW_inv ws _ _ _ _ e
          have hl := ho.len
          simp at hl
          rcases hcc with ⟨h1, h2⟩ | h1
          · rw [tM]
            simp only [List.nil_append, List.singleton_append, wdM]
            rw [← h2, (rdN_some hn).1, ← hs, join_spl]
          · omega
    · next hc => injection h with h _; exact absurd h hc
end Go.Proofs.YtmepmiokpcddbabGreatDoor

set_option linter.unusedVariables false
set_option linter.unusedSimpArgs false
namespace Go.Proofs.YtmepmiokpcddbabGreatDoor
open Go.Lib

/-- each byte times its place -/
def wsum (i : Nat) : List UInt8 → Nat
  | [] => 0
  | b :: l => b.toNat * (i + 1) + wsum (i + 1) l
/-- the sum of a text -/
def sm (l : List UInt8) : Nat := wsum 0 l % 65521
theorem wsum_app (a b : List UInt8) : ∀ i, wsum i (a ++ b) = wsum i a + wsum (i + a.length) b := by
  induction a with
  | nil => intro i; simp [wsum]
  | cons x a ih =>
    intro i
    rw [List.cons_append, wsum, wsum, ih, List.length_cons, show i + 1 + a.length = i + (a.length + 1) by omega, Nat.add_assoc]
theorem sm_step {l : List UInt8} {k : Nat} (h : k < l.length) : sm (l.take (k + 1)) = (sm (l.take k) + l[k].toNat * (k + 1)) % 65521 := by
  unfold sm
  rw [List.take_succ_eq_append_getElem h, wsum_app]
  have e : 0 + (l.take k).length = k := by simp; omega
  rw [e, wsum, wsum, Nat.add_zero]
  generalize wsum 0 (l.take k) = p
  generalize l[k].toNat * (k + 1) = q
  omega
theorem sm_lt (l : List UInt8) : sm l < 65521 := Nat.mod_lt _ (by decide)
/-- from behind -/
def smB (l : List UInt8) (k : Nat) : Nat := wsum k (l.drop k) % 65521
theorem smB_step {l : List UInt8} {k : Nat} (h : k < l.length) : smB l k = (smB l (k + 1) + (k + 1) * l[k].toNat) % 65521 := by
  unfold smB
  rw [List.drop_eq_getElem_cons h, wsum, Nat.mul_comm (k + 1)]
  generalize wsum (k + 1) (l.drop (k + 1)) = p
  generalize l[k].toNat * (k + 1) = q
  omega
theorem smB_zero (l : List UInt8) : smB l 0 = sm l := rfl
theorem smB_end (l : List UInt8) : smB l l.length = 0 := by unfold smB; rw [List.drop_length]; rfl
/-- one byte is another one: the sum differs -/
theorem sm_set {l : List UInt8} {i : Nat} {v : UInt8} (h : i < l.length) (hl : l.length ≤ 256) (hv : v ≠ l[i]) : sm (l.set i v) ≠ sm l := by
  intro e
  have e1 : l = l.take i ++ l[i] :: l.drop (i + 1) := by rw [← List.drop_eq_getElem_cons h, List.take_append_drop]
  have e2 : l.set i v = l.take i ++ v :: l.drop (i + 1) := by
    rw [List.set_eq_take_append_cons_drop, if_pos h]
  have hi : (l.take i).length = i := by simp; omega
  unfold sm at e
  rw [e2] at e
  rw [show wsum 0 l = wsum 0 (l.take i ++ l[i] :: l.drop (i + 1)) from congrArg _ e1] at e
  rw [wsum_app, wsum_app, wsum, wsum, hi] at e
  have hne : v.toNat ≠ l[i].toNat := fun h => hv (UInt8.toNat_inj.1 h)
  have b1 := v.toNat_lt
  have b2 := (l[i]).toNat_lt
  generalize wsum 0 (l.take i) = p at e
  generalize wsum (0 + i + 1) (l.drop (i + 1)) = q at e
  generalize v.toNat = a at *
  generalize (l[i]).toNat = b at *
  have hm : i + 1 ≤ 256 := by omega
  rw [Nat.zero_add] at e
  generalize hs : i + 1 = s at *
  have h1 : a * s + (p + q) = a * s + (p + q) := rfl
  rcases Nat.lt_or_ge a b with hab | hab
  · obtain ⟨d, rfl⟩ : ∃ d, b = a + d := ⟨b - a, by omega⟩
    have hd : d * s ≤ 255 * 256 := Nat.mul_le_mul (by omega) hm
    have hd1 : 1 ≤ d * s := Nat.mul_pos (by omega) (by omega)
    rw [Nat.add_mul] at e
    generalize d * s = x at *
    generalize a * s = y at *
    omega
  · obtain ⟨d, rfl⟩ : ∃ d, a = b + d := ⟨a - b, by omega⟩
    have hd : d * s ≤ 255 * 256 := Nat.mul_le_mul (by omega) hm
    have hd1 : 1 ≤ d * s := Nat.mul_pos (by omega) (by omega)
    rw [Nat.add_mul] at e
    generalize d * s = x at *
    generalize b * s = y at *
    omega

/-! the last space -/
theorem at_last (c : UInt8) (l : List UInt8) : c ∉ l ∨ ∃ a r, l = a ++ c :: r ∧ c ∉ r := by
  rcases at_byte c l.reverse with h | ⟨a, r, h1, h2⟩
  · exact .inl (fun hm => h (List.mem_reverse.2 hm))
  · refine .inr ⟨r.reverse, a.reverse, ?_, fun hm => h2 (List.mem_reverse.1 hm)⟩
    have := congrArg List.reverse h1
    simpa using this
theorem occ_at (c : UInt8) (l : List UInt8) (j : Nat) : occAt l [c] j = decide (l[j]? = some c) := by
  unfold occAt
  by_cases h : j < l.length
  · rw [List.drop_eq_getElem_cons h, List.getElem?_eq_getElem h]
    simp only [List.isPrefixOf, Bool.and_true]
    by_cases e : c = l[j]
    · simp [e]
    · have : ¬ l[j] = c := fun h => e h.symm
      simp [e, this]
  · rw [List.drop_of_length_le (by omega), List.getElem?_eq_none (by omega)]
    simp [List.isPrefixOf]
theorem last_no {c : UInt8} {l : List UInt8} (h : c ∉ l) : lastIndex l [c] = -1 := by
  unfold lastIndex
  split
  · rcases lastOcc_spec l [c] (l.length - [c].length + 1) with ⟨h1, _⟩ | ⟨i, _, _, h2, _⟩
    · exact h1
    · rw [occ_at] at h2
      exact absurd (List.mem_of_getElem? (of_decide_eq_true h2)) h
  · rfl
theorem last_hit {c : UInt8} {a r : List UInt8} (h : c ∉ r) : lastIndex (a ++ c :: r) [c] = a.length := by
  unfold lastIndex
  rw [if_pos (by simp; omega)]
  have hl : (a ++ c :: r).length - [c].length + 1 = a.length + r.length + 1 := by simp
  rw [hl]
  have ho : occAt (a ++ c :: r) [c] a.length = true := by rw [occ_at]; simp
  rcases lastOcc_spec (a ++ c :: r) [c] (a.length + r.length + 1) with ⟨_, h2⟩ | ⟨i, hi, h1, h2, h3⟩
  · have := h2 a.length (by omega)
    rw [ho] at this; cases this
  · rw [h1]
    rcases Nat.lt_trichotomy i a.length with hlt | heq | hgt
    · have := h3 a.length hlt (by omega)
      rw [ho] at this; cases this
    · rw [heq]
    · rw [occ_at] at h2
      have h4 := of_decide_eq_true h2
      rw [List.getElem?_append_right (by omega)] at h4
      obtain ⟨m, hm⟩ : ∃ m, i - a.length = m + 1 := ⟨i - a.length - 1, by omega⟩
      rw [hm, List.getElem?_cons_succ] at h4
      exact absurd (List.mem_of_getElem? h4) h
end Go.Proofs.YtmepmiokpcddbabGreatDoor

set_option linter.unusedVariables false
set_option linter.unusedSimpArgs false
namespace Go.Proofs.YtmepmiokpcddbabGreatDoor

/-- an entry -/
structure Ent where
  isM : Bool
  d : List Opr
  cs : List ByteArray
  os : List Int
def ent0 : Ent := ⟨false, [], [], []⟩
/-- its error -/
def chkE (x : Ent) : Int := if x.isM then chkM x.cs x.os else chkD x.d
/-- without the field that does not count -/
def dropE (x : Ent) : Ent := if x.isM then ⟨true, [], x.cs, x.os⟩ else ⟨false, x.d, [], []⟩
theorem dropE_twice (x : Ent) : dropE (dropE x) = dropE x := by
  obtain ⟨m, d, cs, os⟩ := x
  cases m <;> rfl
theorem chkE_drop (x : Ent) : chkE (dropE x) = chkE x := by
  obtain ⟨m, d, cs, os⟩ := x
  cases m <;> rfl
end Go.Proofs.YtmepmiokpcddbabGreatDoor

set_option linter.unusedVariables false
set_option linter.unusedSimpArgs false
namespace Go.Proofs.YtmepmiokpcddbabGreatDoor
open Go.Lib

/-- the word map and a space -/
def mapW : List UInt8 := [109, 97, 112, 32]
/-- what stands before the sum -/
def bodyT (x : Ent) : List UInt8 := if x.isM then mapW ++ tM x.cs x.os else tD x.d
/-- a line -/
def lnT (b : List UInt8) : List UInt8 := b ++ 32 :: (itoa (sm b) ++ [10])
def entT (x : Ent) : List UInt8 := lnT (bodyT x)
/-- without what is not so -/
def bareE (x : Ent) : Ent := if x.isM then ⟨true, [], x.cs, x.os⟩ else ⟨false, x.d.map bare, [], []⟩
/-- what stands before the sum, read -/
def rdB (l : List UInt8) : Int × Ent := if mapW.isPrefixOf l then
    (if (rdM (l.drop 4)).1 = 0 then (0, ⟨true, [], (rdM (l.drop 4)).2.1, (rdM (l.drop 4)).2.2⟩) else ((rdM (l.drop 4)).1, ent0))
  else (if (rdD l).1 = 0 then (0, ⟨false, (rdD l).2, [], []⟩) else ((rdD l).1, ent0))
/-- a line without its newline, read -/
def prL (l : List UInt8) : Int × Ent := if lastIndex l [32] < 0 then (9, ent0) else
  match rdN (l.drop ((lastIndex l [32]).toNat + 1)) with
  | none => (9, ent0)
  | some n => if n ≠ (sm (l.take (lastIndex l [32]).toNat) : Int) then (8, ent0) else rdB (l.take (lastIndex l [32]).toNat)
/-- the first line, read: the error, the entry, the length -/
def rdE (l : List UInt8) : Int × Ent × Nat := if (cut l [10]).2.2 = false then (7, ent0, 0) else
  if (prL (cut l [10]).1).1 = 0 then (0, (prL (cut l [10]).1).2, (cut l [10]).1.length + 1) else ((prL (cut l [10]).1).1, ent0, 0)
theorem mapW_pre (l : List UInt8) : mapW.isPrefixOf (mapW ++ l) = true := by simp
theorem pre_map {l : List UInt8} (h : mapW.isPrefixOf l = true) : l = mapW ++ l.drop 4 := by
  obtain ⟨r, rfl⟩ := List.isPrefixOf_iff_prefix.1 h
  rfl
theorem tD_not {d : List Opr} {c : UInt8} (h : chkD d = 0) (h1 : c.toNat < 97) (h2 : c.toNat ≠ 45) (h3 : c.toNat < 48 ∨ 57 < c.toNat) (h4 : signs.contains c = false) (h5 : c ≠ 42) (h6 : c ≠ 59) : c ∉ tD d := by
  refine join_has h6 fun x hx => ?_
  obtain ⟨o, ho, rfl⟩ := List.mem_map.1 hx
  exact opT_not ((chkD_zero.1 h).2.2 o ho) h1 h2 h3 h4 h5
theorem tM_not {cs : List ByteArray} {os : List Int} {c : UInt8} (h : OkM cs os) (h1 : c.toNat < 97) (h2 : c.toNat ≠ 45) (h3 : c.toNat < 48 ∨ 57 < c.toNat) (h4 : c ≠ 58) : c ∉ tM cs os := join_has h4 (wdM_not h1 h2 h3 h)
theorem not_map {d : List Opr} (h : chkD d = 0) : mapW.isPrefixOf (tD d) = false := by
  cases e : mapW.isPrefixOf (tD d)
  · rfl
  · have h1 := pre_map e
    have h2 : (32 : UInt8) ∈ tD d := by rw [h1]; simp [mapW]
    exact absurd h2 (tD_not h (by decide) (by decide) (by decide) (by decide) (by decide) (by decide))
theorem rdB_body {x : Ent} (h : chkE x = 0) : rdB (bodyT x) = (0, bareE x) := by
  obtain ⟨m, d, cs, os⟩ := x
  cases m
  · have h' : chkD d = 0 := h
    show rdB (tD d) = _
    rw [rdB, not_map h', rdD_tD h']; rfl
  · have h' : OkM cs os := chkM_ok.1 h
    show rdB (mapW ++ tM cs os) = _
    have e : (mapW ++ tM cs os).drop 4 = tM cs os := rfl
    rw [rdB, mapW_pre, e, rdM_tM h']; rfl
theorem body_rdB {l : List UInt8} {x : Ent} (h : rdB l = (0, x)) : bodyT x = l ∧ chkE x = 0 ∧ bareE x = x := by
  unfold rdB at h
  split at h
  · next hp =>
    split at h
    · next hz =>
      injection h with _ h
      subst h
      obtain ⟨h1, h2⟩ := tM_rdM (show rdM (l.drop 4) = (0, (rdM (l.drop 4)).2.1, (rdM (l.drop 4)).2.2) by rw [← hz])
      refine ⟨?_, chkM_ok.2 h2, rfl⟩
      show mapW ++ tM _ _ = l
      rw [h1]; exact (pre_map hp).symm
    · next hz => injection h with h _; exact absurd h hz
  · next hp =>
    split at h
    · next hz =>
      injection h with _ h
      subst h
      obtain ⟨h1, h2, h3⟩ := tD_rdD (show rdD l = (0, (rdD l).2) by rw [← hz])
      exact ⟨h1, h2, by show Ent.mk false ((rdD l).2.map bare) [] [] = _; rw [h3]⟩
    · next hz => injection h with h _; exact absurd h hz
theorem body_not {x : Ent} (h : chkE x = 0) : (10 : UInt8) ∉ bodyT x := by
  obtain ⟨m, d, cs, os⟩ := x
  cases m
  · exact tD_not (show chkD d = 0 from h) (by decide) (by decide) (by decide) (by decide) (by decide) (by decide)
  · show (10 : UInt8) ∉ mapW ++ tM cs os
    have := tM_not (c := 10) (chkM_ok.1 (show chkM cs os = 0 from h)) (by decide) (by decide) (by decide) (by decide)
    simp [mapW, this]
theorem body_sp {x : Ent} (h : chkE x = 0) {j : Nat} (hj : (bodyT x)[j]? = some 32) : j = 3 ∧ ∃ r, bodyT x = mapW ++ r := by
  obtain ⟨m, d, cs, os⟩ := x
  cases m
  · exact absurd (List.mem_of_getElem? hj) (tD_not (show chkD d = 0 from h) (by decide) (by decide) (by decide) (by decide) (by decide) (by decide))
  · have h1 := tM_not (c := 32) (chkM_ok.1 (show chkM cs os = 0 from h)) (by decide) (by decide) (by decide) (by decide)
    have hj' : (mapW ++ tM cs os)[j]? = some 32 := hj
    refine ⟨?_, _, rfl⟩
    rcases Nat.lt_or_ge j 4 with hlt | hge
    · rw [List.getElem?_append_left (by exact hlt)] at hj'
      match j, hlt with
      | 0, _ => simp [mapW] at hj'
      | 1, _ => simp [mapW] at hj'
      | 2, _ => simp [mapW] at hj'
      | 3, _ => rfl
    · rw [List.getElem?_append_right (by exact hge)] at hj'
      exact absurd (List.mem_of_getElem? hj') h1
theorem prL_of {b r : List UInt8} (h : (32 : UInt8) ∉ r) : prL (b ++ 32 :: r) = match rdN r with
    | none => (9, ent0)
    | some n => if n ≠ (sm b : Int) then (8, ent0) else rdB b := by
  have e1 : (b ++ 32 :: r).drop (b.length + 1) = r := by rw [List.drop_append]; simp
  have e2 : (b ++ 32 :: r).take b.length = b := by simp
  have e3 : ((b.length : Int)).toNat = b.length := by omega
  rw [prL, last_hit h, if_neg (by omega), e3, e1, e2]
theorem prL_line {x : Ent} (h : chkE x = 0) : prL (bodyT x ++ 32 :: itoa (sm (bodyT x))) = (0, bareE x) := by
  have h1 := sm_lt (bodyT x)
  rw [prL_of (num_not (by decide) (by decide)), rdN_own (by omega) (by omega)]
  simp only
  rw [if_neg (by simp), rdB_body h]
theorem entT_eq (x : Ent) (more : List UInt8) : entT x ++ more = (bodyT x ++ 32 :: itoa (sm (bodyT x))) ++ 10 :: more := by simp [entT, lnT]
theorem line_not {x : Ent} (h : chkE x = 0) : (10 : UInt8) ∉ bodyT x ++ 32 :: itoa (sm (bodyT x)) := by
  have h1 := body_not h
  have h2 : (10 : UInt8) ∉ itoa (sm (bodyT x)) := num_not (by decide) (by decide)
  simp [h1, h2]
theorem rdE_ent {x : Ent} (h : chkE x = 0) (more : List UInt8) : rdE (entT x ++ more) = (0, bareE x, (entT x).length) := by
  rw [entT_eq, rdE, cut_hit (line_not h)]
  simp only [Bool.true_eq_false, if_false]
  rw [prL_line h]
  simp only [if_true, Prod.mk.injEq, true_and]
  simp [entT, lnT]
  omega
/-- what is read was written -/
theorem ent_rdE {l : List UInt8} {x : Ent} {n : Nat} (h : rdE l = (0, x, n)) : ∃ more, l = entT x ++ more ∧ chkE x = 0 ∧ bareE x = x ∧ n = (entT x).length := by
  unfold rdE at h
  rcases cut_cases 10 l with ⟨_, e⟩ | ⟨line, more, rfl, hn, e⟩
  · rw [e] at h; simp at h
  · rw [e] at h
    simp only [Bool.true_eq_false, if_false] at h
    split at h
    · next hz =>
      injection h with _ h
      injection h with h1 h2
      rcases at_last 32 line with hs | ⟨b, r, rfl, hs⟩
      · rw [prL, last_no hs] at hz; simp at hz
      · rw [prL_of hs] at hz h1
        split at hz
        · simp at hz
        · next m hm =>
          rw [hm] at h1
          simp only at h1
          split at hz
          · simp at hz
          · next he =>
            rw [if_neg he] at h1
            have he' : m = (sm b : Int) := by simpa using he
            subst he'
            obtain ⟨g1, g2, g3⟩ := body_rdB (show rdB b = (0, x) by rw [← h1, ← hz])
            have hline : b ++ 32 :: r = bodyT x ++ 32 :: itoa (sm (bodyT x)) := by rw [g1, (rdN_some hm).1]
            refine ⟨more, ?_, g2, g3, ?_⟩
            · rw [entT_eq, ← hline]
            · rw [← h2, hline]; simp [entT, lnT]; omega
    · next hz => injection h with h _; exact absurd h hz
theorem map_no {x : Ent} (h : chkE x = 0) (e : bodyT x = [109, 97, 112]) : False := by
  have h1 := rdB_body h
  rw [e] at h1
  have h2 : rdB [109, 97, 112] = (9, ent0) := rfl
  rw [h2] at h1
  injection h1 with h1 _
  exact absurd h1 (by decide)
end Go.Proofs.YtmepmiokpcddbabGreatDoor
