/-
  text.Sum: what it answers.
  Partition maps as text, plainly (no program in it).
  Log entries as text, plainly (no program in it).
  A line one byte of which is another one cannot be read, plainly (no program in it).
-/
import Derived.Test.YtefdipjhjgmokaaGreatDoorBy38
import Derived.Test.YtefdipjhjgmokaaGreatDoorBy37
import Derived.Test.YtefdipjhjgmokaaGreatDoorBy1
set_option linter.unusedVariables false
set_option linter.unusedSimpArgs false
namespace Go.Proofs.YtefdipjhjgmokaaGreatDoor
open Go.RowKit
open Go.Lib hiding intOf

theorem sm_next (s : ByteArray) (k : Nat) (h : k < s.size) : sm (s.data.toList.take (k + 1)) = (sm (s.data.toList.take k) + (s[k]'h).toNat * (k + 1)) % 65521 := by
  have h' : k < s.data.toList.length := by simpa using h
  rw [sm_step h']; rfl
theorem wrap64_small {x : Int} (h0 : -9223372036854775808 ≤ x) (h1 : x ≤ 9223372036854775807) : wrap64 x = x := by
  have h : IntKind.i64.wrap x = x := by simp only [IntKind.wrap_i64]; omega
  first
  | exact h
  | (unfold wrap64; omega)
  | (simp only [wrap64]; omega)
set_option maxHeartbeats 1000000 in
theorem sum_any (s : ByteArray) (w : World) (hs : s.size ≤ 1099511627776) :
    Calls Tryz.prog 77 #[.string s] w fun e w' => e = .returned (.int .i64 (sm s.data.toList : Int)) ∧ w = w' := by
  go_enter Tryz.func77, Tryz.ntmps77
  go_wp2_with fail
  go_loop [3, 7] (fun a i => ∃ k : Nat, k ≤ s.size ∧ i = .int .i64 k ∧ a = .int .i64 (sm (s.data.toList.take k) : Int)) (fun _ i => s.size - (intOf i).toNat)
  case atStart => exact ⟨0, Nat.zero_le _, rfl, rfl⟩
  case round =>
    obtain ⟨k, hk, rfl, rfl⟩ := hrel
    by_cases hlt : k < s.size
    · have hlt' : (k : Int) < (s.size : Int) := by omega
      have hst := sm_next s k hlt
      have hS := sm_lt (s.data.toList.take k)
      have hB := (s[k]'hlt).toNat_lt
      generalize sm (s.data.toList.take k) = S at hst hS ⊢
      obtain ⟨P, hP⟩ : ∃ P : Nat, (s[k]'hlt).toNat * (k + 1) = P := ⟨_, rfl⟩
      have hPb : P ≤ 255 * (k + 1) := by rw [← hP]; exact Nat.mul_le_mul_right _ (by omega)
      have p1 : IntKind.i64.wrap ((k : Int) + 1) = (k : Int) + 1 := by simp only [IntKind.wrap_i64]; omega
      have p0 : (((s[k]'hlt).toNat : Int) * ((k : Int) + 1)) = (P : Int) := by rw [← hP]; push_cast; rfl
      have p2 : IntKind.i64.wrap (P : Int) = (P : Int) := by simp only [IntKind.wrap_i64]; omega
      have p3 : IntKind.i64.wrap ((S : Int) + (P : Int)) = (S : Int) + (P : Int) := by simp only [IntKind.wrap_i64]; omega
      have p4 : ((S : Int) + (P : Int)).tmod 65521 = (((S + P) % 65521 : Nat) : Int) := by rw [Int.tmod_eq_emod_of_nonneg (by omega)]; omega
      have p5 : IntKind.i64.wrap (((S + P) % 65521 : Nat) : Int) = (((S + P) % 65521 : Nat) : Int) := by simp only [IntKind.wrap_i64]; omega
      have KEY := hideP (show (wrap64 ((S : Int) + wrap64 (wrap64 ((s[k]'hlt).toNat : Int) * ((k : Int) + 1)))).tmod 65521 = (((S + P) % 65521 : Nat) : Int) by
        rw [wrap64_small (x := ((s[k]'hlt).toNat : Int)) (by omega) (by omega), p0, wrap64_small (x := (P : Int)) (by omega) (by omega), wrap64_small (by omega) (by omega), p4])
      rw [hP] at hst
      have HST := hideP hst
      clear hst hP hS hB hPb
      go_wp2_with fail
      go_round
      case rel => exact ⟨k + 1, by omega, by go_num, by rw [HST.out, ← KEY.out]⟩
      case measure => simp [intOf]; omega
    · have hke : k = s.size := by omega
      subst hke
      have HE := hideP (show s.data.toList.take s.size = s.data.toList from List.take_of_length_le (by simp))
      rw [HE.out]
      generalize hS : sm s.data.toList = S at ⊢
      have HS := hideP hS
      clear hS
      go_wp2_with fail
      go_ret
      exact ⟨by rw [HS.out]; rfl, rfl⟩
end Go.Proofs.YtefdipjhjgmokaaGreatDoor

set_option linter.unusedVariables false
set_option linter.unusedSimpArgs false
namespace Go.Proofs.YtefdipjhjgmokaaGreatDoor
open Go.Lib

/-- the words of the cuts and the owners behind them -/
def wdT : List ByteArray → List Int → List (List UInt8)
  | c :: cs, o :: os => c.data.toList :: itoa o :: wdT cs os
  | _, _ => []
/-- the words of a map -/
def wdM (cs : List ByteArray) : List Int → List (List UInt8)
  | o :: os => itoa o :: wdT cs os
  | [] => []
/-- a map that is written -/
def tM (cs : List ByteArray) (os : List Int) : List UInt8 := join (wdM cs os) [58]
/-- words that are read: first an owner, then a cut, and so on -/
def rdW : Bool → List ByteArray → List Int → List (List UInt8) → Option (List ByteArray × List Int)
  | _, cs, os, [] => some (cs, os)
  | true, cs, os, w :: r => match rdN w with
    | none => none
    | some n => rdW false cs (os ++ [n]) r
  | false, cs, os, w :: r => rdW true (cs ++ [bs w]) os r
/-- a map that is read: the error, the cuts and the owners -/
def rdM (l : List UInt8) : Int × List ByteArray × List Int := match rdW true [] [] (spl 58 l) with
  | none => (9, [], [])
  | some (cs, os) => if chkM cs os = 0 then (0, cs, os) else (chkM cs os, [], [])
theorem rdW_true_nil (cs : List ByteArray) (os : List Int) : rdW true cs os [] = some (cs, os) := rfl
theorem rdW_false_nil (cs : List ByteArray) (os : List Int) : rdW false cs os [] = some (cs, os) := rfl
theorem rdW_wdT : ∀ (cs : List ByteArray) (os : List Int) (ca : List ByteArray) (oa : List Int), cs.length = os.length → (∀ n ∈ os, 0 ≤ n ∧ n ≤ 3) → rdW false ca oa (wdT cs os) = some (ca ++ cs, oa ++ os)
  | [], [], ca, oa, _, _ => by simp [wdT, rdW]
  | [], _ :: _, _, _, h, _ => by simp at h
  | _ :: _, [], _, _, h, _ => by simp at h
  | c :: cs, o :: os, ca, oa, h, ho => by
    have h1 := ho o (by simp)
    rw [wdT, rdW, rdW, rdN_own h1.1 (by omega)]
    simp only
    rw [rdW_wdT cs os _ _ (by simpa using h) (fun n hn => ho n (List.mem_cons_of_mem _ hn)), bs_of]
    simp
theorem okM_one {cs : List ByteArray} {os : List Int} (h : OkM cs os) : ∃ o r, os = o :: r ∧ cs.length = r.length := by
  cases os with
  | nil => have := h.len; simp at this
  | cons o r => exact ⟨o, r, rfl, by have := h.len; simp at this; omega⟩
theorem wdM_read {cs : List ByteArray} {os : List Int} (h : OkM cs os) : rdW true [] [] (wdM cs os) = some (cs, os) := by
  obtain ⟨o, r, rfl, hl⟩ := okM_one h
  have h1 := h.own o (by simp)
  rw [wdM, rdW, rdN_own h1.1 (by omega)]
  simp only
  rw [rdW_wdT cs r _ _ hl (fun n hn => h.own n (List.mem_cons_of_mem _ hn))]
  simp
theorem wdT_not {c : UInt8} (h1 : c.toNat < 97) (h2 : c.toNat ≠ 45) (h3 : c.toNat < 48 ∨ 57 < c.toNat) : ∀ (cs : List ByteArray) (os : List Int), (∀ k ∈ cs, keyB k = true) → ∀ x ∈ wdT cs os, c ∉ x
  | [], _, _, x, hx => by simp [wdT] at hx
  | _ :: _, [], _, x, hx => by simp [wdT] at hx
  | k :: cs, o :: os, hk, x, hx => by
    rw [wdT] at hx
    rcases List.mem_cons.1 hx with rfl | hx
    · exact key_not (hk k (by simp)) h1
    rcases List.mem_cons.1 hx with rfl | hx
    · exact num_not h2 h3
    · exact wdT_not h1 h2 h3 cs os (fun j hj => hk j (List.mem_cons_of_mem _ hj)) x hx
theorem okM_keys {cs : List ByteArray} {os : List Int} (h : OkM cs os) : ∀ k ∈ cs, keyB k = true := fun k hk => ((cutsB_iff.1 h.cuts).1 k hk).1
theorem wdM_not {c : UInt8} (h1 : c.toNat < 97) (h2 : c.toNat ≠ 45) (h3 : c.toNat < 48 ∨ 57 < c.toNat) {cs : List ByteArray} {os : List Int} (h : OkM cs os) : ∀ x ∈ wdM cs os, c ∉ x := by
  obtain ⟨o, r, rfl, hl⟩ := okM_one h
  intro x hx
  rw [wdM] at hx
  rcases List.mem_cons.1 hx with rfl | hx
  · exact num_not h2 h3
  · exact wdT_not h1 h2 h3 cs r (okM_keys h) x hx
theorem wdM_ne {cs : List ByteArray} {os : List Int} (h : OkM cs os) : wdM cs os ≠ [] := by
  obtain ⟨o, r, rfl, hl⟩ := okM_one h
  simp [wdM]
theorem spl_tM {cs : List ByteArray} {os : List Int} (h : OkM cs os) : spl 58 (tM cs os) = wdM cs os := spl_join (wdM_ne h) (wdM_not (by decide) (by decide) (by decide) h)
theorem rdM_tM {cs : List ByteArray} {os : List Int} (h : OkM cs os) : rdM (tM cs os) = (0, cs, os) := by
  rw [rdM, spl_tM h, wdM_read h]
  simp only
  rw [if_pos (chkM_ok.2 h)]
/-- what is read, by how the words alternate -/
theorem rdW_inv : ∀ (ws : List (List UInt8)) (ca : List ByteArray) (oa : List Int) (cs : List ByteArray) (os : List Int), rdW false ca oa ws = some (cs, os) →
    ∃ c' o', cs = ca ++ c' ∧ os = oa ++ o' ∧ (c'.length = o'.length ∧ ws = wdT c' o' ∨ c'.length = o'.length + 1)
  | [], ca, oa, cs, os, h => by
    injection h with h
    injection h with h1 h2
    exact ⟨[], [], by simp [h1], by simp [h2], .inl ⟨rfl, rfl⟩⟩
  | [w], ca, oa, cs, os, h => by
    rw [rdW, rdW_true_nil] at h
    injection h with h
    injection h with h1 h2
    exact ⟨[bs w], [], h1.symm, by simp [h2], .inr rfl⟩
  | w :: v :: ws, ca, oa, cs, os, h => by
    rw [rdW, rdW] at h
    split at h
    · cases h
    · next n hn =>
      obtain ⟨c', o', rfl, rfl, hc⟩ := rdW_inv ws _ _ _ _ h
      refine ⟨bs w :: c', n :: o', by simp, by simp, ?_⟩
      rcases hc with ⟨h1, h2⟩ | h1
      · exact .inl ⟨by simp [h1], by rw [wdT, bs_data, (rdN_some hn).1, h2]⟩
      · exact .inr (by simp [h1])
theorem tM_rdM {l : List UInt8} {cs : List ByteArray} {os : List Int} (h : rdM l = (0, cs, os)) : tM cs os = l ∧ OkM cs os := by
  unfold rdM at h
  split at h
  · cases h
  · next cs' os' e =>
    split at h
    · next hc =>
      injection h with _ h
      injection h with h1 h2
      subst h1; subst h2
      have ho := chkM_ok.1 hc
      refine ⟨?_, ho⟩
      cases hs : spl 58 l with
      | nil => exact absurd hs (spl_ne _ _)
      | cons w ws =>
        rw [hs, rdW] at e
        split at e
        · cases e
        · next n hn =>
          obtain ⟨c', o', rfl, rfl, hcc⟩ := rdW_inv ws _ _ _ _ e
          have hl := ho.len
          simp at hl
          rcases hcc with ⟨h1, h2⟩ | h1
          · rw [tM]
            simp only [List.nil_append, List.singleton_append, wdM]
            rw [← h2, (rdN_some hn).1, ← hs, join_spl]
          · omega
    · next hc => injection h with h _; exact absurd h hc
end Go.Proofs.YtefdipjhjgmokaaGreatDoor

set_option linter.unusedVariables false
set_option linter.unusedSimpArgs false
namespace Go.Proofs.YtefdipjhjgmokaaGreatDoor
open Go.Lib

/-- the word map and a space -/
def mapW : List UInt8 := [109, 97, 112, 32]
/-- what stands before the sum -/
def bodyT (x : Ent) : List UInt8 := if x.isM then mapW ++ tM x.cs x.os else tD x.d
/-- a line -/
def lnT (b : List UInt8) : List UInt8 := b ++ 32 :: (itoa (sm b) ++ [10])
def entT (x : Ent) : List UInt8 := lnT (bodyT x)
/-- without what is not so -/
def bareE (x : Ent) : Ent := if x.isM then ⟨true, [], x.cs, x.os⟩ else ⟨false, x.d.map bare, [], []⟩
/-- what stands before the sum, read -/
def rdB (l : List UInt8) : Int × Ent := if mapW.isPrefixOf l then
    (if (rdM (l.drop 4)).1 = 0 then (0, ⟨true, [], (rdM (l.drop 4)).2.1, (rdM (l.drop 4)).2.2⟩) else ((rdM (l.drop 4)).1, ent0))
  else (if (rdD l).1 = 0 then (0, ⟨false, (rdD l).2, [], []⟩) else ((rdD l).1, ent0))
/-- a line without its newline, read -/
def prL (l : List UInt8) : Int × Ent := if lastIndex l [32] < 0 then (9, ent0) else
  match rdN (l.drop ((lastIndex l [32]).toNat + 1)) with
  | none => (9, ent0)
  | some n => if n ≠ (sm (l.take (lastIndex l [32]).toNat) : Int) then (8, ent0) else rdB (l.take (lastIndex l [32]).toNat)
/-- the first line, read: the error, the entry, the length -/
def rdE (l : List UInt8) : Int × Ent × Nat := if (cut l [10]).2.2 = false then (7, ent0, 0) else
  if (prL (cut l [10]).1).1 = 0 then (0, (prL (cut l [10]).1).2, (cut l [10]).1.length + 1) else ((prL (cut l [10]).1).1, ent0, 0)
theorem mapW_pre (l : List UInt8) : mapW.isPrefixOf (mapW ++ l) = true := by simp
theorem pre_map {l : List UInt8} (h : mapW.isPrefixOf l = true) : l = mapW ++ l.drop 4 := by
  obtain ⟨r, rfl⟩ := List.isPrefixOf_iff_prefix.1 h
  rfl
theorem tD_not {d : List Opr} {c : UInt8} (h : chkD d = 0) (h1 : c.toNat < 97) (h2 : c.toNat ≠ 45) (h3 : c.toNat < 48 ∨ 57 < c.toNat) (h4 : signs.contains c = false) (h5 : c ≠ 42) (h6 : c ≠ 59) : c ∉ tD d := by
  refine join_has h6 fun x hx => ?_
  obtain ⟨o, ho, rfl⟩ := List.mem_map.1 hx
  exact opT_not ((chkD_zero.1 h).2.2 o ho) h1 h2 h3 h4 h5
theorem tM_not {cs : List ByteArray} {os : List Int} {c : UInt8} (h : OkM cs os) (h1 : c.toNat < 97) (h2 : c.toNat ≠ 45) (h3 : c.toNat < 48 ∨ 57 < c.toNat) (h4 : c ≠ 58) : c ∉ tM cs os := join_has h4 (wdM_not h1 h2 h3 h)
theorem not_map {d : List Opr} (h : chkD d = 0) : mapW.isPrefixOf (tD d) = false := by
  cases e : mapW.isPrefixOf (tD d)
  · rfl
  · have h1 := pre_map e
    have h2 : (32 : UInt8) ∈ tD d := by rw [h1]; simp [mapW]
    exact absurd h2 (tD_not h (by decide) (by decide) (by decide) (by decide) (by decide) (by decide))
theorem rdB_body {x : Ent} (h : chkE x = 0) : rdB (bodyT x) = (0, bareE x) := by
  obtain ⟨m, d, cs, os⟩ := x
  cases m
  · have h' : chkD d = 0 := h
    show rdB (tD d) = _
    rw [rdB, not_map h', rdD_tD h']; rfl
  · have h' : OkM cs os := chkM_ok.1 h
    show rdB (mapW ++ tM cs os) = _
    have e : (mapW ++ tM cs os).drop 4 = tM cs os := rfl
    rw [rdB, mapW_pre, e, rdM_tM h']; rfl
theorem body_rdB {l : List UInt8} {x : Ent} (h : rdB l = (0, x)) : bodyT x = l ∧ chkE x = 0 ∧ bareE x = x := by
  unfold rdB at h
  split at h
  · next hp =>
    split at h
    · next hz =>
      injection h with _ h
      subst h
      obtain ⟨h1, h2⟩ := tM_rdM (show rdM (l.drop 4) = (0, (rdM (l.drop 4)).2.1, (rdM (l.drop 4)).2.2) by rw [← hz])
      refine ⟨?_, chkM_ok.2 h2, rfl⟩
      show mapW ++ tM _ _ = l
      rw [h1]; exact (pre_map hp).symm
    · next hz => injection h with h _; exact absurd h hz
  · next hp =>
    split at h
    · next hz =>
      injection h with _ h
      subst h
      obtain ⟨h1, h2, h3⟩ := tD_rdD (show rdD l = (0, (rdD l).2) by rw [← hz])
      exact ⟨h1, h2, by show Ent.mk false ((rdD l).2.map bare) [] [] = _; rw [h3]⟩
    · next hz => injection h with h _; exact absurd h hz
theorem body_not {x : Ent} (h : chkE x = 0) : (10 : UInt8) ∉ bodyT x := by
  obtain ⟨m, d, cs, os⟩ := x
  cases m
  · exact tD_not (show chkD d = 0 from h) (by decide) (by decide) (by decide) (by decide) (by decide) (by decide)
  · show (10 : UInt8) ∉ mapW ++ tM cs os
    have := tM_not (c := 10) (chkM_ok.1 (show chkM cs os = 0 from h)) (by decide) (by decide) (by decide) (by decide)
    simp [mapW, this]
theorem body_sp {x : Ent} (h : chkE x = 0) {j : Nat} (hj : (bodyT x)[j]? = some 32) : j = 3 ∧ ∃ r, bodyT x = mapW ++ r := by
  obtain ⟨m, d, cs, os⟩ := x
  cases m
  · exact absurd (List.mem_of_getElem? hj) (tD_not (show chkD d = 0 from h) (by decide) (by decide) (by decide) (by decide) (by decide) (by decide))
  · have h1 := tM_not (c := 32) (chkM_ok.1 (show chkM cs os = 0 from h)) (by decide) (by decide) (by decide) (by decide)
    have hj' : (mapW ++ tM cs os)[j]? = some 32 := hj
    refine ⟨?_, _, rfl⟩
    rcases Nat.lt_or_ge j 4 with hlt | hge
    · rw [List.getElem?_append_left (by exact hlt)] at hj'
      match j, hlt with
      | 0, _ => simp [mapW] at hj'
      | 1, _ => simp [mapW] at hj'
      | 2, _ => simp [mapW] at hj'
      | 3, _ => rfl
    · rw [List.getElem?_append_right (by exact hge)] at hj'
      exact absurd (List.mem_of_getElem? hj') h1
theorem prL_of {b r : List UInt8} (h : (32 : UInt8) ∉ r) : prL (b ++ 32 :: r) = match rdN r with
    | none => (9, ent0)
    | some n => if n ≠ (sm b : Int) then (8, ent0) else rdB b := by
  have e1 : (b ++ 32 :: r).drop (b.length + 1) = r := by rw [List.drop_append]; simp
  have e2 : (b ++ 32 :: r).take b.length = b := by simp
  have e3 : ((b.length : Int)).toNat = b.length := by omega
  rw [prL, last_hit h, if_neg (by omega), e3, e1, e2]
theorem prL_line {x : Ent} (h : chkE x = 0) : prL (bodyT x ++ 32 :: itoa (sm (bodyT x))) = (0, bareE x) := by
  have h1 := sm_lt (bodyT x)
  rw [prL_of (num_not (by decide) (by decide)), rdN_own (by omega) (by omega)]
  simp only
  rw [if_neg (by simp), rdB_body h]
theorem entT_eq (x : Ent) (more : List UInt8) : entT x ++ more = (bodyT x ++ 32 :: itoa (sm (bodyT x))) ++ 10 :: more := by simp [entT, lnT]
theorem line_not {x : Ent} (h : chkE x = 0) : (10 : UInt8) ∉ bodyT x ++ 32 :: itoa (sm (bodyT x)) := by
  have h1 := body_not h
  have h2 : (10 : UInt8) ∉ itoa (sm (bodyT x)) := num_not (by decide) (by decide)
  simp [h1, h2]
theorem rdE_ent {x : Ent} (h : chkE x = 0) (more : List UInt8) : rdE (entT x ++ more) = (0, bareE x, (entT x).length) := by
  rw [entT_eq, rdE, cut_hit (line_not h)]
  simp only [Bool.true_eq_false, if_false]
  rw [prL_line h]
  simp only [if_true, Prod.mk.injEq, true_and]
  simp [entT, lnT]
  omega
/-- what is read was written -/
theorem ent_rdE {l : List UInt8} {x : Ent} {n : Nat} (h : rdE l = (0, x, n)) : ∃ more, l = entT x ++ more ∧ chkE x = 0 ∧ bareE x = x ∧ n = (entT x).length := by
  unfold rdE at h
  rcases cut_cases 10 l with ⟨_, e⟩ | ⟨line, more, rfl, hn, e⟩
  · rw [e] at h; simp at h
  · rw [e] at h
    simp only [Bool.true_eq_false, if_false] at h
    split at h
    · next hz =>
      injection h with _ h
      injection h with h1 h2
      rcases at_last 32 line with hs | ⟨b, r, rfl, hs⟩
      · rw [prL, last_no hs] at hz; simp at hz
      · rw [prL_of hs] at hz h1
        split at hz
        · simp at hz
        · next m hm =>
          rw [hm] at h1
          simp only at h1
          split at hz
          · simp at hz
          · next he =>
            rw [if_neg he] at h1
            have he' : m = (sm b : Int) := by simpa using he
            subst he'
            obtain ⟨g1, g2, g3⟩ := body_rdB (show rdB b = (0, x) by rw [← h1, ← hz])
            have hline : b ++ 32 :: r = bodyT x ++ 32 :: itoa (sm (bodyT x)) := by rw [g1, (rdN_some hm).1]
            refine ⟨more, ?_, g2, g3, ?_⟩
            · rw [entT_eq, ← hline]
            · rw [← h2, hline]; simp [entT, lnT]; omega
    · next hz => injection h with h _; exact absurd h hz
theorem map_no {x : Ent} (h : chkE x = 0) (e : bodyT x = [109, 97, 112]) : False := by
  have h1 := rdB_body h
  rw [e] at h1
  have h2 : rdB [109, 97, 112] = (9, ent0) := rfl
  rw [h2] at h1
  injection h1 with h1 _
  exact absurd h1 (by decide)
end Go.Proofs.YtefdipjhjgmokaaGreatDoor

set_option linter.unusedVariables false
set_option linter.unusedSimpArgs false
namespace Go.Proofs.YtefdipjhjgmokaaGreatDoor
open Go.Lib

theorem join_le {c : UInt8} {k : Nat} : ∀ {xs : List (List UInt8)}, (∀ x ∈ xs, x.length ≤ k) → (join xs [c]).length ≤ xs.length * (k + 1)
  | [], _ => by simp [join_nil]
  | [x], h => by rw [join_one]; have := h x (by simp); simp; omega
  | x :: y :: r, h => by
    rw [join_two]
    have h1 := h x (by simp)
    have h2 := join_le (c := c) (xs := y :: r) (fun z hz => h z (List.mem_cons_of_mem _ hz))
    simp only [List.length_append, List.length_cons, Nat.add_mul] at h2 ⊢
    omega
theorem key_len {s : ByteArray} (h : keyB s = true) : s.data.toList.length ≤ 6 := by
  simp [keyB] at h
  have : s.data.toList.length = s.size := by simp
  omega
theorem val_len {n : Int} (h : valB n = true) : (itoa n).length ≤ 11 := by
  simp [valB] at h
  exact itoa_short (by omega) (by omega)
theorem opT_len {o : Opr} (h : chkO o = 0) : (opT o).length ≤ 25 := by
  obtain ⟨g1, g2, g3, g4, g5, g6⟩ := chkO_zero.1 h
  have k1 := key_len g3
  unfold opT
  split
  · next e => have := val_len (g5 (by omega)); simp only [List.length_append, List.length_cons]; omega
  · split
    · next e => have := val_len (g5 (by omega)); simp only [List.length_append, List.length_cons]; omega
    · split
      · next e => have := key_len (g4 (.inl e)).1; simp only [List.length_append, List.length_cons]; omega
      · split
        · next e => have := val_len (g5 (by omega)); simp only [List.length_append, List.length_cons]; omega
        · next e1 e2 e3 e4 =>
          have h1 := val_len (g5 (by omega))
          have h2 := key_len (g4 (.inr (by omega))).1
          simp only [List.length_append, List.length_cons]; omega
theorem own_len {n : Int} (h0 : 0 ≤ n) (h1 : n ≤ 3) : (itoa n).length = 1 := by
  obtain rfl | rfl | rfl | rfl : n = 0 ∨ n = 1 ∨ n = 2 ∨ n = 3 := by omega
  all_goals
    unfold itoa
    rw [if_neg (by decide), decDigits_length, nDigits_small (by decide)]
theorem wdT_len : ∀ (cs : List ByteArray) (os : List Int), (∀ k ∈ cs, keyB k = true) → (∀ n ∈ os, 0 ≤ n ∧ n ≤ 3) → (wdT cs os).length ≤ 2 * cs.length ∧ ∀ x ∈ wdT cs os, x.length ≤ 6
  | [], os, _, _ => by simp [wdT]
  | _ :: _, [], _, _ => by simp [wdT]
  | k :: cs, o :: os, hk, ho => by
    obtain ⟨h1, h2⟩ := wdT_len cs os (fun j hj => hk j (List.mem_cons_of_mem _ hj)) (fun n hn => ho n (List.mem_cons_of_mem _ hn))
    rw [wdT]
    refine ⟨by simp only [List.length_cons]; omega, ?_⟩
    intro x hx
    rcases List.mem_cons.1 hx with rfl | hx
    · exact key_len (hk k (by simp))
    rcases List.mem_cons.1 hx with rfl | hx
    · have := ho o (by simp); rw [own_len this.1 this.2]; omega
    · exact h2 x hx
theorem body_len {x : Ent} (h : chkE x = 0) : (bodyT x).length ≤ 256 := by
  obtain ⟨m, d, cs, os⟩ := x
  cases m
  · have h' := chkD_zero.1 (show chkD d = 0 from h)
    show (tD d).length ≤ 256
    have h1 : (tD d).length ≤ (d.map opT).length * 26 := join_le fun x hx => by
      obtain ⟨o, ho, rfl⟩ := List.mem_map.1 hx
      exact opT_len (h'.2.2 o ho)
    rw [List.length_map] at h1
    have := h'.2.1
    omega
  · have h' := chkM_ok.1 (show chkM cs os = 0 from h)
    show (mapW ++ tM cs os).length ≤ 256
    obtain ⟨o, r, rfl, hl⟩ := okM_one h'
    obtain ⟨h1, h2⟩ := wdT_len cs r (okM_keys h') (fun n hn => h'.own n (List.mem_cons_of_mem _ hn))
    have h3 : (tM cs (o :: r)).length ≤ (wdM cs (o :: r)).length * 7 := join_le fun x hx => by
      rw [wdM] at hx
      rcases List.mem_cons.1 hx with rfl | hx
      · have := h'.own o (by simp); rw [own_len this.1 this.2]; omega
      · exact h2 x hx
    rw [wdM, List.length_cons] at h3
    have := h'.few
    simp only [List.length_append, mapW, List.length_cons, List.length_nil]
    omega
/-- a line without its newline -/
def lineT (x : Ent) : List UInt8 := bodyT x ++ 32 :: itoa (sm (bodyT x))
theorem entT_line (x : Ent) : entT x = lineT x ++ [10] := by simp [entT, lnT, lineT]
theorem line_at (x : Ent) : (lineT x)[(bodyT x).length]? = some 32 := by simp [lineT]
theorem line_lt (x : Ent) : (bodyT x).length < (lineT x).length := by simp [lineT]
theorem line_take (x : Ent) : (lineT x).take (bodyT x).length = bodyT x := by simp [lineT]
theorem line_drop (x : Ent) : (lineT x).drop ((bodyT x).length + 1) = itoa (sm (bodyT x)) := by simp [lineT, List.drop_append]
theorem sp_of {x : Ent} (h : chkE x = 0) {j : Nat} (hj : (lineT x)[j]? = some 32) : j = (bodyT x).length ∨ j = 3 ∧ 3 < (bodyT x).length ∧ (bodyT x).take 3 = [109, 97, 112] := by
  rcases Nat.lt_trichotomy j (bodyT x).length with hlt | heq | hgt
  · rw [lineT, List.getElem?_append_left hlt] at hj
    obtain ⟨rfl, r, hr⟩ := body_sp h hj
    exact .inr ⟨rfl, hlt, by rw [hr]; rfl⟩
  · exact .inl heq
  · rw [lineT, List.getElem?_append_right (by omega)] at hj
    obtain ⟨m, hm⟩ : ∃ m, j - (bodyT x).length = m + 1 := ⟨j - (bodyT x).length - 1, by omega⟩
    rw [hm, List.getElem?_cons_succ] at hj
    exact absurd (List.mem_of_getElem? hj) (num_not (by decide) (by decide))
theorem line_eq {x y : Ent} (h : bodyT x = bodyT y) : lineT x = lineT y := by unfold lineT; rw [h]
theorem changed {x : Ent} (h : chkE x = 0) {i : Nat} {v : UInt8} (hi : i < (entT x).length) (hv : (entT x)[i]? ≠ some v) : (rdE ((entT x).set i v)).1 ≠ 0 := by
  intro hz
  obtain ⟨y, n, hr⟩ : ∃ y n, rdE ((entT x).set i v) = (0, y, n) := ⟨_, _, by rw [← hz]⟩
  obtain ⟨more, hX, hy, _, _⟩ := ent_rdE hr
  clear hr hz
  have lx := line_not h
  have ly := line_not hy
  change (10 : UInt8) ∉ lineT x at lx
  change (10 : UInt8) ∉ lineT y at ly
  rw [entT_line, entT_line] at hX
  rw [entT_line] at hv hi
  have hlen : (lineT x).length + 1 = (lineT y).length + 1 + more.length := by
    have := congrArg List.length hX
    simp at this
    omega
  simp only [List.length_append, List.length_cons, List.length_nil] at hi
  -- the place of Y's newline
  have y10 : (lineT y ++ [10] ++ more)[(lineT y).length]? = some 10 := by simp
  rw [← hX] at y10
  by_cases hiY : i = (lineT y).length
  · subst hiY
    have hlt : (lineT y).length < (lineT x).length := by
      rcases Nat.lt_or_ge (lineT y).length (lineT x).length with hlt | hge
      · exact hlt
      · have e : (lineT y).length = (lineT x).length := by omega
        rw [e] at y10 hv
        rw [List.getElem?_set_self (by simp)] at y10
        injection y10 with y10
        subst y10
        exact absurd (by simp) hv
    have hpre : lineT y = (lineT x).take (lineT y).length := by
      have h1 := congrArg (List.take (lineT y).length) hX
      rw [List.take_set_of_le (Nat.le_refl _), List.take_append_of_le_length (by omega)] at h1
      rw [h1]; simp
    have hq := line_at y
    have hql := line_lt y
    rw [hpre, List.getElem?_take_of_lt hql] at hq
    rcases sp_of h hq with e | ⟨e, e1, e2⟩
    · have hb : bodyT y = bodyT x := by
        rw [← line_take y, hpre, List.take_take, Nat.min_eq_left (by omega), e, line_take]
      have := congrArg List.length (line_eq hb)
      omega
    · refine map_no hy ?_
      rw [← line_take y, hpre, List.take_take, Nat.min_eq_left (by omega), e, ← e2, ← line_take x, List.take_take, Nat.min_eq_left (by omega)]
  · rw [List.getElem?_set_ne hiY] at y10
    have hLe : (lineT y).length = (lineT x).length := by
      rcases Nat.lt_or_ge (lineT y).length (lineT x).length with hlt | hge
      · rw [List.getElem?_append_left hlt] at y10
        exact absurd (List.mem_of_getElem? y10) lx
      · omega
    have hm : more = [] := List.length_eq_zero_iff.1 (by omega)
    subst hm
    rw [List.append_nil] at hX
    have hil : i < (lineT x).length := by
      rcases Nat.lt_or_ge i (lineT x).length with hlt | hge
      · exact hlt
      · exact absurd (show i = (lineT y).length by omega) hiY
    rw [List.set_append_left _ _ hil] at hX
    have hL : (lineT x).set i v = lineT y := List.append_cancel_right hX
    rw [List.getElem?_append_left hil] at hv
    clear hX y10 hiY hlen hi
    have hp := line_at x
    have hpl := line_lt x
    have hq := line_at y
    have hql := line_lt y
    have hiv : (lineT y)[i]? = some v := by rw [← hL, List.getElem?_set_self hil]
    have hne : ∀ j, j ≠ i → (lineT y)[j]? = (lineT x)[j]? := fun j hj => by rw [← hL, List.getElem?_set_ne (fun e => hj e.symm)]
    by_cases hpq : (bodyT y).length = (bodyT x).length
    · rcases Nat.lt_trichotomy i (bodyT x).length with hlt | heq | hgt
      · have hb : bodyT y = (bodyT x).set i v := by
          rw [← line_take y, hpq, ← hL, List.take_set, line_take]
        have hN : itoa (sm (bodyT y)) = itoa (sm (bodyT x)) := by
          rw [← line_drop y, hpq, ← hL, List.drop_set_of_lt (by omega), line_drop]
        have b1 := sm_lt (bodyT x)
        have b2 := sm_lt (bodyT y)
        have e := itoa_inj (by omega) (by omega) (by omega) (by omega) hN
        have e' : sm (bodyT y) = sm (bodyT x) := by omega
        rw [hb] at e'
        refine sm_set hlt (body_len h) ?_ e'
        intro e3
        apply hv
        rw [lineT, List.getElem?_append_left hlt, List.getElem?_eq_getElem hlt, e3]
      · subst heq
        rw [hpq] at hq
        rw [hq] at hiv
        injection hiv with hiv
        subst hiv
        exact hv hp
      · have hb : bodyT y = bodyT x := by
          rw [← line_take y, hpq, ← hL, List.take_set_of_le (by omega), line_take]
        rw [line_eq hb] at hiv
        exact hv hiv
    · by_cases hiq : i = (bodyT y).length
      · have hip : (bodyT x).length ≠ i := fun e => hpq (by omega)
        rw [← hne _ hip] at hp
        rcases sp_of hy hp with e | ⟨e, e1, e2⟩
        · exact hpq e.symm
        · refine map_no h ?_
          rw [← line_take x, e, ← e2, ← line_take y, ← hL, List.take_take, List.take_set_of_le (by omega), Nat.min_eq_left (by omega)]
      · rw [hne _ (fun e => hiq e.symm)] at hq
        rcases sp_of h hq with e | ⟨e, e1, e2⟩
        · exact hpq e
        · have hip : i = (bodyT x).length := by
            refine Classical.byContradiction fun hip => ?_
            rw [← hne _ (fun e => hip e.symm)] at hp
            rcases sp_of hy hp with e3 | ⟨e3, e4, _⟩
            · exact hpq e3.symm
            · omega
          refine map_no hy ?_
          rw [← line_take y, e, ← hL, List.take_set_of_le (by omega), ← e2, ← line_take x, List.take_take, Nat.min_eq_left (by omega)]
end Go.Proofs.YtefdipjhjgmokaaGreatDoor
