/-
  Numbers as text, and texts cut at one byte, plainly (no program in it).
  Transactions as text, plainly (no program in it).
-/
import Derived.Test.YtmepmiokpcddbabGreatDoorCb1
import Derived.Lib.ItoaMem
import Derived.Lib.AtoiAll
import Derived.Lib.SplitLaws
import Derived.Lib.Join
import Derived.Lib.LastIndexLaws
import Derived.Test.YtmepmiokpcddbabGreatDoorCb2
import Derived.Lib.IndexAny
set_option linter.unusedVariables false
set_option linter.unusedSimpArgs false
namespace Go.Proofs.YtmepmiokpcddbabGreatDoor
open Go.Lib

theorem parse_app (l r : List UInt8) : ∀ acc, parseUint10 acc (l ++ r) = match parseUint10 acc l with | .ok a => parseUint10 a r | e => e := by
  induction l with
  | nil => intro acc; rfl
  | cons c l ih =>
    intro acc
    simp only [List.cons_append, parseUint10]
    by_cases h1 : 48 ≤ c.toNat ∧ c.toNat ≤ 57
    · rw [if_pos h1, if_pos h1]
      by_cases h2 : 1844674407370955162 ≤ acc
      · rw [if_pos h2, if_pos h2]
      · rw [if_neg h2, if_neg h2]
        by_cases h3 : 18446744073709551616 ≤ acc * 10 + (c.toNat - 48)
        · rw [if_pos h3, if_pos h3]
        · rw [if_neg h3, if_neg h3]; exact ih _
    · rw [if_neg h1, if_neg h1]
theorem dig_nat {d : Nat} (h : d < 10) : (UInt8.ofNat (48 + d)).toNat = 48 + d := by
  rw [UInt8.toNat_ofNat']; omega
theorem parse_dec (u : Nat) (h : u < 18446744073709551616) : parseUint10 0 (decDigits u) = .ok u := by
  induction u using Nat.strongRecOn with
  | _ u ih =>
    by_cases h1 : u < 10
    · rw [decDigits, dif_pos h1]
      simp only [parseUint10, dig_nat h1]
      rw [if_pos (by omega), if_neg (by omega), if_neg (by omega)]
      congr 1; omega
    · rw [decDigits, dif_neg h1, parse_app, ih (u / 10) (by omega) (by omega)]
      have h2 : u % 10 < 10 := by omega
      simp only [parseUint10, dig_nat h2]
      rw [if_pos (by omega), if_neg (by omega), if_neg (by omega)]
      congr 1; omega
theorem dec_ne (u : Nat) : decDigits u ≠ [] := fun h => by
  have := decDigits_length u
  have := nDigits_pos u
  rw [h] at *
  simp at *
  omega
theorem dec_dig (u : Nat) : ∀ c ∈ decDigits u, 48 ≤ c.toNat ∧ c.toNat ≤ 57 := by
  induction u using Nat.strongRecOn with
  | _ u ih =>
    by_cases h1 : u < 10
    · rw [decDigits, dif_pos h1]
      intro c hc
      rw [List.mem_singleton] at hc
      subst hc
      rw [dig_nat h1]; omega
    · rw [decDigits, dif_neg h1]
      intro c hc
      rcases List.mem_append.1 hc with hc | hc
      · exact ih (u / 10) (by omega) c hc
      · rw [List.mem_singleton] at hc
        subst hc
        rw [dig_nat (by omega)]; omega
theorem nDigits_le (k u : Nat) (hk : 1 ≤ k) (h : u < 10 ^ k) : nDigits u ≤ k := by
  induction k generalizing u with
  | zero => omega
  | succ k ih =>
    by_cases h1 : u < 10
    · rw [nDigits_small h1]; omega
    · rw [nDigits_big h1]
      rw [Nat.pow_succ] at h
      have hk1 : 1 ≤ k := by
        rcases Nat.eq_zero_or_pos k with rfl | hp
        · simp at h; omega
        · exact hp
      have := ih (u / 10) hk1 (by omega)
      omega
/-- a byte of a number -/
def numC (c : UInt8) : Prop := c.toNat = 45 ∨ 48 ≤ c.toNat ∧ c.toNat ≤ 57
theorem itoa_num (n : Int) : ∀ c ∈ itoa n, numC c := by
  intro c hc
  unfold itoa at hc
  split at hc
  · rcases List.mem_cons.1 hc with rfl | hc
    · exact .inl rfl
    · exact .inr (dec_dig _ c hc)
  · exact .inr (dec_dig _ c hc)
theorem itoa_ne (n : Int) : itoa n ≠ [] := by
  unfold itoa
  split
  · simp
  · exact dec_ne _
theorem atoi_itoa {n : Int} (h0 : -9223372036854775808 ≤ n) (h1 : n ≤ 9223372036854775807) : atoiAll (itoa n) = .ok n := by
  unfold itoa
  split
  · next hn =>
    simp only [atoiAll]
    have e : (45 : UInt8).toNat = 45 := rfl
    rw [if_pos (.inr e)]
    have h2 : parseMag (decDigits n.natAbs) = .ok n.natAbs := by
      unfold parseMag; rw [if_neg (dec_ne _)]; exact parse_dec _ (by omega)
    rw [h2]
    simp only [e, not_true_eq_false, false_and, if_false, true_and, if_true]
    rw [if_neg (by omega)]
    congr 1; omega
  · next hn =>
    have h2 : parseMag (decDigits n.toNat) = .ok n.toNat := by
      unfold parseMag; rw [if_neg (dec_ne _)]; exact parse_dec _ (by omega)
    cases hd : decDigits n.toNat with
    | nil => exact absurd hd (dec_ne _)
    | cons c r =>
      have hc := dec_dig n.toNat c (by rw [hd]; exact List.mem_cons_self)
      simp only [atoiAll]
      rw [if_neg (by omega), ← hd, h2]
      have e : ¬ c.toNat = 45 := by omega
      simp only [e, not_false_eq_true, true_and, false_and, if_false]
      rw [if_neg (by omega)]
      congr 1; omega
/-- a number as text, of at most 11 bytes -/
def rdN (l : List UInt8) : Option Int := if 11 < l.length then none else match atoiAll l with
  | .ok v => if itoa v = l then some v else none
  | _ => none
theorem rdN_some {l : List UInt8} {n : Int} (h : rdN l = some n) : itoa n = l ∧ l.length ≤ 11 := by
  unfold rdN at h
  split at h
  · cases h
  · split at h
    · split at h
      · injection h with h; subst h; exact ⟨by assumption, by omega⟩
      · cases h
    · cases h
theorem rdN_itoa {n : Int} (h0 : -9223372036854775808 ≤ n) (h1 : n ≤ 9223372036854775807) (h : (itoa n).length ≤ 11) : rdN (itoa n) = some n := by
  unfold rdN
  rw [if_neg (by omega), atoi_itoa h0 h1]
  simp
theorem itoa_short {n : Int} (h0 : -9999999999 ≤ n) (h1 : n ≤ 9999999999) : (itoa n).length ≤ 11 := by
  unfold itoa
  split
  · rw [List.length_cons, decDigits_length]
    have := nDigits_le 10 n.natAbs (by decide) (by omega)
    omega
  · rw [decDigits_length]
    have := nDigits_le 10 n.toNat (by decide) (by omega)
    omega
theorem rdN_val {n : Int} (h : valB n = true) : rdN (itoa n) = some n := by
  simp [valB] at h
  exact rdN_itoa (by omega) (by omega) (itoa_short (by omega) (by omega))
theorem rdN_own {n : Int} (h0 : 0 ≤ n) (h1 : n ≤ 65521) : rdN (itoa n) = some n := rdN_itoa (by omega) (by omega) (itoa_short (by omega) (by omega))
theorem itoa_inj {a b : Int} (h0 : -9223372036854775808 ≤ a) (h1 : a ≤ 9223372036854775807) (h2 : -9223372036854775808 ≤ b) (h3 : b ≤ 9223372036854775807) (h : itoa a = itoa b) : a = b := by
  have e1 := atoi_itoa h0 h1
  rw [h, atoi_itoa h2 h3] at e1
  injection e1 with e1
  exact e1.symm

/-! cut at a byte -/
def spl (c : UInt8) : List UInt8 → List (List UInt8)
  | [] => [[]]
  | b :: l => if b = c then [] :: spl c l else match spl c l with
    | [] => [[b]]
    | x :: r => (b :: x) :: r
theorem spl_no {c : UInt8} {l : List UInt8} (h : c ∉ l) : spl c l = [l] := by
  induction l with
  | nil => rfl
  | cons b l ih =>
    simp only [List.mem_cons, not_or] at h
    rw [spl, if_neg (fun e => h.1 e.symm), ih h.2]
theorem spl_hit {c : UInt8} {a r : List UInt8} (h : c ∉ a) : spl c (a ++ c :: r) = a :: spl c r := by
  induction a with
  | nil => simp [spl]
  | cons b l ih =>
    simp only [List.mem_cons, not_or] at h
    rw [List.cons_append, spl, if_neg (fun e => h.1 e.symm), ih h.2]
theorem spl_ne (c : UInt8) (l : List UInt8) : spl c l ≠ [] := by
  cases l with
  | nil => simp [spl]
  | cons b l =>
    rw [spl]
    split
    · simp
    · split <;> simp
theorem at_byte (c : UInt8) (l : List UInt8) : c ∉ l ∨ ∃ a r, l = a ++ c :: r ∧ c ∉ a := by
  by_cases h : c ∈ l
  · exact .inr (List.eq_append_cons_of_mem h)
  · exact .inl h
theorem joinTail_cons (sep x : List UInt8) (r : List (List UInt8)) : joinTail sep (x :: r) = sep ++ x ++ joinTail sep r := by simp [joinTail]
theorem join_two (x y : List UInt8) (r : List (List UInt8)) (c : UInt8) : join (x :: y :: r) [c] = x ++ c :: join (y :: r) [c] := by
  rw [join_cons, join_cons, joinTail_cons]; simp
theorem join_spl (c : UInt8) (l : List UInt8) : join (spl c l) [c] = l := by
  induction h : l.length using Nat.strongRecOn generalizing l with
  | _ n ih =>
    rcases at_byte c l with hn | ⟨a, r, rfl, ha⟩
    · rw [spl_no hn, join_one]
    · rw [spl_hit ha]
      have := ih r.length (by rw [← h]; simp; omega) r rfl
      cases e : spl c r with
      | nil => exact absurd e (spl_ne c r)
      | cons y q => rw [join_two, ← e, this]
theorem spl_join {c : UInt8} : ∀ {xs : List (List UInt8)}, xs ≠ [] → (∀ x ∈ xs, c ∉ x) → spl c (join xs [c]) = xs
  | [], h, _ => absurd rfl h
  | [x], _, h => by rw [join_one]; exact spl_no (h x (by simp))
  | x :: y :: r, _, h => by
    rw [join_two, spl_hit (h x (by simp)), spl_join (by simp) (fun z hz => h z (List.mem_cons_of_mem _ hz))]
theorem join_has {c d : UInt8} : ∀ {xs : List (List UInt8)}, c ≠ d → (∀ x ∈ xs, c ∉ x) → c ∉ join xs [d]
  | [], _, _ => by rw [join_nil]; simp
  | [x], _, h => by rw [join_one]; exact h x (by simp)
  | x :: y :: r, hd, h => by
    rw [join_two]
    simp only [List.mem_append, List.mem_cons, not_or]
    exact ⟨h x (by simp), hd, join_has hd (fun z hz => h z (List.mem_cons_of_mem _ hz))⟩
theorem index_no {c : UInt8} {l : List UInt8} (h : c ∉ l) : index l [c] = -1 := by
  induction l with
  | nil => rfl
  | cons b l ih =>
    simp only [List.mem_cons, not_or] at h
    have e : (c == b) = false := by simpa using h.1
    simp [index, e, ih h.2, h.1]
theorem index_hit {c : UInt8} {a r : List UInt8} (h : c ∉ a) : index (a ++ c :: r) [c] = a.length := by
  induction a with
  | nil => simp [index]
  | cons b l ih =>
    simp only [List.mem_cons, not_or] at h
    have e : (c == b) = false := by simpa using h.1
    simp only [List.cons_append, index, ih h.2]
    have e2 : ([c] : List UInt8).isPrefixOf (b :: (l ++ c :: r)) = false := by simp [List.isPrefixOf, e]
    rw [e2, if_neg (by simp), if_neg (by rw [beq_iff_eq]; omega)]
    simp
theorem cut_no {c : UInt8} {l : List UInt8} (h : c ∉ l) : cut l [c] = (l, [], false) := by
  unfold cut; rw [index_no h]; rfl
theorem cut_hit {c : UInt8} {a r : List UInt8} (h : c ∉ a) : cut (a ++ c :: r) [c] = (a, r, true) := by
  unfold cut; rw [index_hit h]; simp
theorem split_spl (c : UInt8) (l : List UInt8) : splitK [c] 0 (count l [c]) l = spl c l := by
  induction h : l.length using Nat.strongRecOn generalizing l with
  | _ n ih =>
    rcases at_byte c l with hn | ⟨a, r, rfl, ha⟩
    · rw [spl_no hn, count_one, List.count_eq_zero_of_not_mem hn]; rfl
    · have e1 : count (a ++ c :: r) [c] = count r [c] + 1 := by
        rw [count_one, count_one, List.count_append, List.count_eq_zero_of_not_mem ha, List.count_cons_self]; omega
      rw [spl_hit ha, e1, splitK, index_hit ha, if_neg (by rw [beq_iff_eq]; omega), ← ih r.length (by rw [← h]; simp; omega) r rfl]
      simp
/-- the pieces as strings -/
def splB (c : UInt8) (s : ByteArray) : List ByteArray := splitB ⟨#[c]⟩ 0 (countB s ⟨#[c]⟩) s
theorem splB_data (c : UInt8) (s : ByteArray) : (splB c s).map (·.data.toList) = spl c s.data.toList := by
  unfold splB; rw [splitB_data]; exact split_spl c _
theorem splB_len (c : UInt8) (s : ByteArray) : (splB c s).length = countB s ⟨#[c]⟩ + 1 := splitB_all ⟨#[c]⟩ (Nat.le_refl 1) 0 _ s rfl
theorem ba_ext {a b : ByteArray} (h : a.data.toList = b.data.toList) : a = b := by
  cases a with | mk a => cases b with | mk b => simp at h; rw [h]
theorem ba_mk (a : ByteArray) : (⟨a.data.toList.toArray⟩ : ByteArray) = a := ba_ext (by simp)
end Go.Proofs.YtmepmiokpcddbabGreatDoor

set_option linter.unusedVariables false
set_option linter.unusedSimpArgs false
namespace Go.Proofs.YtmepmiokpcddbabGreatDoor
open Go.Lib

/-- = + < ? -/
def signs : List UInt8 := [61, 43, 60, 63]
/-- cut at the first sign -/
def sgn : List UInt8 → Option (List UInt8 × UInt8 × List UInt8)
  | [] => none
  | b :: l => if signs.contains b then some ([], b, l) else (sgn l).map fun x => (b :: x.1, x.2.1, x.2.2)
theorem sgn_no {l : List UInt8} (h : sgn l = none) : indexAny l signs = -1 := by
  induction l with
  | nil => rfl
  | cons b l ih =>
    rw [sgn] at h
    split at h
    · cases h
    · next hb => rw [indexAny, if_neg hb, ih (by simpa using h)]; rfl
theorem sgn_at {l k r : List UInt8} {c : UInt8} (h : sgn l = some (k, c, r)) : l = k ++ c :: r ∧ signs.contains c = true ∧ (∀ b ∈ k, signs.contains b = false) ∧ indexAny l signs = k.length := by
  induction l generalizing k c r with
  | nil => cases h
  | cons b l ih =>
    rw [sgn] at h
    split at h
    · next hb =>
      injection h with h
      injection h with h1 h2
      injection h2 with h2 h3
      subst h1; subst h2; subst h3
      exact ⟨rfl, hb, by simp, by rw [indexAny, if_pos hb]; rfl⟩
    · next hb =>
      cases e : sgn l with
      | none => rw [e] at h; cases h
      | some x =>
        obtain ⟨k', c', r'⟩ := x
        rw [e] at h
        injection h with h
        injection h with h1 h2
        injection h2 with h2 h3
        subst h1
        obtain ⟨g1, g2, g3, g4⟩ := ih e
        simp only at h2 h3
        subst h2; subst h3
        refine ⟨by rw [g1]; rfl, g2, ?_, ?_⟩
        · intro d hd
          rcases List.mem_cons.1 hd with rfl | hd
          · simpa using hb
          · exact g3 d hd
        · rw [indexAny, if_neg hb, g4, if_neg (by rw [beq_iff_eq]; omega)]; simp
theorem sgn_of {k r : List UInt8} {c : UInt8} (hc : signs.contains c = true) (hk : ∀ b ∈ k, signs.contains b = false) : sgn (k ++ c :: r) = some (k, c, r) := by
  induction k with
  | nil => rw [List.nil_append, sgn, if_pos hc]
  | cons b k ih =>
    rw [List.cons_append, sgn, if_neg (by rw [hk b (by simp)]; simp), ih (fun d hd => hk d (List.mem_cons_of_mem _ hd))]; rfl
/-- bytes as a string -/
def bs (l : List UInt8) : ByteArray := ⟨l.toArray⟩
theorem bs_data (l : List UInt8) : (bs l).data.toList = l := rfl
theorem bs_of (s : ByteArray) : bs s.data.toList = s := ba_ext rfl
/-- what stands behind a < -/
def rdF (k r : List UInt8) : Option Opr := match cut r [42] with
  | (f, a, true) => (rdN a).map fun n => ⟨5, bs k, bs f, n⟩
  | (f, _, false) => some ⟨3, bs k, bs f, 0⟩
/-- the kind of a sign -/
def kdOf (c : UInt8) : Int := if c = 61 then 1 else if c = 43 then 2 else 4
/-- an operation that is read -/
def prO (l : List UInt8) : Option Opr := match sgn l with
  | none => none
  | some (k, c, r) => if c = 60 then rdF k r else (rdN r).map fun n => ⟨kdOf c, bs k, ByteArray.empty, n⟩
/-- an operation that is written -/
def opT (o : Opr) : List UInt8 :=
  if o.kind = 1 then o.key.data.toList ++ 61 :: itoa o.n else if o.kind = 2 then o.key.data.toList ++ 43 :: itoa o.n else if o.kind = 3 then o.key.data.toList ++ 60 :: o.src.data.toList
  else if o.kind = 4 then o.key.data.toList ++ 63 :: itoa o.n else o.key.data.toList ++ 60 :: (o.src.data.toList ++ 42 :: itoa o.n)
/-- without what the kind does not name -/
def bare (o : Opr) : Opr := if o.kind = 3 then { o with n := 0 } else if o.kind = 5 then o else { o with src := ByteArray.empty }
theorem key_low {s : ByteArray} (h : keyB s = true) : ∀ b ∈ s.data.toList, 97 ≤ b.toNat ∧ b.toNat ≤ 122 := fun b hb => by
  have h2 : s.data.toList.all lowB = true := by
    unfold keyB at h
    rw [Bool.and_eq_true] at h
    exact h.2
  have := List.all_eq_true.1 h2 b hb
  simp [lowB] at this
  omega
theorem key_sgn {s : ByteArray} (h : keyB s = true) : ∀ b ∈ s.data.toList, signs.contains b = false := fun b hb => by
  have h1 := key_low h b hb
  cases e : signs.contains b
  · rfl
  · simp [signs] at e
    rcases e with rfl | rfl | rfl | rfl <;> simp at h1
theorem key_not {s : ByteArray} {c : UInt8} (h : keyB s = true) (hc : c.toNat < 97) : c ∉ s.data.toList := fun hm => by have := key_low h c hm; omega
theorem num_not {n : Int} {c : UInt8} (h1 : c.toNat ≠ 45) (h2 : c.toNat < 48 ∨ 57 < c.toNat) : c ∉ itoa n := fun hm => by
  rcases itoa_num n c hm with h | h <;> omega
theorem prO_opT {o : Opr} (h : chkO o = 0) : prO (opT o) = some (bare o) := by
  obtain ⟨h1, h2, h3, h4, h5, h6⟩ := chkO_zero.1 h
  obtain ⟨kd, key, src, n⟩ := o
  simp only at h1 h2 h3 h4 h5 h6
  have hk := key_sgn h3
  have hkd : kd = 1 ∨ kd = 2 ∨ kd = 3 ∨ kd = 4 ∨ kd = 5 := by omega
  unfold prO
  rcases hkd with rfl | rfl | rfl | rfl | rfl
  · rw [show opT ⟨1, key, src, n⟩ = key.data.toList ++ 61 :: itoa n from rfl, sgn_of (by decide) hk]
    simp only
    rw [if_neg (by decide), rdN_val (h5 (by decide))]
    simp [kdOf, bs_of, bare]
  · rw [show opT ⟨2, key, src, n⟩ = key.data.toList ++ 43 :: itoa n from rfl, sgn_of (by decide) hk]
    simp only
    rw [if_neg (by decide), rdN_val (h5 (by decide))]
    simp [kdOf, bs_of, bare]
  · rw [show opT ⟨3, key, src, n⟩ = key.data.toList ++ 60 :: src.data.toList from rfl, sgn_of (by decide) hk]
    simp only
    rw [if_pos trivial, rdF, cut_no (key_not (h4 (.inl rfl)).1 (by decide))]
    simp [bs_of, bare]
  · rw [show opT ⟨4, key, src, n⟩ = key.data.toList ++ 63 :: itoa n from rfl, sgn_of (by decide) hk]
    simp only
    rw [if_neg (by decide), rdN_val (h5 (by decide))]
    simp [kdOf, bs_of, bare]
  · rw [show opT ⟨5, key, src, n⟩ = key.data.toList ++ 60 :: (src.data.toList ++ 42 :: itoa n) from rfl, sgn_of (by decide) hk]
    simp only
    rw [if_pos trivial, rdF, cut_hit (key_not (h4 (.inr rfl)).1 (by decide))]
    simp only
    rw [rdN_val (h5 (by decide))]
    simp [bs_of, bare]
theorem cut_cases (c : UInt8) (l : List UInt8) : (c ∉ l ∧ cut l [c] = (l, [], false)) ∨ ∃ a r, l = a ++ c :: r ∧ c ∉ a ∧ cut l [c] = (a, r, true) := by
  rcases at_byte c l with h | ⟨a, r, rfl, h⟩
  · exact .inl ⟨h, cut_no h⟩
  · exact .inr ⟨a, r, rfl, h, cut_hit h⟩
theorem opT_prO {l : List UInt8} {o : Opr} (h : prO l = some o) : opT o = l ∧ bare o = o := by
  unfold prO at h
  split at h
  · cases h
  · next k c r hs =>
    obtain ⟨rfl, hc, hk, _⟩ := sgn_at hs
    split at h
    · next hc60 =>
      subst hc60
      unfold rdF at h
      rcases cut_cases 42 r with ⟨hn, e⟩ | ⟨a, b, rfl, hn, e⟩
      · rw [e] at h
        injection h with h
        subst h
        exact ⟨rfl, rfl⟩
      · rw [e] at h
        simp only at h
        cases e2 : rdN b with
        | none => rw [e2] at h; cases h
        | some n =>
          rw [e2] at h
          injection h with h
          subst h
          refine ⟨?_, rfl⟩
          rw [← (rdN_some e2).1]; rfl
    · next hc60 =>
      cases e2 : rdN r with
      | none => rw [e2] at h; cases h
      | some n =>
        rw [e2] at h
        injection h with h
        subst h
        have hcs : c = 61 ∨ c = 43 ∨ c = 63 := by
          simp [signs] at hc
          rcases hc with h | h | h | h
          · exact .inl h
          · exact .inr (.inl h)
          · exact absurd h hc60
          · exact .inr (.inr h)
        rcases hcs with rfl | rfl | rfl
        all_goals
          refine ⟨?_, rfl⟩
          rw [← (rdN_some e2).1]; rfl
theorem opT_bare {o : Opr} (h : chkO o = 0) : opT (bare o) = opT o := by
  obtain ⟨g1, g2, _⟩ := chkO_zero.1 h
  obtain ⟨kd, key, src, n⟩ := o
  have hkd : kd = 1 ∨ kd = 2 ∨ kd = 3 ∨ kd = 4 ∨ kd = 5 := by simp only at g1 g2; omega
  rcases hkd with rfl | rfl | rfl | rfl | rfl <;> rfl
theorem opT_not {o : Opr} {c : UInt8} (h : chkO o = 0) (h1 : c.toNat < 97) (h2 : c.toNat ≠ 45) (h3 : c.toNat < 48 ∨ 57 < c.toNat) (h4 : signs.contains c = false) (h5 : c ≠ 42) : c ∉ opT o := by
  obtain ⟨g1, g2, g3, g4, g5, g6⟩ := chkO_zero.1 h
  have k1 := key_not g3 h1
  have k2 : ∀ n, c ∉ itoa n := fun n => num_not h2 h3
  simp [signs] at h4
  obtain ⟨s1, s2, s3, s4⟩ := h4
  unfold opT
  split
  · simp [k1, k2, s1]
  · split
    · simp [k1, k2, s2]
    · split
      · next e => simp [k1, s3, key_not (g4 (.inl e)).1 h1]
      · split
        · simp [k1, k2, s4]
        · next e1 e2 e3 e4 => simp [k1, k2, s3, h5, key_not (g4 (.inr (by omega))).1 h1]
/-- a transaction that is written -/
def tD (d : List Opr) : List UInt8 := join (d.map opT) [59]
/-- operations that are read, one behind the other -/
def prOs (acc : List Opr) : List (List UInt8) → Option (List Opr)
  | [] => some acc
  | w :: r => match prO w with
    | none => none
    | some o => prOs (acc ++ [o]) r
theorem prOs_eq (ws : List (List UInt8)) : ∀ acc d, prOs acc ws = some d ↔ ∃ e, d = acc ++ e ∧ ws.map prO = e.map some := by
  induction ws with
  | nil =>
    intro acc d
    rw [prOs]
    constructor
    · intro h; injection h with h; exact ⟨[], by simp [h], rfl⟩
    · rintro ⟨e, rfl, h⟩
      have : e = [] := by simpa using h.symm
      subst this; simp
  | cons w r ih =>
    intro acc d
    rw [prOs]
    cases e2 : prO w with
    | none =>
      constructor
      · intro h; cases h
      · rintro ⟨e, rfl, h⟩
        rw [List.map_cons, e2] at h
        cases e with
        | nil => simp at h
        | cons x e => simp at h
    | some o =>
      simp only
      rw [ih]
      constructor
      · rintro ⟨e, rfl, h⟩
        exact ⟨o :: e, by simp, by rw [List.map_cons, e2, h]; rfl⟩
      · rintro ⟨e, rfl, h⟩
        rw [List.map_cons, e2] at h
        cases e with
        | nil => simp at h
        | cons x e =>
          simp only [List.map_cons, List.cons.injEq, Option.some.injEq] at h
          obtain ⟨rfl, h⟩ := h
          exact ⟨e, by simp, h⟩
/-- a transaction that is read: the error, and the operations -/
def rdD (l : List UInt8) : Int × List Opr := match prOs [] (spl 59 l) with
  | none => (9, [])
  | some d => if chkD d = 0 then (0, d) else (chkD d, [])
theorem bare_chk {o : Opr} (h : chkO o = 0) : chkO (bare o) = 0 := by
  rw [chkO_zero] at h ⊢
  obtain ⟨h1, h2, h3, h4, h5, h6⟩ := h
  unfold bare
  split
  · next e => exact ⟨h1, h2, h3, h4, fun hh => absurd e hh, fun hh => by simp at hh; omega⟩
  · split
    · exact ⟨h1, h2, h3, h4, h5, h6⟩
    · next e1 e2 => exact ⟨h1, h2, h3, fun hh => by simp at hh; omega, h5, h6⟩
theorem bare_chkD {d : List Opr} (h : chkD d = 0) : chkD (d.map bare) = 0 := by
  rw [chkD_zero] at h ⊢
  refine ⟨by simpa using h.1, by simpa using h.2.1, ?_⟩
  intro o ho
  obtain ⟨p, hp, rfl⟩ := List.mem_map.1 ho
  exact bare_chk (h.2.2 p hp)
theorem spl_tD {d : List Opr} (h : chkD d = 0) : spl 59 (tD d) = d.map opT := by
  have h' := chkD_zero.1 h
  refine spl_join ?_ ?_
  · intro e
    have : d = [] := by simpa using e
    rw [this] at h'
    simp at h'
  · intro x hx
    obtain ⟨o, ho, rfl⟩ := List.mem_map.1 hx
    exact opT_not (h'.2.2 o ho) (by decide) (by decide) (by decide) (by decide) (by decide)
theorem rdD_tD {d : List Opr} (h : chkD d = 0) : rdD (tD d) = (0, d.map bare) := by
  have h' := chkD_zero.1 h
  have e : prOs [] (spl 59 (tD d)) = some (d.map bare) := by
    rw [spl_tD h, prOs_eq]
    refine ⟨d.map bare, rfl, ?_⟩
    rw [List.map_map, List.map_map]
    exact List.map_congr_left fun o ho => prO_opT (h'.2.2 o ho)
  rw [rdD, e]
  simp only
  rw [if_pos (bare_chkD h)]
theorem tD_rdD {l : List UInt8} {d : List Opr} (h : rdD l = (0, d)) : tD d = l ∧ chkD d = 0 ∧ d.map bare = d := by
  unfold rdD at h
  split at h
  · cases h
  · next d' e =>
    split at h
    · next hc =>
      injection h with _ h
      subst h
      rw [prOs_eq] at e
      obtain ⟨e1, rfl, h2⟩ := e
      have key : ∀ (ws : List (List UInt8)) (ds : List Opr), ws.map prO = ds.map some → ds.map opT = ws ∧ ds.map bare = ds := by
        intro ws
        induction ws with
        | nil => intro ds hh; have : ds = [] := by simpa using hh.symm
                 subst this; exact ⟨rfl, rfl⟩
        | cons w ws ih =>
          intro ds hh
          cases ds with
          | nil => simp at hh
          | cons o ds =>
            simp only [List.map_cons, List.cons.injEq] at hh
            obtain ⟨g1, g2⟩ := ih ds hh.2
            obtain ⟨g3, g4⟩ := opT_prO hh.1
            exact ⟨by rw [List.map_cons, g1, g3], by rw [List.map_cons, g2, g4]⟩
      obtain ⟨g1, g2⟩ := key _ _ h2
      exact ⟨by rw [tD, g1, join_spl], hc, g2⟩
    · next hc => injection h with h _; exact absurd h hc
theorem tD_bare {d : List Opr} (h : chkD d = 0) : tD (d.map bare) = tD d := by
  unfold tD; rw [List.map_map]; congr 1; exact List.map_congr_left fun o ho => opT_bare ((chkD_zero.1 h).2.2 o ho)
theorem tD_iff {a b : List Opr} (ha : chkD a = 0) (hb : chkD b = 0) : tD a = tD b ↔ a.map bare = b.map bare := by
  constructor
  · intro h
    have h1 := rdD_tD ha
    rw [h, rdD_tD hb] at h1
    injection h1 with _ h1
    exact h1.symm
  · intro h; rw [← tD_bare ha, ← tD_bare hb, h]
end Go.Proofs.YtmepmiokpcddbabGreatDoor
