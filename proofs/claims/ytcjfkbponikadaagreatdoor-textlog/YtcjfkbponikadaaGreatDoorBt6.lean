/-
  The sum of a text, the last space of a line, plainly (no program in it).
  text.Sum: what it answers.
  The byte order of keys, and lists of pairs that are sorted by it (no program in it).
  Partition maps, plainly (no program in it).
-/
import Derived.Test.YtcjfkbponikadaaGreatDoorBt2
import Derived.Test.YtcjfkbponikadaaGreatDoorBt5
import Derived.Lib.Bytealg
set_option linter.unusedVariables false
set_option linter.unusedSimpArgs false
namespace Go.Proofs.YtcjfkbponikadaaGreatDoor
open Go.Lib

/-- each byte times its place -/
def wsum (i : Nat) : List UInt8 → Nat
  | [] => 0
  | b :: l => b.toNat * (i + 1) + wsum (i + 1) l
/-- the sum of a text -/
def sm (l : List UInt8) : Nat := wsum 0 l % 65521
theorem wsum_app (a b : List UInt8) : ∀ i, wsum i (a ++ b) = wsum i a + wsum (i + a.length) b := by
  induction a with
  | nil => intro i; simp [wsum]
  | cons x a ih =>
    intro i
    rw [List.cons_append, wsum, wsum, ih, List.length_cons, show i + 1 + a.length = i + (a.length + 1) by omega, Nat.add_assoc]
theorem sm_step {l : List UInt8} {k : Nat} (h : k < l.length) : sm (l.take (k + 1)) = (sm (l.take k) + l[k].toNat * (k + 1)) % 65521 := by
  unfold sm
  rw [List.take_succ_eq_append_getElem h, wsum_app]
  have e : 0 + (l.take k).length = k := by simp; omega
  rw [e, wsum, wsum, Nat.add_zero]
  generalize wsum 0 (l.take k) = p
  generalize l[k].toNat * (k + 1) = q
  omega
theorem sm_lt (l : List UInt8) : sm l < 65521 := Nat.mod_lt _ (by decide)
/-- from behind -/
def smB (l : List UInt8) (k : Nat) : Nat := wsum k (l.drop k) % 65521
theorem smB_step {l : List UInt8} {k : Nat} (h : k < l.length) : smB l k = (smB l (k + 1) + (k + 1) * l[k].toNat) % 65521 := by
  unfold smB
  rw [List.drop_eq_getElem_cons h, wsum, Nat.mul_comm (k + 1)]
  generalize wsum (k + 1) (l.drop (k + 1)) = p
  generalize l[k].toNat * (k + 1) = q
  omega
theorem smB_zero (l : List UInt8) : smB l 0 = sm l := rfl
theorem smB_end (l : List UInt8) : smB l l.length = 0 := by unfold smB; rw [List.drop_length]; rfl
/-- one byte is another one: the sum differs -/
theorem sm_set {l : List UInt8} {i : Nat} {v : UInt8} (h : i < l.length) (hl : l.length ≤ 256) (hv : v ≠ l[i]) : sm (l.set i v) ≠ sm l := by
  intro e
  have e1 : l = l.take i ++ l[i] :: l.drop (i + 1) := by rw [← List.drop_eq_getElem_cons h, List.take_append_drop]
  have e2 : l.set i v = l.take i ++ v :: l.drop (i + 1) := by
    rw [List.set_eq_take_append_cons_drop, if_pos h]
  have hi : (l.take i).length = i := by simp; omega
  unfold sm at e
  rw [e2] at e
  rw [show wsum 0 l = wsum 0 (l.take i ++ l[i] :: l.drop (i + 1)) from congrArg _ e1] at e
  rw [wsum_app, wsum_app, wsum, wsum, hi] at e
  have hne : v.toNat ≠ l[i].toNat := fun h => hv (UInt8.toNat_inj.1 h)
  have b1 := v.toNat_lt
  have b2 := (l[i]).toNat_lt
  generalize wsum 0 (l.take i) = p at e
  generalize wsum (0 + i + 1) (l.drop (i + 1)) = q at e
  generalize v.toNat = a at *
  generalize (l[i]).toNat = b at *
  have hm : i + 1 ≤ 256 := by omega
  rw [Nat.zero_add] at e
  generalize hs : i + 1 = s at *
  have h1 : a * s + (p + q) = a * s + (p + q) := rfl
  rcases Nat.lt_or_ge a b with hab | hab
  · obtain ⟨d, rfl⟩ : ∃ d, b = a + d := ⟨b - a, by omega⟩
    have hd : d * s ≤ 255 * 256 := Nat.mul_le_mul (by omega) hm
    have hd1 : 1 ≤ d * s := Nat.mul_pos (by omega) (by omega)
    rw [Nat.add_mul] at e
    generalize d * s = x at *
    generalize a * s = y at *
    omega
  · obtain ⟨d, rfl⟩ : ∃ d, a = b + d := ⟨a - b, by omega⟩
    have hd : d * s ≤ 255 * 256 := Nat.mul_le_mul (by omega) hm
    have hd1 : 1 ≤ d * s := Nat.mul_pos (by omega) (by omega)
    rw [Nat.add_mul] at e
    generalize d * s = x at *
    generalize b * s = y at *
    omega

/-! the last space -/
theorem at_last (c : UInt8) (l : List UInt8) : c ∉ l ∨ ∃ a r, l = a ++ c :: r ∧ c ∉ r := by
  rcases at_byte c l.reverse with h | ⟨a, r, h1, h2⟩
  · exact .inl (fun hm => h (List.mem_reverse.2 hm))
  · refine .inr ⟨r.reverse, a.reverse, ?_, fun hm => h2 (List.mem_reverse.1 hm)⟩
    have := congrArg List.reverse h1
    simpa using this
theorem occ_at (c : UInt8) (l : List UInt8) (j : Nat) : occAt l [c] j = decide (l[j]? = some c) := by
  unfold occAt
  by_cases h : j < l.length
  · rw [List.drop_eq_getElem_cons h, List.getElem?_eq_getElem h]
    simp only [List.isPrefixOf, Bool.and_true]
    by_cases e : c = l[j]
    · simp [e]
    · have : ¬ l[j] = c := fun h => e h.symm
      simp [e, this]
  · rw [List.drop_of_length_le (by omega), List.getElem?_eq_none (by omega)]
    simp [List.isPrefixOf]
theorem last_no {c : UInt8} {l : List UInt8} (h : c ∉ l) : lastIndex l [c] = -1 := by
  unfold lastIndex
  split
  · rcases lastOcc_spec l [c] (l.length - [c].length + 1) with ⟨h1, _⟩ | ⟨i, _, _, h2, _⟩
    · exact h1
    · rw [occ_at] at h2
      exact absurd (List.mem_of_getElem? (of_decide_eq_true h2)) h
  · rfl
theorem last_hit {c : UInt8} {a r : List UInt8} (h : c ∉ r) : lastIndex (a ++ c :: r) [c] = a.length := by
  unfold lastIndex
  rw [if_pos (by simp; omega)]
  have hl : (a ++ c :: r).length - [c].length + 1 = a.length + r.length + 1 := by simp
  rw [hl]
  have ho : occAt (a ++ c :: r) [c] a.length = true := by rw [occ_at]; simp
  rcases lastOcc_spec (a ++ c :: r) [c] (a.length + r.length + 1) with ⟨_, h2⟩ | ⟨i, hi, h1, h2, h3⟩
  · have := h2 a.length (by omega)
    rw [ho] at this; cases this
  · rw [h1]
    rcases Nat.lt_trichotomy i a.length with hlt | heq | hgt
    · have := h3 a.length hlt (by omega)
      rw [ho] at this; cases this
    · rw [heq]
    · rw [occ_at] at h2
      have h4 := of_decide_eq_true h2
      rw [List.getElem?_append_right (by omega)] at h4
      obtain ⟨m, hm⟩ : ∃ m, i - a.length = m + 1 := ⟨i - a.length - 1, by omega⟩
      rw [hm, List.getElem?_cons_succ] at h4
      exact absurd (List.mem_of_getElem? h4) h
end Go.Proofs.YtcjfkbponikadaaGreatDoor

set_option linter.unusedVariables false
set_option linter.unusedSimpArgs false
namespace Go.Proofs.YtcjfkbponikadaaGreatDoor
open Go.RowKit
open Go.Lib hiding intOf

theorem sm_next (s : ByteArray) (k : Nat) (h : k < s.size) : sm (s.data.toList.take (k + 1)) = (sm (s.data.toList.take k) + (s[k]'h).toNat * (k + 1)) % 65521 := by
  have h' : k < s.data.toList.length := by simpa using h
  rw [sm_step h']; rfl
theorem wrap64_small {x : Int} (h0 : -9223372036854775808 ≤ x) (h1 : x ≤ 9223372036854775807) : wrap64 x = x := by
  have h : IntKind.i64.wrap x = x := by simp only [IntKind.wrap_i64]; omega
  first
  | exact h
  | (unfold wrap64; omega)
  | (simp only [wrap64]; omega)
set_option maxHeartbeats 1000000 in
theorem sum_any (s : ByteArray) (w : World) (hs : s.size ≤ 1099511627776) :
    Calls Tryz.prog 22 #[.string s] w fun e w' => e = .returned (.int .i64 (sm s.data.toList : Int)) ∧ w = w' := by
  go_enter Tryz.func22, Tryz.ntmps22
  go_wp2_with fail
  go_loop [3, 7] (fun a i => ∃ k : Nat, k ≤ s.size ∧ i = .int .i64 k ∧ a = .int .i64 (sm (s.data.toList.take k) : Int)) (fun _ i => s.size - (intOf i).toNat)
  case atStart => exact ⟨0, Nat.zero_le _, rfl, rfl⟩
  case round =>
    obtain ⟨k, hk, rfl, rfl⟩ := hrel
    by_cases hlt : k < s.size
    · have hlt' : (k : Int) < (s.size : Int) := by omega
      have hst := sm_next s k hlt
      have hS := sm_lt (s.data.toList.take k)
      have hB := (s[k]'hlt).toNat_lt
      generalize sm (s.data.toList.take k) = S at hst hS ⊢
      obtain ⟨P, hP⟩ : ∃ P : Nat, (s[k]'hlt).toNat * (k + 1) = P := ⟨_, rfl⟩
      have hPb : P ≤ 255 * (k + 1) := by rw [← hP]; exact Nat.mul_le_mul_right _ (by omega)
      have p1 : IntKind.i64.wrap ((k : Int) + 1) = (k : Int) + 1 := by simp only [IntKind.wrap_i64]; omega
      have p0 : (((s[k]'hlt).toNat : Int) * ((k : Int) + 1)) = (P : Int) := by rw [← hP]; push_cast; rfl
      have p2 : IntKind.i64.wrap (P : Int) = (P : Int) := by simp only [IntKind.wrap_i64]; omega
      have p3 : IntKind.i64.wrap ((S : Int) + (P : Int)) = (S : Int) + (P : Int) := by simp only [IntKind.wrap_i64]; omega
      have p4 : ((S : Int) + (P : Int)).tmod 65521 = (((S + P) % 65521 : Nat) : Int) := by rw [Int.tmod_eq_emod_of_nonneg (by omega)]; omega
      have p5 : IntKind.i64.wrap (((S + P) % 65521 : Nat) : Int) = (((S + P) % 65521 : Nat) : Int) := by simp only [IntKind.wrap_i64]; omega
      have KEY := hideP (show (wrap64 ((S : Int) + wrap64 (wrap64 ((s[k]'hlt).toNat : Int) * ((k : Int) + 1)))).tmod 65521 = (((S + P) % 65521 : Nat) : Int) by
        rw [wrap64_small (x := ((s[k]'hlt).toNat : Int)) (by omega) (by omega), p0, wrap64_small (x := (P : Int)) (by omega) (by omega), wrap64_small (by omega) (by omega), p4])
      rw [hP] at hst
      have HST := hideP hst
      clear hst hP hS hB hPb
      go_wp2_with fail
      go_round
      case rel => exact ⟨k + 1, by omega, by go_num, by rw [HST.out, ← KEY.out]⟩
      case measure => simp [intOf]; omega
    · have hke : k = s.size := by omega
      subst hke
      have HE := hideP (show s.data.toList.take s.size = s.data.toList from List.take_of_length_le (by simp))
      rw [HE.out]
      generalize hS : sm s.data.toList = S at ⊢
      have HS := hideP hS
      clear hS
      go_wp2_with fail
      go_ret
      exact ⟨by rw [HS.out]; rfl, rfl⟩
end Go.Proofs.YtcjfkbponikadaaGreatDoor

set_option linter.unusedVariables false
set_option linter.unusedSimpArgs false
namespace Go.Proofs.YtcjfkbponikadaaGreatDoor
open Go.RowKit

theorem bLess : ∀ (x y : List UInt8), Op.bytesLess x y = decide (x < y)
  | [], [] => by simp [Op.bytesLess]
  | _ :: _, [] => by simp [Op.bytesLess]
  | [], _ :: _ => by simp [Op.bytesLess]
  | a :: x, b :: y => by
    rw [Op.bytesLess, bLess x y]
    simp only [List.cons_lt_cons_iff]
    by_cases h1 : a < b <;> by_cases h2 : a = b <;> by_cases h3 : x < y <;> simp [h1, h2, h3]

/-- bytes of a key -/
abbrev by8 (a : ByteArray) : List UInt8 := a.data.toList
theorem by8_inj {a b : ByteArray} (h : by8 a = by8 b) : a = b := by
  cases a; cases b; simp [by8, Array.toList_inj] at h; simp [h]
theorem ltB_iff {a b : ByteArray} : ltB a b = true ↔ by8 a < by8 b := by unfold ltB; rw [bLess, ByteArray.toList_eq, ByteArray.toList_eq]; simp
theorem ltB_no {a b : ByteArray} : ltB a b = false ↔ ¬ by8 a < by8 b := by rw [← ltB_iff]; simp
theorem ltB_irrefl (a : ByteArray) : ltB a a = false := by rw [ltB_no]; exact List.lt_irrefl _
theorem ltB_trans {a b c : ByteArray} (h : ltB a b = true) (k : ltB b c = true) : ltB a c = true := by
  rw [ltB_iff] at *; exact List.lt_trans h k
theorem ltB_asymm {a b : ByteArray} (h : ltB a b = true) : ltB b a = false := by
  rw [ltB_iff] at h; rw [ltB_no]; exact List.lt_asymm h
theorem ltB_ne {a b : ByteArray} (h : ltB a b = true) : a ≠ b := fun e => by rw [e, ltB_irrefl] at h; cases h
theorem ltB_total {a b : ByteArray} (h : ltB a b = false) (k : ltB b a = false) : a = b := by
  rw [ltB_no] at *
  exact by8_inj (List.le_antisymm (List.not_lt.1 k) (List.not_lt.1 h))
theorem leB_iff {a b : ByteArray} : leB a b = true ↔ ltB b a = false := by
  unfold leB; rw [ByteArray.toList_eq, ByteArray.toList_eq, bLess]
  constructor
  · intro h
    simp only [Bool.or_eq_true, decide_eq_true_eq, beq_iff_eq] at h
    rcases h with h | h
    · exact ltB_asymm (ltB_iff.2 h)
    · rw [by8_inj h]; exact ltB_irrefl _
  · intro h
    cases k : ltB a b
    · have := ltB_total k h; subst this; simp
    · rw [ltB_iff] at k; simp [k]
theorem leB_no {a b : ByteArray} : leB a b = false ↔ ltB b a = true := by
  have := @leB_iff a b
  cases h : leB a b <;> cases k : ltB b a <;> simp_all

theorem cmp_neg : ∀ (x y : List UInt8), Lib.compareBytes x y < 0 ↔ x < y
  | [], [] => by simp [Lib.compareBytes]
  | _ :: _, [] => by simp [Lib.compareBytes]
  | [], _ :: _ => by simp [Lib.compareBytes]
  | a :: x, b :: y => by
    simp only [Lib.compareBytes, List.cons_lt_cons_iff]
    by_cases h1 : a < b
    · simp [h1]
    · by_cases h2 : b < a
      · have : a ≠ b := fun e => by subst e; exact h1 h2
        simp [h1, h2, this]
      · have : a = b := UInt8.le_antisymm (UInt8.not_lt.1 h2) (UInt8.not_lt.1 h1)
        subst this
        simp [cmp_neg x y]
theorem cmp_zero : ∀ (x y : List UInt8), Lib.compareBytes x y = 0 ↔ x = y
  | [], [] => by simp [Lib.compareBytes]
  | _ :: _, [] => by simp [Lib.compareBytes]
  | [], _ :: _ => by simp [Lib.compareBytes]
  | a :: x, b :: y => by
    simp only [Lib.compareBytes, List.cons.injEq]
    by_cases h1 : a < b
    · have : a ≠ b := fun e => by subst e; exact UInt8.lt_irrefl a h1
      simp [h1, this]
    · by_cases h2 : b < a
      · have : a ≠ b := fun e => by subst e; exact h1 h2
        simp [h1, h2, this]
      · have : a = b := UInt8.le_antisymm (UInt8.not_lt.1 h2) (UInt8.not_lt.1 h1)
        subst this
        simp [cmp_zero x y]

/-- what strings.Compare answers -/
def cmpB (a b : ByteArray) : Int := Lib.compareBytes a.data.toList b.data.toList
theorem cmpB_neg {a b : ByteArray} : cmpB a b < 0 ↔ ltB a b = true := by rw [ltB_iff]; exact cmp_neg _ _
theorem cmpB_zero {a b : ByteArray} : cmpB a b = 0 ↔ a = b := ⟨fun h => by8_inj ((cmp_zero _ _).1 h), fun h => by subst h; exact (cmp_zero _ _).2 rfl⟩

/-- i is the place of a key in a list: what lies ahead is less, what lies behind isn't -/
structure At (l : List Pr) (key : ByteArray) (i : Nat) : Prop where
  le : i ≤ l.length
  lo : ∀ j (h : j < l.length), j < i → ltB (l[j]).1 key = true
  hi : ∀ j (h : j < l.length), i ≤ j → ltB (l[j]).1 key = false
/-- is it there? -/
def fnd (l : List Pr) (key : ByteArray) (i : Nat) : Bool := match l[i]? with
  | some p => cmpB p.1 key == 0
  | none => false
end Go.Proofs.YtcjfkbponikadaaGreatDoor

set_option linter.unusedVariables false
set_option linter.unusedSimpArgs false
namespace Go.Proofs.YtcjfkbponikadaaGreatDoor

/-- valid cuts, each greater than the one before -/
def cutsB (last : ByteArray) : List ByteArray → Bool
  | [] => true
  | k :: r => keyB k && ltB last k && cutsB k r
/-- a valid owner -/
def ownB (n : Int) : Bool := decide (0 ≤ n) && decide (n ≤ 3)
theorem ownB_iff {n : Int} : ownB n = true ↔ 0 ≤ n ∧ n ≤ 3 := by simp [ownB]
/-- the error of a map -/
def chkM (cs : List ByteArray) (os : List Int) : Int :=
  if 12 < cs.length then 2 else if os.length ≠ cs.length + 1 then 3 else if cutsB ByteArray.empty cs = false then 3 else if os.all ownB = false then 1 else 0
/-- a valid map -/
structure OkM (cs : List ByteArray) (os : List Int) : Prop where
  few : cs.length ≤ 12
  len : os.length = cs.length + 1
  cuts : cutsB ByteArray.empty cs = true
  own : ∀ n ∈ os, 0 ≤ n ∧ n ≤ 3
theorem chkM_ok {cs : List ByteArray} {os : List Int} : chkM cs os = 0 ↔ OkM cs os := by
  unfold chkM
  by_cases h1 : 12 < cs.length
  · rw [if_pos h1]; exact ⟨fun h => absurd h (by decide), fun h => by have := h.few; omega⟩
  rw [if_neg h1]
  by_cases h2 : os.length ≠ cs.length + 1
  · rw [if_pos h2]; exact ⟨fun h => absurd h (by decide), fun h => absurd h.len h2⟩
  rw [if_neg h2]
  by_cases h3 : cutsB ByteArray.empty cs = false
  · rw [if_pos h3]; exact ⟨fun h => absurd h (by decide), fun h => by rw [h.cuts] at h3; cases h3⟩
  rw [if_neg h3]
  by_cases h4 : os.all ownB = false
  · rw [if_pos h4]
    refine ⟨fun h => absurd h (by decide), fun h => ?_⟩
    rw [List.all_eq_true.2 fun n hn => ownB_iff.2 (h.own n hn)] at h4
    cases h4
  · rw [if_neg h4]
    refine ⟨fun _ => ⟨by omega, by omega, by simpa using h3, fun n hn => ?_⟩, fun _ => rfl⟩
    exact ownB_iff.1 (List.all_eq_true.1 (by simpa using h4) n hn)
theorem keyB_ne_empty {k : ByteArray} (h : keyB k = true) : ltB ByteArray.empty k = true := by
  rw [ltB_iff]
  have h1 : 1 ≤ k.size := by simp [keyB] at h; omega
  have h2 : (by8 k).length = k.size := by simp [by8]
  cases e : by8 k with
  | nil => rw [e] at h2; simp at h2; omega
  | cons x r => show ([] : List UInt8) < x :: r; exact List.nil_lt_cons _ _
theorem cutsB_iff {last : ByteArray} {cs : List ByteArray} : cutsB last cs = true ↔ (∀ k ∈ cs, keyB k = true ∧ ltB last k = true) ∧ cs.Pairwise (fun a b => ltB a b = true) := by
  induction cs generalizing last with
  | nil => simp [cutsB]
  | cons k r ih =>
    simp only [cutsB, Bool.and_eq_true, ih, List.pairwise_cons, List.mem_cons]
    constructor
    · rintro ⟨⟨h1, h2⟩, h3, h4⟩
      refine ⟨fun x hx => ?_, fun x hx => (h3 x hx).2, h4⟩
      rcases hx with rfl | hx
      · exact ⟨h1, h2⟩
      · exact ⟨(h3 x hx).1, ltB_trans h2 (h3 x hx).2⟩
    · rintro ⟨h1, h2, h3⟩
      exact ⟨⟨(h1 k (.inl rfl)).1, (h1 k (.inl rfl)).2⟩, fun x hx => ⟨(h1 x (.inr hx)).1, h2 x hx⟩, h3⟩
theorem cutsB_next {last : ByteArray} {cs : List ByteArray} {k : Nat} (h : k < cs.length) : cutsB last (cs.drop k) = (keyB cs[k] && ltB last cs[k] && cutsB cs[k] (cs.drop (k + 1))) := by
  rw [List.drop_eq_getElem_cons h]; rfl
/-- how many cuts lie at or below a key -/
def atC (cs : List ByteArray) (key : ByteArray) : Nat := (cs.takeWhile fun k => leB k key).length
theorem atC_le (cs : List ByteArray) (key : ByteArray) : atC cs key ≤ cs.length := (List.takeWhile_prefix _).length_le
theorem atC_below {cs : List ByteArray} {key : ByteArray} {i : Nat} (h : i < atC cs key) : ∃ hi : i < cs.length, leB cs[i] key = true := by
  have hl := atC_le cs key
  refine ⟨by omega, ?_⟩
  have h1 : (cs.takeWhile fun k => leB k key)[i]'h = cs[i] := List.IsPrefix.getElem (List.takeWhile_prefix _) h
  have h2 : (cs.takeWhile fun k => leB k key)[i]'h ∈ cs.takeWhile fun k => leB k key := List.getElem_mem h
  have h3 := List.all_takeWhile (p := fun k => leB k key) (l := cs)
  rw [List.all_eq_true] at h3
  rw [← h1]
  exact h3 _ h2
theorem atC_next {cs : List ByteArray} {key : ByteArray} (h : atC cs key < cs.length) : leB cs[atC cs key] key = false := by
  induction cs with
  | nil => simp at h
  | cons c r ih =>
    unfold atC at *
    cases hc : leB c key with
    | false => simp [List.takeWhile_cons, hc]
    | true =>
      have hr : (r.takeWhile fun k => leB k key).length < r.length := by simpa [List.takeWhile_cons, hc] using h
      have := ih hr
      simpa [List.takeWhile_cons, hc] using this
theorem leB_trans_ {a b c : ByteArray} (h : ltB a b = true) (k : leB b c = true) : leB a c = true := by
  rw [leB_iff] at *
  cases e : ltB c a with
  | false => rfl
  | true => rw [ltB_trans e h] at k; cases k
/-- in sorted cuts those at or below a key are the first ones -/
theorem atC_iff {cs : List ByteArray} (hs : cs.Pairwise (fun a b => ltB a b = true)) {key : ByteArray} {i : Nat} (hi : i < cs.length) : leB cs[i] key = true ↔ i < atC cs key := by
  constructor
  · intro h
    refine Nat.lt_of_not_le fun hle => ?_
    have ha : atC cs key < cs.length := by omega
    have h1 := atC_next ha
    rcases Nat.lt_or_eq_of_le hle with hlt | heq
    · have h2 := List.pairwise_iff_getElem.1 hs (atC cs key) i ha hi hlt
      rw [leB_trans_ h2 h] at h1
      cases h1
    · subst heq; rw [h] at h1; cases h1
  · intro h; exact (atC_below h).2
/-- whose a key is -/
def whV (cs : List ByteArray) (os : List Int) (key : ByteArray) : Int := os.getD (atC cs key) 0
end Go.Proofs.YtcjfkbponikadaaGreatDoor
