/-
  Slices of ints in memory (no body of the program in it).
  Is a key in a list? (no program in it)
  Partition maps in memory.
  shard.isOwner and Check: what they answer.
-/
import Derived.Test.YtmepmiokpcddbabGreatDoorBz12
import Derived.WalkKit
import Derived.WalkSpells
import Derived.WalkLawsBesides
import Derived.Test.YtmepmiokpcddbabGreatDoorBz3
import Derived.Test.YtmepmiokpcddbabGreatDoorBz8
import Derived.Deep.QuietTactic
import Derived.BigQuiet
import Derived.Test.YtmepmiokpcddbabGreatDoorBz6
import Derived.Test.YtmepmiokpcddbabGreatDoorBz11
set_option linter.unusedVariables false
set_option linter.unusedSimpArgs false
namespace Go.Proofs.YtmepmiokpcddbabGreatDoor
open Go.RowKit

/-- a slice of ints that reads as a list -/
def IS (w : World) (A : Option Addr) (zs : List Int) : Prop := ∀ i z, zs[i]? = some z → ∃ b o, A = some ⟨b, o, none⟩ ∧ b < w.heap.size ∧ w.cell? ⟨b, o + i, none⟩ = some (.int .i64 z)
theorem IS.below {w w' : World} {A : Option Addr} {zs : List Int} (h : IS w A zs) (hb : Below w.heap.size w w') : IS w' A zs := fun i p hp => by
  obtain ⟨b, o, e, hlt, h1⟩ := h i p hp
  exact ⟨b, o, e, Nat.lt_of_lt_of_le hlt hb.size, (hb.cell hlt).trans h1⟩
theorem IS.nil {w : World} {A : Option Addr} : IS w A [] := fun i p hp => by simp at hp
theorem IS.take_ {w : World} {A : Option Addr} {zs : List Int} (h : IS w A zs) (q : Nat) : IS w A (zs.take q) := fun i p hp => by
  rw [List.getElem?_take] at hp
  split at hp
  · exact h i p hp
  · cases hp
theorem IS.drop_ {w : World} {b o : Nat} {zs : List Int} (h : IS w (some ⟨b, o, none⟩) zs) (q : Nat) : IS w (some ⟨b, o + q, none⟩) (zs.drop q) := fun i p hp => by
  rw [List.getElem?_drop] at hp
  obtain ⟨b', o', e, hlt, h1⟩ := h _ p hp
  injection e with e
  injection e with e1 e2 _
  subst e1; subst e2
  rw [← Nat.add_assoc] at h1
  exact ⟨_, _, rfl, hlt, h1⟩
/-- numbers as ints -/
def zI (l : List Nat) : List Int := l.map fun (k : Nat) => (k : Int)
theorem zI_len (l : List Nat) : (zI l).length = l.length := by simp [zI]
theorem VS.is_ {w : World} {A : Option Addr} {l : List Nat} (h : VS w A (nV l)) : IS w A (zI l) := fun i z hz => by
  have hi : i < l.length := by
    have := (List.getElem?_eq_some_iff.1 hz).1
    rwa [zI_len] at this
  have e : z = (l[i] : Int) := by
    have := (List.getElem?_eq_some_iff.1 hz).2
    simp [zI] at this
    exact this.symm
  subst e
  exact h i (.int .i64 (l[i] : Int)) (by simp [nV, hi])
theorem slice_some (b o n ct m : Nat) (hm : m ≤ n) (hc : n ≤ ct) (w : World) : (Instr.slice 26 (.slice (some ⟨b, o, none⟩) n ct) (some (.int .i64 (m : Int))) none none).run Tryz.prog w = .ok (.slice (if ct = m then some ⟨b, o, none⟩ else some ⟨b, o + m, none⟩) (n - m) (ct - m)) w := by
  have g0 : (0 : Int) ≤ (m : Int) := by omega
  have g1 : (m : Int) ≤ (n : Int) := by omega
  have g2 : (n : Int) ≤ (ct : Int) := by omega
  by_cases e : ct = m
  · subst e
    obtain rfl : n = ct := by omega
    clear hm hc
    go_simp
  · rw [if_neg e]
    go_simp
/-- a slice from a place on -/
theorem slice_from {T : Option Addr} {ct m : Nat} {zs : List Int} {w : World} (hI : IS w T zs) (h1 : 1 ≤ m) (hm : m ≤ zs.length) (hc : zs.length ≤ ct) :
    ∃ T', (∀ w, (Instr.slice 26 (.slice T zs.length ct) (some (.int .i64 (m : Int))) none none).run Tryz.prog w = .ok (.slice T' (zs.length - m) (ct - m)) w) ∧ IS w T' (zs.drop m) := by
  obtain ⟨b, o, rfl, _⟩ := hI 0 zs[0] (List.getElem?_eq_getElem (by omega))
  refine ⟨_, fun w => slice_some b o zs.length ct m hm hc w, ?_⟩
  by_cases e : ct = m
  · rw [if_pos e, List.drop_of_length_le (by omega)]; exact IS.nil
  · rw [if_neg e]; exact hI.drop_ m
end Go.Proofs.YtmepmiokpcddbabGreatDoor

set_option linter.unusedVariables false
set_option linter.unusedSimpArgs false
namespace Go.Proofs.YtmepmiokpcddbabGreatDoor

/-- is a key in a list? -/
def inB (x : ByteArray) (l : List ByteArray) : Bool := l.any fun k => by8 k == by8 x
theorem inB_iff {x : ByteArray} {l : List ByteArray} : inB x l = true ↔ x ∈ l := by
  unfold inB
  rw [List.any_eq_true]
  constructor
  · rintro ⟨k, hk, he⟩
    have := by8_inj (by simpa using he)
    rw [← this]; exact hk
  · exact fun h => ⟨x, h, by simp⟩
theorem inB_no {x : ByteArray} {l : List ByteArray} (h : x ∉ l) : inB x l = false := by
  cases e : inB x l
  · rfl
  · exact absurd (inB_iff.1 e) h
theorem bytes_eq {a b : ByteArray} (h : a = b) : (a.toList == b.toList) = true := by simp [h]
theorem mem_take_next {l : List ByteArray} {k : Nat} (h : k < l.length) {x : ByteArray} (h1 : x ∉ l.take k) (h2 : x ≠ l[k]) : x ∉ l.take (k + 1) := by
  rw [List.take_succ_eq_append_getElem h]
  intro hm
  rcases List.mem_append.1 hm with hm | hm
  · exact h1 hm
  · exact h2 (by simpa using hm)

end Go.Proofs.YtmepmiokpcddbabGreatDoor

set_option linter.unusedVariables false
set_option linter.unusedSimpArgs false
namespace Go.Proofs.YtmepmiokpcddbabGreatDoor
open Go.RowKit

/-- a map as a value: where its cuts and its owners lie -/
structure Mp where
  A : Option Addr
  ca : Nat
  cs : List ByteArray
  O : Option Addr
  co : Nat
  os : List Int
def mpV (m : Mp) : Value := .agg #[.slice m.A m.cs.length m.ca, .slice m.O m.os.length m.co]
/-- what it reads as -/
structure MS (w : World) (m : Mp) : Prop where
  cuts : VS w m.A (m.cs.map Value.string)
  own : IS w m.O m.os
  lc : m.cs.length ≤ m.ca
  lo : m.os.length ≤ m.co
  mc : m.ca ≤ maxLen
  mo : m.co ≤ maxLen
  nc : m.A = none → m.ca = 0
  no : m.O = none → m.co = 0
theorem MS.below {w w' : World} {m : Mp} (h : MS w m) (hb : Below w.heap.size w w') : MS w' m := ⟨h.cuts.below hb, h.own.below hb, h.lc, h.lo, h.mc, h.mo, h.nc, h.no⟩
end Go.Proofs.YtmepmiokpcddbabGreatDoor

set_option linter.unusedVariables false
set_option linter.unusedSimpArgs false
namespace Go.Proofs.YtmepmiokpcddbabGreatDoor
open Go.RowKit

set_option maxHeartbeats 400000 in
theorem isown_any (n : Int) (w : World) :
    Calls Tryz.prog 94 #[.int .i64 n] w fun e w' => e = .returned (.bool (ownB n)) ∧ w = w' := by
  by_cases h1 : 0 ≤ n <;> by_cases h2 : n < 4
  all_goals
    go_enter Tryz.func94, Tryz.ntmps94
    go_wp2
    go_ret
    exact ⟨ret_bool (by have e : (n ≤ 3) = (n < 4) := propext (by omega); simp [ownB, h1, h2, e]), rfl⟩

theorem own_all_next {os : List Int} {k : Nat} (h : k < os.length) : (os.take (k + 1)).all ownB = ((os.take k).all ownB && ownB os[k]) := by
  rw [List.take_succ_eq_append_getElem h, List.all_append]; simp

set_option maxHeartbeats 1000000 in
set_option maxRecDepth 100000 in
theorem shcheck_any (m : Mp) (w : World) (hm : MS w m) (l2 : m.os.length ≤ 9223372036854775807) :
    Calls Tryz.prog 66 #[.agg #[.slice m.A m.cs.length m.ca, .slice m.O m.os.length m.co]] w fun e w' => e = .returned (.int .i64 (chkM m.cs m.os)) ∧ Below w.heap.size w w' := by
  have b0 := (Below.refl w.heap.size w).alloc (Nat.le_refl _) (.cells #[.slice m.A m.cs.length m.ca, .slice m.O m.os.length m.co] 28)
  have x0 := Box.new w 28 #[.slice m.A m.cs.length m.ca, .slice m.O m.os.length m.co]
  have hm1 := hm.below b0
  obtain ⟨A, ca, cs, O, co, os⟩ := m
  simp only at hm1 b0 x0 l2 ⊢
  have c0 := x0.cell 0 (v := .slice A cs.length ca) rfl
  have c1 := x0.cell 1 (v := .slice O os.length co) rfl
  have hlt := x0.lt
  clear hm
  go_enter Tryz.func66, Tryz.ntmps66
  by_cases h12 : 12 < cs.length
  · have g : (12 : Int) < (cs.length : Int) := by omega
    have HC := hideP (show chkM cs os = 2 by unfold chkM; rw [if_pos h12])
    clear h12
    go_wp2_with fail
    go_ret
    exact ⟨ret_int (by rw [HC.out]), b0⟩
  have g : ¬ (12 : Int) < (cs.length : Int) := by omega
  have pw : IntKind.i64.wrap ((cs.length : Int) + 1) = (cs.length : Int) + 1 := by simp only [IntKind.wrap_i64]; omega
  by_cases hl : os.length = cs.length + 1
  · have e1 : ((os.length : Int) != ((cs.length : Int) + 1)) = false := by simp; omega
    have HC := hideP (show chkM cs os = if cutsB ByteArray.empty cs = false then 3 else if os.all ownB = false then 1 else 0 by unfold chkM; rw [if_neg h12, if_neg (by simp [hl])])
    have HL := hideP hl
    clear hl h12
    go_wp2_with fail
    generalize w.alloc (.cells #[.slice A cs.length ca, .slice O os.length co] 28) = w1 at b0 x0 hm1 c0 c1 hlt ⊢
    have HB := hideP b0
    clear b0 x0
    generalize w.heap.size = g at c0 c1 hlt ⊢
    go_loopw [3, 23] (fun s i wr => ∃ (k : Nat) (bf : ByteArray), k ≤ cs.length ∧ i = .int .i64 k ∧ s = .string bf ∧ cutsB ByteArray.empty cs = cutsB bf (cs.drop k) ∧ w1 = wr) (fun _ i _ => cs.length - (intOf i).toNat)
    case atStart => exact ⟨0, ByteArray.empty, Nat.zero_le _, rfl, rfl, rfl, rfl⟩
    case round =>
      obtain ⟨k, bf, hk, rfl, rfl, hchk, rfl⟩ := hrel
      have HK := hideP hchk
      clear hchk
      by_cases hkl : k < cs.length
      · obtain ⟨b, o, e, hbl, q1⟩ := hm1.cuts k (.string cs[k]) (by simp [hkl])
        simp only at e
        subst e
        have HT := hideP (cutsB_next (last := bf) hkl)
        generalize cs[k] = c at q1 HT
        have g1 : (0 : Int) ≤ (k : Int) := by omega
        have g2 : (k : Int) < (cs.length : Int) := by omega
        go_wp2_with fail
        refine (key_any _ _).mono ?_
        rintro e w2 ⟨rfl, rfl⟩
        cases hkb : keyB c
        · have HKB := hideP hkb
          clear hkb
          go_wp2_with fail
          go_ret
          exact ⟨ret_int (by rw [HC.out, HK.out, HT.out, HKB.out]; rfl), HB.out⟩
        · have HKB := hideP hkb
          clear hkb
          cases hle : leB c bf
          · have HL2 := hideP (leB_no.1 hle)
            have d1 : Op.bytesLess c.toList bf.toList = false := by simp [leB] at hle; exact hle.1
            have d2 : (c.toList == bf.toList) = false := by simp [leB] at hle; simpa using hle.2
            clear hle
            go_wp2_with fail
            go_roundw
            case rel => exact ⟨k + 1, c, by omega, by go_num, rfl, by rw [HK.out, HT.out, HKB.out, HL2.out]; rfl, trivial⟩
            case measure => simp [intOf]; omega
          · have HL2 := hideP (leB_iff.1 hle)
            have d1 : (Op.bytesLess c.toList bf.toList || c.toList == bf.toList) = true := by simpa [leB] using hle
            clear hle
            go_wp2_with fail
            go_ret
            exact ⟨ret_int (by rw [HC.out, HK.out, HT.out, HL2.out]; simp), HB.out⟩
      · have HE := hideP (show cutsB ByteArray.empty cs = true by rw [HK.out, List.drop_of_length_le (by omega)]; rfl)
        have hi := hm1.own
        simp only at hi
        have hos : os.length ≤ 13 := by have := HL.out; omega
        clear hm1
        go_wp2_with fail
        go_loopw [40] (fun i wr => ∃ k : Nat, k ≤ os.length ∧ i = .int .i64 k ∧ (os.take k).all ownB = true ∧ w1 = wr) (fun i _ => os.length - (intOf i).toNat)
        case atStart => exact ⟨0, Nat.zero_le _, rfl, rfl, rfl⟩
        case round =>
          obtain ⟨j, hj, rfl, hown, rfl⟩ := hrel
          have HO := hideP hown
          clear hown
          by_cases hjl : j < os.length
          · obtain ⟨b, o, e, hbl, q1⟩ := hi j os[j] (by simp [hjl])
            subst e
            have HT := hideP (own_all_next hjl)
            have HM := hideP (fun (h : ownB os[j] = false) => show os.all ownB = false from by
              rw [List.all_eq_false]; exact ⟨os[j], List.getElem_mem hjl, by simp [h]⟩)
            generalize os[j] = c at q1 HT HM
            have g1 : (0 : Int) ≤ (j : Int) := by omega
            have g2 : (j : Int) < (os.length : Int) := by omega
            go_wp2_with fail
            refine (isown_any _ _).mono ?_
            rintro e w2 ⟨rfl, rfl⟩
            cases hin : ownB c
            · have HI := hideP hin
              clear hin
              go_wp2_with fail
              go_ret
              exact ⟨ret_int (by rw [HC.out, HE.out, HM.out HI.out]; rfl), HB.out⟩
            · have HI := hideP hin
              clear hin
              go_wp2_with fail
              go_roundw
              case rel => exact ⟨j + 1, by omega, by go_num, by rw [HT.out, HO.out, HI.out]; rfl, trivial⟩
              case measure => simp [intOf]; omega
          · have HA := hideP (show os.all ownB = true by have := HO.out; rwa [List.take_of_length_le (by omega)] at this)
            go_wp2_with fail
            go_ret
            exact ⟨ret_int (by rw [HC.out, HE.out, HA.out]; rfl), HB.out⟩
  · have e1 : ((os.length : Int) != ((cs.length : Int) + 1)) = true := by simp; omega
    have HC := hideP (show chkM cs os = 3 by unfold chkM; rw [if_neg h12, if_pos hl])
    clear hl h12
    go_wp2_with fail
    go_ret
    exact ⟨ret_int (by rw [HC.out]), b0⟩
end Go.Proofs.YtmepmiokpcddbabGreatDoor
