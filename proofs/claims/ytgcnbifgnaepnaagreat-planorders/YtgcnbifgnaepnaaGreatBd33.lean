/-
  plan.check.
  Slices of ints in memory (no body of the program in it).
-/
import Derived.Test.YtgcnbifgnaepnaaGreatBd20
import Derived.Test.YtgcnbifgnaepnaaGreatBd15
import Derived.Test.YtgcnbifgnaepnaaGreatBd9
import Derived.WalkKit
import Derived.WalkSpells
import Derived.WalkLawsBesides
set_option linter.unusedVariables false
set_option linter.unusedSimpArgs false
namespace Go.Proofs.YtgcnbifgnaepnaaGreat
open Go.RowKit

/-- the error of a list of transactions -/
def chkP (dd : List (List Opr)) : Int := if 60 < dd.length then 2 else chkDs dd
theorem chkP_zero {dd : List (List Opr)} : chkP dd = 0 ↔ dd.length ≤ 60 ∧ ∀ d ∈ dd, chkD d = 0 := by
  unfold chkP
  by_cases h : 60 < dd.length
  · rw [if_pos h]; exact ⟨fun e => absurd e (by decide), fun e => by omega⟩
  · rw [if_neg h, chkDs_zero]; exact ⟨fun e => ⟨by omega, e⟩, fun e => e.2⟩

set_option maxHeartbeats 400000 in
set_option maxRecDepth 100000 in
theorem pcheck_any (A : Option Addr) (c : Nat) (ds : List Dl) (w : World) (hD : DS w A ds) (hl : ds.length ≤ 9223372036854775807) :
    Calls Tryz.prog 17 #[.slice A ds.length c] w fun e w' => e = .returned (.int .i64 (chkP (ddOf ds))) ∧ Below w.heap.size w w' := by
  by_cases h60 : 60 < ds.length
  · have HC := hideP (show chkP (ddOf ds) = 2 by unfold chkP; rw [ddOf_len, if_pos h60])
    have g1 : (60 : Int) < (ds.length : Int) := by omega
    go_enter Tryz.func17, Tryz.ntmps17
    go_wp2_with fail
    go_ret
    exact ⟨ret_int HC.out.symm, Below.refl _ _⟩
  have HC := hideP (show chkP (ddOf ds) = chkDs (ddOf ds) by unfold chkP; rw [ddOf_len, if_neg h60])
  have g1 : ¬ (60 : Int) < (ds.length : Int) := by omega
  go_enter Tryz.func17, Tryz.ntmps17
  go_wp2_with fail
  go_loopw [11] (fun i wr => ∃ k : Nat, k ≤ ds.length ∧ i = .int .i64 k ∧ chkDs (ddOf ds) = chkDs ((ddOf ds).drop k) ∧ Below w.heap.size w wr) (fun i _ => ds.length - (intOf i).toNat)
  case atStart => exact ⟨0, Nat.zero_le _, rfl, rfl, Below.refl _ _⟩
  case round =>
    obtain ⟨k, hk, rfl, hchk, hb⟩ := hrel
    by_cases hlt : k < ds.length
    · rw [chkDs_next (by rw [ddOf_len]; exact hlt)] at hchk
      obtain ⟨⟨b, o, rfl, hbl, q1⟩, hos⟩ := (hD.below hb).at_ hlt
      have hdk : (ddOf ds)[k]'(by rw [ddOf_len]; exact hlt) = ds[k].d := by simp [ddOf]
      rw [hdk] at hchk
      generalize ds[k] = x at hchk q1 hos
      obtain ⟨Dx, cx, dx⟩ := x
      simp only [dlV] at q1 hos hchk
      have HK := hideP hchk
      have hab := (Below.refl wr.heap.size wr).alloc (Nat.le_refl _) (.cells #[.slice Dx dx.length cx] 45)
      have hb2 := hb.alloc hb.size (.cells #[.slice Dx dx.length cx] 45)
      have hos2 := hos.go hab
      clear hchk hdk hD hos hab
      go_wp2_with fail
      refine (dcheck_any Dx cx dx _ hos2).mono ?_
      rintro e w3 ⟨rfl, hb3⟩
      have hb4 := hb2.trans (hb3.mono hb2.size)
      clear hb hb2 hb3 hos2
      by_cases h0 : chkD dx = 0
      · have H0 := hideP h0
        rw [h0]
        clear h0
        go_wp2_with fail
        go_roundw
        case rel => exact ⟨k + 1, by omega, by go_num, by rw [HK.out, if_pos H0.out], hb4⟩
        case measure => simp [intOf]; omega
      · have H0 := hideP h0
        have d0 : (chkD dx != 0) = true := by simp [h0]
        clear h0
        generalize hq : chkD dx = q at d0
        have HQ := hideP hq
        clear hq
        go_wp2_with fail
        go_ret
        exact ⟨ret_int (by rw [HC.out, HK.out, if_neg H0.out, HQ.out]), hb4⟩
    · go_wp2_with fail
      go_ret
      exact ⟨ret_int (by rw [HC.out, hchk, List.drop_of_length_le (by rw [ddOf_len]; omega)]; rfl), hb⟩
end Go.Proofs.YtgcnbifgnaepnaaGreat

set_option linter.unusedVariables false
set_option linter.unusedSimpArgs false
namespace Go.Proofs.YtgcnbifgnaepnaaGreat
open Go.RowKit

/-- a slice of ints that reads as a list -/
def IS (w : World) (A : Option Addr) (zs : List Int) : Prop := ∀ i z, zs[i]? = some z → ∃ b o, A = some ⟨b, o, none⟩ ∧ b < w.heap.size ∧ w.cell? ⟨b, o + i, none⟩ = some (.int .i64 z)
theorem IS.below {w w' : World} {A : Option Addr} {zs : List Int} (h : IS w A zs) (hb : Below w.heap.size w w') : IS w' A zs := fun i p hp => by
  obtain ⟨b, o, e, hlt, h1⟩ := h i p hp
  exact ⟨b, o, e, Nat.lt_of_lt_of_le hlt hb.size, (hb.cell hlt).trans h1⟩
theorem IS.nil {w : World} {A : Option Addr} : IS w A [] := fun i p hp => by simp at hp
theorem IS.take_ {w : World} {A : Option Addr} {zs : List Int} (h : IS w A zs) (q : Nat) : IS w A (zs.take q) := fun i p hp => by
  rw [List.getElem?_take] at hp
  split at hp
  · exact h i p hp
  · cases hp
theorem IS.drop_ {w : World} {b o : Nat} {zs : List Int} (h : IS w (some ⟨b, o, none⟩) zs) (q : Nat) : IS w (some ⟨b, o + q, none⟩) (zs.drop q) := fun i p hp => by
  rw [List.getElem?_drop] at hp
  obtain ⟨b', o', e, hlt, h1⟩ := h _ p hp
  injection e with e
  injection e with e1 e2 _
  subst e1; subst e2
  rw [← Nat.add_assoc] at h1
  exact ⟨_, _, rfl, hlt, h1⟩
/-- numbers as ints -/
def zI (l : List Nat) : List Int := l.map fun (k : Nat) => (k : Int)
theorem zI_len (l : List Nat) : (zI l).length = l.length := by simp [zI]
theorem VS.is_ {w : World} {A : Option Addr} {l : List Nat} (h : VS w A (nV l)) : IS w A (zI l) := fun i z hz => by
  have hi : i < l.length := by
    have := (List.getElem?_eq_some_iff.1 hz).1
    rwa [zI_len] at this
  have e : z = (l[i] : Int) := by
    have := (List.getElem?_eq_some_iff.1 hz).2
    simp [zI] at this
    exact this.symm
  subst e
  exact h i (.int .i64 (l[i] : Int)) (by simp [nV, hi])
theorem slice_some (b o n ct m : Nat) (hm : m ≤ n) (hc : n ≤ ct) (w : World) : (Instr.slice 22 (.slice (some ⟨b, o, none⟩) n ct) (some (.int .i64 (m : Int))) none none).run Tryz.prog w = .ok (.slice (if ct = m then some ⟨b, o, none⟩ else some ⟨b, o + m, none⟩) (n - m) (ct - m)) w := by
  have g0 : (0 : Int) ≤ (m : Int) := by omega
  have g1 : (m : Int) ≤ (n : Int) := by omega
  have g2 : (n : Int) ≤ (ct : Int) := by omega
  by_cases e : ct = m
  · subst e
    obtain rfl : n = ct := by omega
    clear hm hc
    go_simp
  · rw [if_neg e]
    go_simp
/-- a slice from a place on -/
theorem slice_from {T : Option Addr} {ct m : Nat} {zs : List Int} {w : World} (hI : IS w T zs) (h1 : 1 ≤ m) (hm : m ≤ zs.length) (hc : zs.length ≤ ct) :
    ∃ T', (∀ w, (Instr.slice 22 (.slice T zs.length ct) (some (.int .i64 (m : Int))) none none).run Tryz.prog w = .ok (.slice T' (zs.length - m) (ct - m)) w) ∧ IS w T' (zs.drop m) := by
  obtain ⟨b, o, rfl, _⟩ := hI 0 zs[0] (List.getElem?_eq_getElem (by omega))
  refine ⟨_, fun w => slice_some b o zs.length ct m hm hc w, ?_⟩
  by_cases e : ct = m
  · rw [if_pos e, List.drop_of_length_le (by omega)]; exact IS.nil
  · rw [if_neg e]; exact hI.drop_ m
end Go.Proofs.YtgcnbifgnaepnaaGreat
