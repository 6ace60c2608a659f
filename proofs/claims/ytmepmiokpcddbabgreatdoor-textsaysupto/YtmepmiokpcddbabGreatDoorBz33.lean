/-
  slices.Equal at strings and at ints, whatever the two slices hold.
  roref.SameMap.
-/
import Derived.Test.YtmepmiokpcddbabGreatDoorBz13
import Derived.Test.YtmepmiokpcddbabGreatDoorBz3
import Derived.WalkKit
import Derived.WalkSpells
import Derived.WalkLawsBesides
import Derived.Deep.QuietTactic
import Derived.BigQuiet
set_option linter.unusedVariables false
set_option linter.unusedSimpArgs false
namespace Go.Proofs.YtmepmiokpcddbabGreatDoor
open Go.RowKit

theorem take_next_eq {α : Type} {xs ys : List α} {k : Nat} (hx : k < xs.length) (hy : k < ys.length) (h : xs.take k = ys.take k) (he : xs[k] = ys[k]) : xs.take (k + 1) = ys.take (k + 1) := by
  rw [List.take_succ_eq_append_getElem hx, List.take_succ_eq_append_getElem hy, h, he]
theorem ne_of_get {α : Type} {xs ys : List α} {k : Nat} (hx : k < xs.length) (hy : k < ys.length) (he : xs[k] ≠ ys[k]) : xs ≠ ys := fun e => by subst e; exact he rfl
def EqInv {α : Type} (w : World) (xs ys : List α) (i : Value) (wr : World) : Prop := ∃ k : Nat, k ≤ xs.length ∧ i = .int .i64 k ∧ xs.take k = ys.take k ∧ Below w.heap.size w wr

set_option maxHeartbeats 400000 in
set_option maxRecDepth 100000 in
theorem sequal_any (A1 A2 : Option Addr) (c1 c2 : Nat) (xs ys : List ByteArray) (w : World) (h1 : VS w A1 (xs.map Value.string)) (h2 : VS w A2 (ys.map Value.string)) (l1 : xs.length ≤ 9223372036854775807) (l2 : ys.length ≤ 9223372036854775807) :
    Calls Tryz.prog 71 #[.slice A1 xs.length c1, .slice A2 ys.length c2] w fun e w' => e = .returned (.bool (decide (xs = ys))) ∧ Below w.heap.size w w' := by
  by_cases hl : xs.length = ys.length
  · have d0 : ((xs.length : Int) != (ys.length : Int)) = false := by simp [hl]
    have hle : xs.length ≤ ys.length := by omega
    have HL := hideP hl
    clear hl
    go_enter Tryz.func71, Tryz.ntmps71
    go_wp2_with fail
    go_loopw [13] (EqInv w xs ys) (fun i _ => xs.length - (intOf i).toNat)
    case atStart => exact ⟨0, Nat.zero_le _, rfl, rfl, Below.refl _ _⟩
    case round =>
      obtain ⟨k, hk, rfl, heq, hb⟩ := hrel
      have HE := hideP heq
      clear heq
      by_cases hlt : k < xs.length
      · have hlt2 : k < ys.length := by omega
        obtain ⟨b, o, rfl, hbl, q1⟩ := h1.below hb k (.string xs[k]) (by simp [hlt])
        obtain ⟨b', o', rfl, hbl', q2⟩ := h2.below hb k (.string ys[k]) (by simp [hlt2])
        have HT := hideP (fun he => take_next_eq hlt hlt2 HE.out he)
        have HN := hideP (fun he => ne_of_get hlt hlt2 he)
        clear h1 h2
        generalize xs[k] = x at q1 HT HN
        generalize ys[k] = y at q2 HT HN
        have g1 : (0 : Int) ≤ (k : Int) := by omega
        have g2 : (k : Int) < (xs.length : Int) := by omega
        have g3 : (k : Int) < (ys.length : Int) := by omega
        by_cases he : x = y
        · have HT' := hideP (HT.out he)
          have d1 : (x.toList != y.toList) = false := by simp [he]
          have d2 := bytes_eq he
          clear he HT HN
          go_wp2_with fail
          go_quiet (fail)
          go_wp2_with fail
          go_roundw
          case rel => exact ⟨k + 1, by omega, by go_num, HT'.out, ⟨hb.os, hb.tape, hb.output, hb.size, hb.block⟩⟩
          case measure => simp [intOf] <;> omega
        · have HN' := hideP (HN.out he)
          have d1 : (x.toList != y.toList) = true := by unfold bne; rw [bytes_ne he]; rfl
          have d2 := bytes_ne he
          clear he HT HN
          go_wp2_with fail
          go_quiet (fail)
          go_wp2_with fail
          go_ret
          exact ⟨ret_bool (by rw [decide_eq_false HN'.out]), ⟨hb.os, hb.tape, hb.output, hb.size, hb.block⟩⟩
      · have HX := hideP (show xs = ys by have := HE.out; rwa [List.take_of_length_le (by omega), List.take_of_length_le (by have := HL.out; omega)] at this)
        go_wp2_with fail
        go_ret
        exact ⟨ret_bool (by rw [decide_eq_true HX.out]), hb⟩
  · have d0 : ((xs.length : Int) != (ys.length : Int)) = true := by simp; omega
    have HN := hideP (show xs ≠ ys from fun e => hl (by rw [e]))
    clear hl
    go_enter Tryz.func71, Tryz.ntmps71
    go_wp2_with fail
    go_ret
    exact ⟨ret_bool (by rw [decide_eq_false HN.out]), Below.refl _ _⟩

set_option maxHeartbeats 400000 in
set_option maxRecDepth 100000 in
theorem ieq_any (A1 A2 : Option Addr) (c1 c2 : Nat) (xs ys : List Int) (w : World) (h1 : IS w A1 xs) (h2 : IS w A2 ys) (l1 : xs.length ≤ 9223372036854775807) (l2 : ys.length ≤ 9223372036854775807) :
    Calls Tryz.prog 72 #[.slice A1 xs.length c1, .slice A2 ys.length c2] w fun e w' => e = .returned (.bool (decide (xs = ys))) ∧ Below w.heap.size w w' := by
  by_cases hl : xs.length = ys.length
  · have d0 : ((xs.length : Int) != (ys.length : Int)) = false := by simp [hl]
    have hle : xs.length ≤ ys.length := by omega
    have HL := hideP hl
    clear hl
    go_enter Tryz.func72, Tryz.ntmps72
    go_wp2_with fail
    go_loopw [13] (EqInv w xs ys) (fun i _ => xs.length - (intOf i).toNat)
    case atStart => exact ⟨0, Nat.zero_le _, rfl, rfl, Below.refl _ _⟩
    case round =>
      obtain ⟨k, hk, rfl, heq, hb⟩ := hrel
      have HE := hideP heq
      clear heq
      by_cases hlt : k < xs.length
      · have hlt2 : k < ys.length := by omega
        obtain ⟨b, o, rfl, hbl, q1⟩ := h1.below hb k xs[k] (List.getElem?_eq_getElem hlt)
        obtain ⟨b', o', rfl, hbl', q2⟩ := h2.below hb k ys[k] (List.getElem?_eq_getElem hlt2)
        have HT := hideP (fun he => take_next_eq hlt hlt2 HE.out he)
        have HN := hideP (fun he => ne_of_get hlt hlt2 he)
        clear h1 h2
        generalize xs[k] = x at q1 HT HN
        generalize ys[k] = y at q2 HT HN
        have g1 : (0 : Int) ≤ (k : Int) := by omega
        have g2 : (k : Int) < (xs.length : Int) := by omega
        have g3 : (k : Int) < (ys.length : Int) := by omega
        by_cases he : x = y
        · have HT' := hideP (HT.out he)
          have d1 : (x != y) = false := by simp [he]
          clear he HT HN
          go_wp2_with fail
          go_quiet (fail)
          go_wp2_with fail
          go_roundw
          case rel => exact ⟨k + 1, by omega, by go_num, HT'.out, ⟨hb.os, hb.tape, hb.output, hb.size, hb.block⟩⟩
          case measure => simp [intOf] <;> omega
        · have HN' := hideP (HN.out he)
          have d1 : (x != y) = true := by simp [he]
          clear he HT HN
          go_wp2_with fail
          go_quiet (fail)
          go_wp2_with fail
          go_ret
          exact ⟨ret_bool (by rw [decide_eq_false HN'.out]), ⟨hb.os, hb.tape, hb.output, hb.size, hb.block⟩⟩
      · have HX := hideP (show xs = ys by have := HE.out; rwa [List.take_of_length_le (by omega), List.take_of_length_le (by have := HL.out; omega)] at this)
        go_wp2_with fail
        go_ret
        exact ⟨ret_bool (by rw [decide_eq_true HX.out]), hb⟩
  · have d0 : ((xs.length : Int) != (ys.length : Int)) = true := by simp; omega
    have HN := hideP (show xs ≠ ys from fun e => hl (by rw [e]))
    clear hl
    go_enter Tryz.func72, Tryz.ntmps72
    go_wp2_with fail
    go_ret
    exact ⟨ret_bool (by rw [decide_eq_false HN.out]), Below.refl _ _⟩
end Go.Proofs.YtmepmiokpcddbabGreatDoor

set_option linter.unusedVariables false
set_option linter.unusedSimpArgs false
namespace Go.Proofs.YtmepmiokpcddbabGreatDoor
open Go.RowKit

set_option maxHeartbeats 400000 in
set_option maxRecDepth 100000 in
theorem samemap_any (a b : Mp) (w : World) (ha : MS w a) (hb : MS w b) :
    Calls Tryz.prog 10 #[.agg #[.slice a.A a.cs.length a.ca, .slice a.O a.os.length a.co], .agg #[.slice b.A b.cs.length b.ca, .slice b.O b.os.length b.co]] w fun e w' => e = .returned (.bool (decide (a.cs = b.cs) && decide (a.os = b.os))) ∧ Below w.heap.size w w' := by
  have b0 := ((Below.refl w.heap.size w).alloc (Nat.le_refl _) (.cells #[.slice a.A a.cs.length a.ca, .slice a.O a.os.length a.co] 28)).alloc (by simp) (.cells #[.slice b.A b.cs.length b.ca, .slice b.O b.os.length b.co] 28)
  have ha0 := ha.below b0
  have hb0 := hb.below b0
  have l1 := ha.lc
  have l2 := hb.lc
  have l3 := ha.lo
  have l4 := hb.lo
  have m1 := ha.mc
  have m2 := hb.mc
  have m3 := ha.mo
  have m4 := hb.mo
  unfold maxLen at m1 m2 m3 m4
  clear ha hb
  obtain ⟨Aa, ca, cs, Oa, co, os⟩ := a
  obtain ⟨Ab, cb, ds, Ob, cp, ps⟩ := b
  simp only at ha0 hb0 b0 l1 l2 l3 l4 m1 m2 m3 m4 ⊢
  have x0 : ((w.alloc (.cells #[.slice Aa cs.length ca, .slice Oa os.length co] 28)).alloc (.cells #[.slice Ab ds.length cb, .slice Ob ps.length cp] 28)).cell? ⟨w.heap.size, 1, none⟩ = some (.slice Oa os.length co) := by simp
  have x1 : ((w.alloc (.cells #[.slice Aa cs.length ca, .slice Oa os.length co] 28)).alloc (.cells #[.slice Ab ds.length cb, .slice Ob ps.length cp] 28)).cell? ⟨w.heap.size + 1, 1, none⟩ = some (.slice Ob ps.length cp) := by simp
  have hlt : w.heap.size + 1 < ((w.alloc (.cells #[.slice Aa cs.length ca, .slice Oa os.length co] 28)).alloc (.cells #[.slice Ab ds.length cb, .slice Ob ps.length cp] 28)).heap.size := by simp
  go_enter Tryz.func10, Tryz.ntmps10
  go_wp2_with fail
  generalize (w.alloc (.cells #[.slice Aa cs.length ca, .slice Oa os.length co] 28)).alloc (.cells #[.slice Ab ds.length cb, .slice Ob ps.length cp] 28) = w1 at b0 ha0 hb0 x0 x1 hlt ⊢
  have b1 := b0.size
  generalize hg : w.heap.size = g at x0 x1 hlt ⊢
  clear hg
  refine (sequal_any Aa Ab ca cb cs ds w1 ha0.cuts hb0.cuts (by omega) (by omega)).mono ?_
  rintro e w2 ⟨rfl, hb2⟩
  have hb3 := b0.trans (hb2.mono b0.size)
  have y0 := (hb2.cell (p := ⟨g, 1, none⟩) (show g < _ by omega)).trans x0
  have y1 := (hb2.cell (p := ⟨g + 1, 1, none⟩) hlt).trans x1
  have o0 := ha0.own.below hb2
  have o1 := hb0.own.below hb2
  have HQ := hideP (ieq_any Oa Ob co cp os ps w2 o0 o1 (by omega) (by omega))
  clear ha0 hb0 x0 x1 hlt o0 o1
  generalize hp1 : decide (cs = ds) = p1 at ⊢
  generalize hp2 : decide (os = ps) = p2 at HQ
  have HP1 := hideP hp1
  have HP2 := hideP hp2
  clear hp1 hp2
  cases p1
  · go_wp2_with fail
    go_ret
    exact ⟨ret_bool (by rw [HP1.out]; rfl), hb3⟩
  · go_wp2_with fail
    refine HQ.out.mono ?_
    rintro e w3 ⟨rfl, hb4⟩
    have hb5 := hb3.trans (hb4.mono (Nat.le_trans b0.size hb2.size))
    go_wp2_with fail
    go_ret
    exact ⟨ret_bool (by rw [HP1.out, HP2.out]; rfl), hb5⟩
end Go.Proofs.YtmepmiokpcddbabGreatDoor
