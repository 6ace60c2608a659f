/-
  What the law PartsPlay holds while it goes (no body of the program in it).
  slices.Equal at strings and at ints, whatever the two slices hold.
  roref.SameMap.
-/
import Derived.Test.YtpefdonhacmaoaaGreatDoorBd28
import Derived.Test.YtpefdonhacmaoaaGreatDoorBd31
import Derived.Test.YtpefdonhacmaoaaGreatDoorBd33
import Derived.Test.YtpefdonhacmaoaaGreatDoorBd35
import Derived.Test.YtpefdonhacmaoaaGreatDoorBd3
import Derived.WalkKit
import Derived.WalkSpells
import Derived.WalkLawsBesides
import Derived.Deep.QuietTactic
import Derived.BigQuiet
set_option linter.unusedVariables false
set_option linter.unusedSimpArgs false
namespace Go.Proofs.YtpefdonhacmaoaaGreatDoor
open Go.RowKit Go.WideMaps Go.Maps

theorem MV.ne {w : World} {b n g : Nat} {f : VF} {t : TypeId} (h : MV w b n f) (ht : Ty w g t) : b ≠ g := fun e => by
  subst e
  obtain ⟨D, ⟨es, clock, hb, _⟩, _⟩ := h.ex
  obtain ⟨cs, fr, hc⟩ := ht
  rw [hb] at hc; cases hc
theorem OR.of_box_ {w : World} {g B : Nat} {t : TypeId} {cs : Array Value} (h : Box w g t cs) (hB : B ≤ g) (hl : cs.size ≤ maxLen) : OR w B t (some ⟨g, 0, none⟩) cs.size cs.toList := by
  unfold OR
  rw [Array.length_toList]
  exact ⟨by simp, .inr ⟨g, cs.size, cs, rfl, hB, h, Nat.le_refl _, hl, by simp, by rw [Nat.mul_one]; exact List.take_of_length_le (by simp)⟩⟩
theorem rowInfo : (Tryz.prog.info? 23).map (fun i => (i.zero, i.size, i.bytes)) = some (some (.slice none 0 0), 1, 24) := by kernel_rfl
/-- between two calls -/
structure PyH (w : World) (g gm : Nat) (l : List Pr) (m : Mp) (mb n : Nat) (Ar : Option Addr) (cr : Nat) (rows : List Value) (wr : World) : Prop where
  pb : ∃ A ca O co q, PB wr w.heap.size g ⟨A, ca, m.cs, O, co, m.os⟩ l q
  bx : Box wr gm 25 #[.slice m.A m.cs.length m.ca, .slice m.O m.os.length m.co]
  ms0 : MS w m
  mv : MV wr mb n (valOf l)
  rw_ : OR wr w.heap.size 23 Ar cr rows
  lg : w.heap.size ≤ gm
  be : Below w.heap.size w wr
section
variable {w wr w' : World} {g gm : Nat} {l l' : List Pr} {m m' : Mp} {mb mb' n n' : Nat} {Ar : Option Addr} {cr : Nat} {rows : List Value}
theorem PyH.below (h : PyH w g gm l m mb n Ar cr rows wr) (hb : Below wr.heap.size wr w') : PyH w g gm l m mb n Ar cr rows w' := by
  obtain ⟨A, ca, O, co, q, hp⟩ := h.pb
  exact ⟨⟨A, ca, O, co, q, hp.below hb⟩, h.bx.below hb, h.ms0, h.mv.below hb, h.rw_.below hb, h.lg, h.be.trans (hb.mono h.be.size)⟩
theorem PyH.alloc {o : Obj} (h : PyH w g gm l m mb n Ar cr rows wr) : PyH w g gm l m mb n Ar cr rows (wr.alloc o) := h.below ((Below.refl _ _).alloc (Nat.le_refl _) _)
theorem PyH.drew (h : PyH w g gm l m mb n Ar cr rows wr) : PyH w g gm l m mb n Ar cr rows wr.drew := h.below (Below.refl _ _).drew
theorem PyH.ms (h : PyH w g gm l m mb n Ar cr rows wr) : MS wr m := h.ms0.below h.be
theorem PyH.ok (h : PyH w g gm l m mb n Ar cr rows wr) : Ok l := by obtain ⟨A, ca, O, co, q, hp⟩ := h.pb; exact hp.ok
theorem PyH.okm (h : PyH w g gm l m mb n Ar cr rows wr) : OkM m.cs m.os := by obtain ⟨A, ca, O, co, q, hp⟩ := h.pb; exact hp.okm
theorem PyH.gty (h : PyH w g gm l m mb n Ar cr rows wr) : Ty wr g 79 ∧ w.heap.size ≤ g := by obtain ⟨A, ca, O, co, q, hp⟩ := h.pb; exact ⟨hp.box.ty, hp.low⟩
theorem PyH.c (h : PyH w g gm l m mb n Ar cr rows wr) : wr.cell? ⟨gm, 0, none⟩ = some (.slice m.A m.cs.length m.ca) ∧ wr.cell? ⟨gm, 1, none⟩ = some (.slice m.O m.os.length m.co) := ⟨h.bx.cell 0 rfl, h.bx.cell 1 rfl⟩
/-- another map of values with the same values, or other ones -/
theorem PyH.val (h : PyH w g gm l m mb n Ar cr rows wr) (hv : MV wr mb' n' (valOf l)) : PyH w g gm l m mb' n' Ar cr rows wr := ⟨h.pb, h.bx, h.ms0, hv, h.rw_, h.lg, h.be⟩
/-- the partitioned store has another state: what is left behind -/
structure PyQ (w : World) (g gm : Nat) (m : Mp) (mb n : Nat) (f : VF) (Ar : Option Addr) (cr : Nat) (rows : List Value) (wr : World) : Prop where
  bx : Box wr gm 25 #[.slice m.A m.cs.length m.ca, .slice m.O m.os.length m.co]
  ms0 : MS w m
  mv : MV wr mb n f
  rw_ : OR wr w.heap.size 23 Ar cr rows
  lg : w.heap.size ≤ gm
  be : Below w.heap.size w wr
theorem PyH.q (h : PyH w g gm l m mb n Ar cr rows wr) (hg : wr.grownBy w' (some g)) : PyQ w g gm m mb n (valOf l) Ar cr rows w' := by
  obtain ⟨t, hl⟩ := h.gty
  exact ⟨h.bx.kept (ty_ne h.bx.ty t (by decide)) hg, h.ms0, h.mv.kept hg (fun e => h.mv.ne t (by injection e)), h.rw_.kept_ t (by decide) hg, h.lg, Below.kept h.be hl hg⟩
end
section
variable {w wr w' : World} {g gm : Nat} {l l' : List Pr} {m m' : Mp} {mb mb' n n' : Nat} {f : VF} {Ar : Option Addr} {cr : Nat} {rows : List Value}
theorem PyQ.below (h : PyQ w g gm m mb n f Ar cr rows wr) (hb : Below wr.heap.size wr w') : PyQ w g gm m mb n f Ar cr rows w' := ⟨h.bx.below hb, h.ms0, h.mv.below hb, h.rw_.below hb, h.lg, h.be.trans (hb.mono h.be.size)⟩
theorem PyQ.h (h : PyQ w g gm m mb n f Ar cr rows wr) {q : Dv} {A O : Option Addr} {ca co : Nat} (hp : PB wr w.heap.size g ⟨A, ca, m.cs, O, co, m.os⟩ l q) (hv : MV wr mb' n' (valOf l)) : PyH w g gm l m mb' n' Ar cr rows wr := ⟨⟨A, ca, O, co, q, hp⟩, h.bx, h.ms0, hv, h.rw_, h.lg, h.be⟩
/-- the map's variable is written -/
theorem PyQ.setm (h : PyQ w g gm m mb n (valOf l) Ar cr rows wr) {q : Dv} {A O : Option Addr} {ca co : Nat} (hm : MS w m') (hp : PB wr w.heap.size g ⟨A, ca, m'.cs, O, co, m'.os⟩ l q) :
    PyH w g gm l m' mb n Ar cr rows ((wr.setCell ⟨gm, 0, none⟩ (.slice m'.A m'.cs.length m'.ca)).setCell ⟨gm, 1, none⟩ (.slice m'.O m'.os.length m'.co)) := by
  have hg := grown_box (w := wr) (g := gm) [(0, .slice m'.A m'.cs.length m'.ca), (1, .slice m'.O m'.os.length m'.co)]
  simp only [List.foldl] at hg
  have t := h.bx.ty
  exact ⟨⟨A, ca, O, co, q, hp.kept (ty_ne hp.box.ty t (by decide)) t (by decide) (by decide) (by decide) hg⟩, (h.bx.set 0 (.slice m'.A m'.cs.length m'.ca)).set 1 (.slice m'.O m'.os.length m'.co), hm, h.mv.kept hg (fun e => h.mv.ne t (by injection e)), h.rw_.kept_ t (by decide) hg, h.lg, Below.kept h.be h.lg hg⟩
end
/-- the rows of a play -/
def PyRows (w : World) (rows : List Value) : Prop := ∀ v ∈ rows, ∃ x : Cl, v = clV x ∧ IS w x.A x.zs ∧ x.zs.length ≤ 9223372036854775807
def PyI (w : World) (g gm nb : Nat) (Ar : Option Addr) (cr : Nat) (rows : List Value) (v i : Value) (wr : World) : Prop :=
  ∃ (t : Nat) (l : List Pr) (m : Mp) (mb n : Nat), t ≤ rows.length ∧ i = .int .i64 t ∧ v = .map (some mb) ∧ n ≤ nb + 16 * t ∧ PyH w g gm l m mb n Ar cr rows wr
def PyR (w : World) (g gm nb : Nat) (Ar : Option Addr) (cr : Nat) (rows : List Value) (v : Value) (wr : World) : Prop :=
  ∃ (l : List Pr) (m : Mp) (mb n : Nat), v = .map (some mb) ∧ n ≤ nb ∧ PyH w g gm l m mb n Ar cr rows wr
end Go.Proofs.YtpefdonhacmaoaaGreatDoor

set_option linter.unusedVariables false
set_option linter.unusedSimpArgs false
namespace Go.Proofs.YtpefdonhacmaoaaGreatDoor
open Go.RowKit

theorem take_next_eq {α : Type} {xs ys : List α} {k : Nat} (hx : k < xs.length) (hy : k < ys.length) (h : xs.take k = ys.take k) (he : xs[k] = ys[k]) : xs.take (k + 1) = ys.take (k + 1) := by
  rw [List.take_succ_eq_append_getElem hx, List.take_succ_eq_append_getElem hy, h, he]
theorem ne_of_get {α : Type} {xs ys : List α} {k : Nat} (hx : k < xs.length) (hy : k < ys.length) (he : xs[k] ≠ ys[k]) : xs ≠ ys := fun e => by subst e; exact he rfl
def EqInv {α : Type} (w : World) (xs ys : List α) (i : Value) (wr : World) : Prop := ∃ k : Nat, k ≤ xs.length ∧ i = .int .i64 k ∧ xs.take k = ys.take k ∧ Below w.heap.size w wr

set_option maxHeartbeats 400000 in
set_option maxRecDepth 100000 in
theorem sequal_any (A1 A2 : Option Addr) (c1 c2 : Nat) (xs ys : List ByteArray) (w : World) (h1 : VS w A1 (xs.map Value.string)) (h2 : VS w A2 (ys.map Value.string)) (l1 : xs.length ≤ 9223372036854775807) (l2 : ys.length ≤ 9223372036854775807) :
    Calls Tryz.prog 48 #[.slice A1 xs.length c1, .slice A2 ys.length c2] w fun e w' => e = .returned (.bool (decide (xs = ys))) ∧ Below w.heap.size w w' := by
  by_cases hl : xs.length = ys.length
  · have d0 : ((xs.length : Int) != (ys.length : Int)) = false := by simp [hl]
    have hle : xs.length ≤ ys.length := by omega
    have HL := hideP hl
    clear hl
    go_enter Tryz.func48, Tryz.ntmps48
    go_wp2_with fail
    go_loopw [13] (EqInv w xs ys) (fun i _ => xs.length - (intOf i).toNat)
    case atStart => exact ⟨0, Nat.zero_le _, rfl, rfl, Below.refl _ _⟩
    case round =>
      obtain ⟨k, hk, rfl, heq, hb⟩ := hrel
      have HE := hideP heq
      clear heq
      by_cases hlt : k < xs.length
      · have hlt2 : k < ys.length := by omega
        obtain ⟨b, o, rfl, hbl, q1⟩ := h1.below hb k (.string xs[k]) (by simp [hlt])
        obtain ⟨b', o', rfl, hbl', q2⟩ := h2.below hb k (.string ys[k]) (by simp [hlt2])
        have HT := hideP (fun he => take_next_eq hlt hlt2 HE.out he)
        have HN := hideP (fun he => ne_of_get hlt hlt2 he)
        clear h1 h2
        generalize xs[k] = x at q1 HT HN
        generalize ys[k] = y at q2 HT HN
        have g1 : (0 : Int) ≤ (k : Int) := by omega
        have g2 : (k : Int) < (xs.length : Int) := by omega
        have g3 : (k : Int) < (ys.length : Int) := by omega
        by_cases he : x = y
        · have HT' := hideP (HT.out he)
          have d1 : (x.toList != y.toList) = false := by simp [he]
          have d2 := bytes_eq he
          clear he HT HN
          go_wp2_with fail
          go_quiet (fail)
          go_wp2_with fail
          go_roundw
          case rel => exact ⟨k + 1, by omega, by go_num, HT'.out, ⟨hb.os, hb.tape, hb.output, hb.size, hb.block⟩⟩
          case measure => simp [intOf] <;> omega
        · have HN' := hideP (HN.out he)
          have d1 : (x.toList != y.toList) = true := by unfold bne; rw [bytes_ne he]; rfl
          have d2 := bytes_ne he
          clear he HT HN
          go_wp2_with fail
          go_quiet (fail)
          go_wp2_with fail
          go_ret
          exact ⟨ret_bool (by rw [decide_eq_false HN'.out]), ⟨hb.os, hb.tape, hb.output, hb.size, hb.block⟩⟩
      · have HX := hideP (show xs = ys by have := HE.out; rwa [List.take_of_length_le (by omega), List.take_of_length_le (by have := HL.out; omega)] at this)
        go_wp2_with fail
        go_ret
        exact ⟨ret_bool (by rw [decide_eq_true HX.out]), hb⟩
  · have d0 : ((xs.length : Int) != (ys.length : Int)) = true := by simp; omega
    have HN := hideP (show xs ≠ ys from fun e => hl (by rw [e]))
    clear hl
    go_enter Tryz.func48, Tryz.ntmps48
    go_wp2_with fail
    go_ret
    exact ⟨ret_bool (by rw [decide_eq_false HN.out]), Below.refl _ _⟩

set_option maxHeartbeats 400000 in
set_option maxRecDepth 100000 in
theorem ieq_any (A1 A2 : Option Addr) (c1 c2 : Nat) (xs ys : List Int) (w : World) (h1 : IS w A1 xs) (h2 : IS w A2 ys) (l1 : xs.length ≤ 9223372036854775807) (l2 : ys.length ≤ 9223372036854775807) :
    Calls Tryz.prog 23 #[.slice A1 xs.length c1, .slice A2 ys.length c2] w fun e w' => e = .returned (.bool (decide (xs = ys))) ∧ Below w.heap.size w w' := by
  by_cases hl : xs.length = ys.length
  · have d0 : ((xs.length : Int) != (ys.length : Int)) = false := by simp [hl]
    have hle : xs.length ≤ ys.length := by omega
    have HL := hideP hl
    clear hl
    go_enter Tryz.func23, Tryz.ntmps23
    go_wp2_with fail
    go_loopw [13] (EqInv w xs ys) (fun i _ => xs.length - (intOf i).toNat)
    case atStart => exact ⟨0, Nat.zero_le _, rfl, rfl, Below.refl _ _⟩
    case round =>
      obtain ⟨k, hk, rfl, heq, hb⟩ := hrel
      have HE := hideP heq
      clear heq
      by_cases hlt : k < xs.length
      · have hlt2 : k < ys.length := by omega
        obtain ⟨b, o, rfl, hbl, q1⟩ := h1.below hb k xs[k] (List.getElem?_eq_getElem hlt)
        obtain ⟨b', o', rfl, hbl', q2⟩ := h2.below hb k ys[k] (List.getElem?_eq_getElem hlt2)
        have HT := hideP (fun he => take_next_eq hlt hlt2 HE.out he)
        have HN := hideP (fun he => ne_of_get hlt hlt2 he)
        clear h1 h2
        generalize xs[k] = x at q1 HT HN
        generalize ys[k] = y at q2 HT HN
        have g1 : (0 : Int) ≤ (k : Int) := by omega
        have g2 : (k : Int) < (xs.length : Int) := by omega
        have g3 : (k : Int) < (ys.length : Int) := by omega
        by_cases he : x = y
        · have HT' := hideP (HT.out he)
          have d1 : (x != y) = false := by simp [he]
          clear he HT HN
          go_wp2_with fail
          go_quiet (fail)
          go_wp2_with fail
          go_roundw
          case rel => exact ⟨k + 1, by omega, by go_num, HT'.out, ⟨hb.os, hb.tape, hb.output, hb.size, hb.block⟩⟩
          case measure => simp [intOf] <;> omega
        · have HN' := hideP (HN.out he)
          have d1 : (x != y) = true := by simp [he]
          clear he HT HN
          go_wp2_with fail
          go_quiet (fail)
          go_wp2_with fail
          go_ret
          exact ⟨ret_bool (by rw [decide_eq_false HN'.out]), ⟨hb.os, hb.tape, hb.output, hb.size, hb.block⟩⟩
      · have HX := hideP (show xs = ys by have := HE.out; rwa [List.take_of_length_le (by omega), List.take_of_length_le (by have := HL.out; omega)] at this)
        go_wp2_with fail
        go_ret
        exact ⟨ret_bool (by rw [decide_eq_true HX.out]), hb⟩
  · have d0 : ((xs.length : Int) != (ys.length : Int)) = true := by simp; omega
    have HN := hideP (show xs ≠ ys from fun e => hl (by rw [e]))
    clear hl
    go_enter Tryz.func23, Tryz.ntmps23
    go_wp2_with fail
    go_ret
    exact ⟨ret_bool (by rw [decide_eq_false HN.out]), Below.refl _ _⟩
end Go.Proofs.YtpefdonhacmaoaaGreatDoor

set_option linter.unusedVariables false
set_option linter.unusedSimpArgs false
namespace Go.Proofs.YtpefdonhacmaoaaGreatDoor
open Go.RowKit

set_option maxHeartbeats 400000 in
set_option maxRecDepth 100000 in
theorem samemap_any (a b : Mp) (w : World) (ha : MS w a) (hb : MS w b) :
    Calls Tryz.prog 26 #[.agg #[.slice a.A a.cs.length a.ca, .slice a.O a.os.length a.co], .agg #[.slice b.A b.cs.length b.ca, .slice b.O b.os.length b.co]] w fun e w' => e = .returned (.bool (decide (a.cs = b.cs) && decide (a.os = b.os))) ∧ Below w.heap.size w w' := by
  have b0 := ((Below.refl w.heap.size w).alloc (Nat.le_refl _) (.cells #[.slice a.A a.cs.length a.ca, .slice a.O a.os.length a.co] 25)).alloc (by simp) (.cells #[.slice b.A b.cs.length b.ca, .slice b.O b.os.length b.co] 25)
  have ha0 := ha.below b0
  have hb0 := hb.below b0
  have l1 := ha.lc
  have l2 := hb.lc
  have l3 := ha.lo
  have l4 := hb.lo
  have m1 := ha.mc
  have m2 := hb.mc
  have m3 := ha.mo
  have m4 := hb.mo
  unfold maxLen at m1 m2 m3 m4
  clear ha hb
  obtain ⟨Aa, ca, cs, Oa, co, os⟩ := a
  obtain ⟨Ab, cb, ds, Ob, cp, ps⟩ := b
  simp only at ha0 hb0 b0 l1 l2 l3 l4 m1 m2 m3 m4 ⊢
  have x0 : ((w.alloc (.cells #[.slice Aa cs.length ca, .slice Oa os.length co] 25)).alloc (.cells #[.slice Ab ds.length cb, .slice Ob ps.length cp] 25)).cell? ⟨w.heap.size, 1, none⟩ = some (.slice Oa os.length co) := by simp
  have x1 : ((w.alloc (.cells #[.slice Aa cs.length ca, .slice Oa os.length co] 25)).alloc (.cells #[.slice Ab ds.length cb, .slice Ob ps.length cp] 25)).cell? ⟨w.heap.size + 1, 1, none⟩ = some (.slice Ob ps.length cp) := by simp
  have hlt : w.heap.size + 1 < ((w.alloc (.cells #[.slice Aa cs.length ca, .slice Oa os.length co] 25)).alloc (.cells #[.slice Ab ds.length cb, .slice Ob ps.length cp] 25)).heap.size := by simp
  go_enter Tryz.func26, Tryz.ntmps26
  go_wp2_with fail
  generalize (w.alloc (.cells #[.slice Aa cs.length ca, .slice Oa os.length co] 25)).alloc (.cells #[.slice Ab ds.length cb, .slice Ob ps.length cp] 25) = w1 at b0 ha0 hb0 x0 x1 hlt ⊢
  have b1 := b0.size
  generalize hg : w.heap.size = g at x0 x1 hlt ⊢
  clear hg
  refine (sequal_any Aa Ab ca cb cs ds w1 ha0.cuts hb0.cuts (by omega) (by omega)).mono ?_
  rintro e w2 ⟨rfl, hb2⟩
  have hb3 := b0.trans (hb2.mono b0.size)
  have y0 := (hb2.cell (p := ⟨g, 1, none⟩) (show g < _ by omega)).trans x0
  have y1 := (hb2.cell (p := ⟨g + 1, 1, none⟩) hlt).trans x1
  have o0 := ha0.own.below hb2
  have o1 := hb0.own.below hb2
  have HQ := hideP (ieq_any Oa Ob co cp os ps w2 o0 o1 (by omega) (by omega))
  clear ha0 hb0 x0 x1 hlt o0 o1
  generalize hp1 : decide (cs = ds) = p1 at ⊢
  generalize hp2 : decide (os = ps) = p2 at HQ
  have HP1 := hideP hp1
  have HP2 := hideP hp2
  clear hp1 hp2
  cases p1
  · go_wp2_with fail
    go_ret
    exact ⟨ret_bool (by rw [HP1.out]; rfl), hb3⟩
  · go_wp2_with fail
    refine HQ.out.mono ?_
    rintro e w3 ⟨rfl, hb4⟩
    have hb5 := hb3.trans (hb4.mono (Nat.le_trans b0.size hb2.size))
    go_wp2_with fail
    go_ret
    exact ⟨ret_bool (by rw [HP1.out, HP2.out]; rfl), hb5⟩
end Go.Proofs.YtpefdonhacmaoaaGreatDoor
