/-
  slices.Clone and rokeep.spoil at string.
  slices.Equal at strings and at ints, whatever the two slices hold.
  Only blocks of one type may have changed (no body of the program in it).
  The frame of rokeep.apart at string.
  rokeep.spoil at one type.
  slices.Clone and rokeep.spoil at int.
-/
import Derived.Test.YtmepmiokpcddbabGreatDoorCb8
import Derived.Test.YtmepmiokpcddbabGreatDoorCb3
import Derived.Test.YtmepmiokpcddbabGreatDoorCb4
import Derived.Lib.SlicesS
import Derived.Shelf.Slices.Clone
import Derived.Test.YtmepmiokpcddbabGreatDoorCb2
import Derived.WalkKit
import Derived.WalkSpells
import Derived.WalkLawsBesides
import Derived.Deep.QuietTactic
import Derived.BigQuiet
set_option linter.unusedVariables false
set_option linter.unusedSimpArgs false
namespace Go.Proofs.YtmepmiokpcddbabGreatDoor
open Go.RowKit

theorem or_emptyS {w : World} {g B : Nat} (h : Box w g 9 #[]) (hB : B ≤ g) : OR w B 9 (some ⟨g, 0, none⟩) 0 [] :=
  ⟨rfl, .inr ⟨g, 0, #[], rfl, hB, h, Nat.le_refl _, by simp [maxLen], by simp, rfl⟩⟩
set_option maxHeartbeats 400000 in
set_option maxRecDepth 100000 in
theorem cloneS_any (B : Nat) (A : Option Addr) (c : Nat) (xs : List Value) (w : World) (hA : OR w B 9 A c xs) (h1 : ∀ u ∈ xs, u.oneCell' = true) (hn : xs.length ≤ 1000000) :
    Calls Tryz.prog 44 #[.slice A xs.length c] w fun e w' => ∃ A' c', e = .returned (.slice A' xs.length c') ∧ OR w' w.heap.size 9 A' c' xs ∧ Below w.heap.size w w' := by
  have q22 : ∀ (w : World) (a : Option Addr) (n c n' c' : Nat), (binOp .eql 25 (.slice a n c) (.slice none n' c')).run Tryz.prog w = .ok (.bool a.isNone) w := fun w a n c n' c' => Lib.run_eql_slice_nil w _ _ a n c n' c' Tryz.underlying25
  obtain ⟨k1, k2, k3, k4⟩ := hA.caps
  cases A with
  | none =>
    have h0 : c = 0 := k3 rfl
    have hl : xs = [] := List.length_eq_zero_iff.1 (by omega)
    subst h0; subst hl
    clear hA
    go_enter Tryz.func44, Tryz.ntmps44
    go_wp2_with fail
    go_ret
    exact ⟨none, 0, rfl, OR.nil _ _ _, Below.refl _ _⟩
  | some a =>
    have hb := (Below.refl w.heap.size w).alloc (Nat.le_refl _) (.cells #[] 9)
    have ho := or_emptyS (B := w.heap.size) (Box.new w 9 #[]) (Nat.le_refl _)
    obtain ⟨A', c', w1, hrun, hown', hg'⟩ := app_srcS (P := Tryz.prog) Tryz.underlying25 strInfo rfl (w.alloc (.cells #[] 9)) w.heap.size 25 _ _ _ ho (some a) c xs (hA.vs.below hb) h1 (by simp; omega) (by decide) hb.size
    have hb1 : Below w.heap.size w w1 := hb.grown hg' hb.size (fun j hj => (World.ownsRow.lt ho j hj).1)
    rw [List.nil_append] at hrun hown'
    have HR := hideP hrun
    clear hrun hg' ho hA
    go_enter Tryz.func44, Tryz.ntmps44
    go_wp2_with (at_builtin; refine Lib.wpList_append_run _ rfl _ _ _ _ rfl _ _ rfl rfl _ _ HR.out ?_)
    go_ret
    exact ⟨A', c', rfl, hown', hb1⟩
end Go.Proofs.YtmepmiokpcddbabGreatDoor

set_option linter.unusedVariables false
set_option linter.unusedSimpArgs false
namespace Go.Proofs.YtmepmiokpcddbabGreatDoor
open Go.RowKit

theorem take_next_eq {α : Type} {xs ys : List α} {k : Nat} (hx : k < xs.length) (hy : k < ys.length) (h : xs.take k = ys.take k) (he : xs[k] = ys[k]) : xs.take (k + 1) = ys.take (k + 1) := by
  rw [List.take_succ_eq_append_getElem hx, List.take_succ_eq_append_getElem hy, h, he]
theorem ne_of_get {α : Type} {xs ys : List α} {k : Nat} (hx : k < xs.length) (hy : k < ys.length) (he : xs[k] ≠ ys[k]) : xs ≠ ys := fun e => by subst e; exact he rfl
def EqInv {α : Type} (w : World) (xs ys : List α) (i : Value) (wr : World) : Prop := ∃ k : Nat, k ≤ xs.length ∧ i = .int .i64 k ∧ xs.take k = ys.take k ∧ Below w.heap.size w wr

set_option maxHeartbeats 400000 in
set_option maxRecDepth 100000 in
theorem sequal_any (A1 A2 : Option Addr) (c1 c2 : Nat) (xs ys : List ByteArray) (w : World) (h1 : VS w A1 (xs.map Value.string)) (h2 : VS w A2 (ys.map Value.string)) (l1 : xs.length ≤ 9223372036854775807) (l2 : ys.length ≤ 9223372036854775807) :
    Calls Tryz.prog 71 #[.slice A1 xs.length c1, .slice A2 ys.length c2] w fun e w' => e = .returned (.bool (decide (xs = ys))) ∧ Below w.heap.size w w' := by
  by_cases hl : xs.length = ys.length
  · have d0 : ((xs.length : Int) != (ys.length : Int)) = false := by simp [hl]
    have hle : xs.length ≤ ys.length := by omega
    have HL := hideP hl
    clear hl
    go_enter Tryz.func71, Tryz.ntmps71
    go_wp2_with fail
    go_loopw [13] (EqInv w xs ys) (fun i _ => xs.length - (intOf i).toNat)
    case atStart => exact ⟨0, Nat.zero_le _, rfl, rfl, Below.refl _ _⟩
    case round =>
      obtain ⟨k, hk, rfl, heq, hb⟩ := hrel
      have HE := hideP heq
      clear heq
      by_cases hlt : k < xs.length
      · have hlt2 : k < ys.length := by omega
        obtain ⟨b, o, rfl, hbl, q1⟩ := h1.below hb k (.string xs[k]) (by simp [hlt])
        obtain ⟨b', o', rfl, hbl', q2⟩ := h2.below hb k (.string ys[k]) (by simp [hlt2])
        have HT := hideP (fun he => take_next_eq hlt hlt2 HE.out he)
        have HN := hideP (fun he => ne_of_get hlt hlt2 he)
        clear h1 h2
        generalize xs[k] = x at q1 HT HN
        generalize ys[k] = y at q2 HT HN
        have g1 : (0 : Int) ≤ (k : Int) := by omega
        have g2 : (k : Int) < (xs.length : Int) := by omega
        have g3 : (k : Int) < (ys.length : Int) := by omega
        by_cases he : x = y
        · have HT' := hideP (HT.out he)
          have d1 : (x.toList != y.toList) = false := by simp [he]
          have d2 := bytes_eq he
          clear he HT HN
          go_wp2_with fail
          go_quiet (fail)
          go_wp2_with fail
          go_roundw
          case rel => exact ⟨k + 1, by omega, by go_num, HT'.out, ⟨hb.os, hb.tape, hb.output, hb.size, hb.block⟩⟩
          case measure => simp [intOf] <;> omega
        · have HN' := hideP (HN.out he)
          have d1 : (x.toList != y.toList) = true := by unfold bne; rw [bytes_ne he]; rfl
          have d2 := bytes_ne he
          clear he HT HN
          go_wp2_with fail
          go_quiet (fail)
          go_wp2_with fail
          go_ret
          exact ⟨ret_bool (by rw [decide_eq_false HN'.out]), ⟨hb.os, hb.tape, hb.output, hb.size, hb.block⟩⟩
      · have HX := hideP (show xs = ys by have := HE.out; rwa [List.take_of_length_le (by omega), List.take_of_length_le (by have := HL.out; omega)] at this)
        go_wp2_with fail
        go_ret
        exact ⟨ret_bool (by rw [decide_eq_true HX.out]), hb⟩
  · have d0 : ((xs.length : Int) != (ys.length : Int)) = true := by simp; omega
    have HN := hideP (show xs ≠ ys from fun e => hl (by rw [e]))
    clear hl
    go_enter Tryz.func71, Tryz.ntmps71
    go_wp2_with fail
    go_ret
    exact ⟨ret_bool (by rw [decide_eq_false HN.out]), Below.refl _ _⟩

set_option maxHeartbeats 400000 in
set_option maxRecDepth 100000 in
theorem ieq_any (A1 A2 : Option Addr) (c1 c2 : Nat) (xs ys : List Int) (w : World) (h1 : IS w A1 xs) (h2 : IS w A2 ys) (l1 : xs.length ≤ 9223372036854775807) (l2 : ys.length ≤ 9223372036854775807) :
    Calls Tryz.prog 72 #[.slice A1 xs.length c1, .slice A2 ys.length c2] w fun e w' => e = .returned (.bool (decide (xs = ys))) ∧ Below w.heap.size w w' := by
  by_cases hl : xs.length = ys.length
  · have d0 : ((xs.length : Int) != (ys.length : Int)) = false := by simp [hl]
    have hle : xs.length ≤ ys.length := by omega
    have HL := hideP hl
    clear hl
    go_enter Tryz.func72, Tryz.ntmps72
    go_wp2_with fail
    go_loopw [13] (EqInv w xs ys) (fun i _ => xs.length - (intOf i).toNat)
    case atStart => exact ⟨0, Nat.zero_le _, rfl, rfl, Below.refl _ _⟩
    case round =>
      obtain ⟨k, hk, rfl, heq, hb⟩ := hrel
      have HE := hideP heq
      clear heq
      by_cases hlt : k < xs.length
      · have hlt2 : k < ys.length := by omega
        obtain ⟨b, o, rfl, hbl, q1⟩ := h1.below hb k xs[k] (List.getElem?_eq_getElem hlt)
        obtain ⟨b', o', rfl, hbl', q2⟩ := h2.below hb k ys[k] (List.getElem?_eq_getElem hlt2)
        have HT := hideP (fun he => take_next_eq hlt hlt2 HE.out he)
        have HN := hideP (fun he => ne_of_get hlt hlt2 he)
        clear h1 h2
        generalize xs[k] = x at q1 HT HN
        generalize ys[k] = y at q2 HT HN
        have g1 : (0 : Int) ≤ (k : Int) := by omega
        have g2 : (k : Int) < (xs.length : Int) := by omega
        have g3 : (k : Int) < (ys.length : Int) := by omega
        by_cases he : x = y
        · have HT' := hideP (HT.out he)
          have d1 : (x != y) = false := by simp [he]
          clear he HT HN
          go_wp2_with fail
          go_quiet (fail)
          go_wp2_with fail
          go_roundw
          case rel => exact ⟨k + 1, by omega, by go_num, HT'.out, ⟨hb.os, hb.tape, hb.output, hb.size, hb.block⟩⟩
          case measure => simp [intOf] <;> omega
        · have HN' := hideP (HN.out he)
          have d1 : (x != y) = true := by simp [he]
          clear he HT HN
          go_wp2_with fail
          go_quiet (fail)
          go_wp2_with fail
          go_ret
          exact ⟨ret_bool (by rw [decide_eq_false HN'.out]), ⟨hb.os, hb.tape, hb.output, hb.size, hb.block⟩⟩
      · have HX := hideP (show xs = ys by have := HE.out; rwa [List.take_of_length_le (by omega), List.take_of_length_le (by have := HL.out; omega)] at this)
        go_wp2_with fail
        go_ret
        exact ⟨ret_bool (by rw [decide_eq_true HX.out]), hb⟩
  · have d0 : ((xs.length : Int) != (ys.length : Int)) = true := by simp; omega
    have HN := hideP (show xs ≠ ys from fun e => hl (by rw [e]))
    clear hl
    go_enter Tryz.func72, Tryz.ntmps72
    go_wp2_with fail
    go_ret
    exact ⟨ret_bool (by rw [decide_eq_false HN.out]), Below.refl _ _⟩
end Go.Proofs.YtmepmiokpcddbabGreatDoor

set_option linter.unusedVariables false
set_option linter.unusedSimpArgs false
namespace Go.Proofs.YtmepmiokpcddbabGreatDoor
open Go.RowKit

/-- all blocks that were there, but those of one type, are as they were -/
def KpT (t : TypeId) (w w' : World) : Prop := ∀ i, i < w.heap.size → ¬ Ty w i t → w'.heap[i]? = w.heap[i]?
section
variable {t u : TypeId} {w w1 w2 : World}
theorem KpT.of_below (h : Below w.heap.size w w1) : KpT t w w1 := fun i hi _ => h.block i hi
theorem KpT.below (h : KpT t w w1) (hb : Below w1.heap.size w1 w2) (hs : w.heap.size ≤ w1.heap.size) : KpT t w w2 := fun i hi hn => (hb.block i (Nat.lt_of_lt_of_le hi hs)).trans (h i hi hn)
theorem KpT.grown {r : Option Nat} (h : KpT t w w1) (hg : w1.grownBy w2 r) (hr : ∀ i, r = some i → Ty w i t) (hs : w.heap.size ≤ w1.heap.size) : KpT t w w2 :=
  fun i hi hn => (hg.block i (Nat.lt_of_lt_of_le hi hs) (fun e => hn (hr i e.symm))).trans (h i hi hn)
theorem own_kpt {B s n : Nat} {v : Value} {xs : List Value} (h : w.ownsRow B u s v n xs) (hk : KpT t w w1) (hne : u ≠ t) : w1.ownsRow B u s v n xs :=
  ⟨h.1, h.2.imp id fun ⟨g, cap, cur, h1, h2, h3, h4⟩ => ⟨g, cap, cur, h1, h2, (hk g (Array.getElem?_eq_some_iff.1 h3).1 (fun ty => hne (Ty.inj (⟨_, _, h3⟩ : Ty w g u) ty))).trans h3, h4⟩⟩
end
end Go.Proofs.YtmepmiokpcddbabGreatDoor

set_option linter.unusedVariables false
set_option linter.unusedSimpArgs false
namespace Go.Proofs.YtmepmiokpcddbabGreatDoor
open Go.RowKit

/-- a slice of the call's own -/
structure SvSF where
  A : Option Addr
  c : Nat
  zs : List ByteArray
def SvSF.v (s : SvSF) : Value := .slice s.A s.zs.length s.c
def SvSF.o (s : SvSF) (w : World) (B : Nat) : Prop := OR w B 9 s.A s.c (s.zs.map Value.string)
theorem rowsSInfoF : (Tryz.prog.info? 25).map (fun i => (i.zero, i.size, i.bytes)) = some (some (.slice none 0 0), 1, 24) := by kernel_rfl
theorem oneSF (zs : List ByteArray) : ∀ u ∈ zs.map Value.string, u.oneCell' = true := by intro u hu; obtain ⟨x, _, rfl⟩ := List.mem_map.1 hu; rfl
theorem SvSF.o.keep {s : SvSF} {w w' : World} {B : Nat} {r : Option Nat} (h : s.o w B) (hg : w.grownBy w' r) (hne : blk s.A = none ∨ blk s.A ≠ r) : s.o w' B := World.ownsRow.kept h hg (by rw [ownBlock_slice]; exact hne)
/-- slices that lie in a slice, each in a block of its own -/
structure ApsSF (w : World) (B ga : Nat) (ss : List SvSF) : Prop where
  bx : Box w ga 25 (ss.map SvSF.v).toArray
  ow : ∀ s ∈ ss, s.o w B
  sm : ∀ s ∈ ss, s.zs.length ≤ 1000000
  ap : ∀ (i j : Nat) (s s' : SvSF), i ≠ j → ss[i]? = some s → ss[j]? = some s' → blk s.A = none ∨ blk s.A ≠ blk s'.A
/-- the copies -/
structure WanSF (w wr : World) (ss ws : List SvSF) (Aw : Option Addr) (cw : Nat) : Prop where
  row : OR wr w.heap.size 25 Aw cw (ws.map SvSF.v)
  ow : ∀ s ∈ ws, s.o wr w.heap.size
  eq : ∀ (j : Nat) (s s' : SvSF), ws[j]? = some s → ss[j]? = some s' → s.zs = s'.zs
theorem WanSF.below {w wr w' : World} {ss ws : List SvSF} {Aw : Option Addr} {cw : Nat} (h : WanSF w wr ss ws Aw cw) (hb : Below wr.heap.size wr w') : WanSF w w' ss ws Aw cw := ⟨h.row.below hb, fun s hs => OR.below (h.ow s hs) hb, h.eq⟩
/-- the blocks of the slices -/
def ApBSF (ss : List SvSF) (k : Nat) : Prop := ∃ s ∈ ss, blk s.A = some k
def Ap1SF (w : World) (ss : List SvSF) (v i : Value) (wr : World) : Prop := ∃ (k : Nat) (ws : List SvSF) (Aw : Option Addr) (cw : Nat), k ≤ ss.length ∧ i = .int .i64 k ∧ v = .slice Aw ws.length cw ∧ ws.length = k ∧ WanSF w wr ss ws Aw cw ∧ Below w.heap.size w wr
def Ap2SF (w : World) (B ga : Nat) (ss ws : List SvSF) (Aw : Option Addr) (cw : Nat) (i : Value) (wr : World) : Prop := ∃ k : Nat, k ≤ ss.length ∧ i = .int .i64 k ∧ WanSF w wr ss ws Aw cw ∧ Box wr ga 25 (ss.map SvSF.v).toArray ∧ (∀ (j : Nat) (s : SvSF), k ≤ j → ss[j]? = some s → s.o wr B) ∧ Below B w wr ∧ w.heap.size ≤ wr.heap.size ∧ (KpT 9 w wr ∧ Fr (ApBSF ss) w wr)

set_option maxHeartbeats 2000000 in
set_option maxRecDepth 100000 in
theorem apartS_fr (B ga cg : Nat) (ss : List SvSF) (x : ByteArray) (w : World) (h : ApsSF w B ga ss) (hB : B ≤ w.heap.size) (hn : ss.length ≤ 1000) :
    Calls Tryz.prog 49 #[.string x, .slice (some ⟨ga, 0, none⟩) ss.length cg] w fun e w' => e = .returned (.bool true) ∧ Below B w w' ∧ Fr (ApBSF ss) w w' := by
  go_enter Tryz.func49, Tryz.ntmps49
  go_wp2_with fail
  go_loopw [5, 12] (Ap1SF w ss) (fun _ i _ => ss.length - (intOf i).toNat)
  case atStart => exact ⟨0, [], none, 0, Nat.zero_le _, rfl, rfl, rfl, ⟨OR.nil _ _ _, (fun s hs => by cases hs), (fun j s s' hs => by simp at hs)⟩, Below.refl _ _⟩
  case round =>
    obtain ⟨k, ws, Aw, cw, hk, rfl, rfl, hwl, hW, hb⟩ := hrel
    by_cases hkl : k < ss.length
    · have hbx := h.bx.below hb
      have c1 := hbx.cell k (v := ss[k].v) (by simp [hkl])
      have hs0 := OR.below (h.ow _ (List.getElem_mem hkl)) hb
      have hsm := h.sm _ (List.getElem_mem hkl)
      have HEQ := hideP (show ∀ s', ss[k]? = some s' → ss[k].zs = s'.zs from fun s' hs => by rw [List.getElem?_eq_getElem hkl] at hs; injection hs with hs; rw [hs])
      generalize ss[k] = s at c1 hs0 hsm HEQ
      obtain ⟨A0, c0, zs⟩ := s
      simp only [SvSF.v, SvSF.o] at c1 hs0 hsm HEQ
      have HCL := hideP (cloneS_any B A0 c0 (zs.map Value.string) wr hs0 (oneSF zs) (by rw [List.length_map]; exact hsm))
      simp only [List.length_map] at HCL
      have g1 : (0 : Int) ≤ (k : Int) := by omega
      have g2 : (k : Int) < (ss.length : Int) := by omega
      have HWL := hideP hwl
      clear hbx hs0 hwl
      go_wp2_with fail
      refine HCL.out.mono ?_
      rintro e w1 ⟨A1, c1', rfl, ho1, hb1⟩
      have hW1 := hW.below hb1
      have hb2 := hb.trans (hb1.mono hb.size)
      have ho1' := ho1.mono hb.size
      obtain ⟨A', c', w2, hrun, hr2, hbl2, hg2, _⟩ := app_row (P := Tryz.prog) Tryz.underlying79 rowsSInfoF rfl w1 w.heap.size 79 Aw cw _ hW1.row [.slice A1 zs.length c1'] (by simp [Value.oneCell']) (by rw [List.length_map, HWL.out]; simp only [List.length_singleton]; omega) (by decide) hb2.size
      have hb3 := hbl2 w.heap.size w (Nat.le_refl _) hb2
      have hal := (Below.refl w1.heap.size w1).alloc (Nat.le_refl _) (.cells #[.slice A1 zs.length c1'] 25)
      have hX : ws.map SvSF.v ++ [Value.slice A1 zs.length c1'] = (ws ++ [(⟨A1, c1', zs⟩ : SvSF)]).map SvSF.v := by simp [SvSF.v]
      rw [hX] at hrun hr2
      rw [List.length_map, List.length_map] at hrun
      have hne : ∀ {xs : List Value} {a : Option Addr} {cc : Nat} {B' : Nat}, OR (w1.alloc (.cells #[.slice A1 zs.length c1'] 25)) B' 9 a cc xs → (Value.slice a xs.length cc).ownBlock = none ∨ (Value.slice a xs.length cc).ownBlock ≠ (Value.slice Aw (ws.map SvSF.v).length cw).ownBlock := fun ho => rows_ne ho (hW1.row.below hal) (by decide)
      have hW2 : WanSF w w2 ss (ws ++ [⟨A1, c1', zs⟩]) A' c' := by
        refine ⟨hr2, fun s hs => ?_, fun j s s' hs hs' => ?_⟩
        · rcases List.mem_append.1 hs with hs | hs
          · exact World.ownsRow.kept (OR.below (hW1.ow s hs) hal) hg2 (hne (OR.below (hW1.ow s hs) hal))
          · rw [List.mem_singleton.1 hs]
            exact World.ownsRow.kept (OR.below ho1' hal) hg2 (hne (OR.below ho1' hal))
        · rcases Nat.lt_or_ge j ws.length with hj | hj
          · rw [List.getElem?_append_left hj] at hs
            exact hW1.eq j s s' hs hs'
          · have hjk : j = k := by
              rcases Nat.lt_or_ge j (ws.length + 1) with h | h
              · have := HWL.out; omega
              · rw [List.getElem?_eq_none (by simp; omega)] at hs; cases hs
            subst hjk
            rw [List.getElem?_append_right hj] at hs
            have := HWL.out
            rw [show j - ws.length = 0 by omega] at hs
            simp at hs
            rw [← hs]
            exact HEQ.out s' hs'
      have HR := hideP hrun
      clear hrun hX hne hr2 hg2 hbl2 hW hW1 ho1 ho1' hb1 HCL hal hb hb2
      go_wp2_with (at_builtin; refine Lib.wpList_append_run _ rfl _ _ _ _ rfl _ _ rfl rfl _ _ HR.out ?_)
      go_roundw
      case rel => exact ⟨k + 1, ws ++ [⟨A1, c1', zs⟩], A', c', by omega, by go_num, by simp, by simp [HWL.out], hW2, hb3⟩
      case measure => simp [intOf]; omega
    · have hwn : ws.length = ss.length := by omega
      have HWN := hideP hwn
      clear hwl hwn
      go_wp2_with fail
      go_loopw [24] (Ap2SF w B ga ss ws Aw cw) (fun i _ => ss.length - (intOf i).toNat)
      case atStart => exact ⟨0, Nat.zero_le _, rfl, hW, h.bx.below hb, fun j s _ hs => OR.below (h.ow s (List.mem_of_getElem? hs)) hb, hb.mono hB, hb.size, KpT.of_below hb, Fr.of_below hb⟩
      case round =>
        clear hW hb
        obtain ⟨j, hj, rfl, hW, hbx, hrest, hbB, hsz, hkt⟩ := hrel
        by_cases hjl : j < ss.length
        · have hjw : j < ws.length := by have := HWN.out; omega
          have c1 := hbx.cell j (v := ss[j].v) (by simp [hjl])
          obtain ⟨b, o, rfl, hbl, c2⟩ := hW.row.vs j ws[j].v (by simp [hjw])
          have hs0 := hrest j _ (Nat.le_refl _) (List.getElem?_eq_getElem hjl)
          have hs1 := hW.ow _ (List.getElem_mem hjw)
          have hsm := h.sm _ (List.getElem_mem hjl)
          have heq := hW.eq j _ _ (List.getElem?_eq_getElem hjw) (List.getElem?_eq_getElem hjl)
          have HAP := hideP (fun (i : Nat) (s : SvSF) (hi : i ≠ j) (hs : ss[i]? = some s) => h.ap i j s _ hi hs (List.getElem?_eq_getElem hjl))
          have HLT := hideP (show ∀ r, blk ss[j].A = some r → r < w.heap.size from fun r hr => (World.ownsRow.lt (h.ow _ (List.getElem_mem hjl)) r (by rw [ownBlock_slice]; exact hr)).2)
          have HFS := hideP (show ∀ r, blk ss[j].A = some r → ApBSF ss r from fun r hr => ⟨_, List.getElem_mem hjl, hr⟩)
          have HTY := hideP (show ∀ r, blk ss[j].A = some r → Ty w r 9 from fun r hr => own_ty (h.ow _ (List.getElem_mem hjl)) (by rw [ownBlock_slice]; exact hr))
          have HLO := hideP (show ∀ r, blk ss[j].A = some r → B ≤ r from fun r hr => (World.ownsRow.lt (h.ow _ (List.getElem_mem hjl)) r (by rw [ownBlock_slice]; exact hr)).1)
          generalize ss[j] = s at c1 hs0 hsm heq HAP HLT HLO HTY HFS
          generalize ws[j] = s1 at c2 hs1 heq
          obtain ⟨A0, c0, zs⟩ := s
          obtain ⟨A1, c1', zs1⟩ := s1
          simp only [SvSF.v, SvSF.o] at c1 c2 hs0 hs1 hsm heq HAP HLT HLO HTY HFS
          subst heq
          have HEQ := hideP (sequal_any A0 A1 c0 c1' zs1 zs1 wr hs0.vs hs1.vs (by omega) (by omega))
          simp only [decide_true] at HEQ
          have g1 : (0 : Int) ≤ (j : Int) := by omega
          have g2 : (j : Int) < (ss.length : Int) := by omega
          have g3 : (j : Int) < (ws.length : Int) := by omega
          go_wp2_with fail
          refine HEQ.out.mono ?_
          rintro e w1 ⟨rfl, hb1⟩
          replace hW := hW.below hb1
          replace hbx := hbx.below hb1
          replace hs0 := hs0.below hb1
          have hrest1 : ∀ (i : Nat) (s : SvSF), j + 1 ≤ i → ss[i]? = some s → s.o w1 B := fun i s hi hs => OR.below (hrest i s (by omega) hs) hb1
          have hbB1 := hbB.trans (hb1.mono (Nat.le_trans hB hsz))
          have hsz1 := Nat.le_trans hsz hb1.size
          have hkt1 := hkt.1.below hb1 hsz
          have hfr1 := hkt.2.trans (Fr.of_below (F := fun _ => False) hb1) (fun _ e => e.elim)
          clear hkt
          have HSP := hideP (spoilS_any B A0 c0 (zs1.map Value.string) x w1 hs0)
          simp only [List.length_map] at HSP
          have hty : ∀ r, blk A0 = some r → Ty w1 r 9 := fun r hr => own_ty hs0 (by rw [ownBlock_slice]; exact hr)
          clear HEQ hs1 hb1 hrest hbB hsz c1 c2
          go_wp2_with fail
          refine HSP.out.mono ?_
          rintro e w2 ⟨rfl, hg2⟩
          have hF : Ap2SF w B ga ss ws (some ⟨b, o, none⟩) cw (.int .i64 ((j + 1 : Nat) : Int)) w2 := by
            have far : ∀ {t : TypeId} {a : Option Addr} {cc : Nat} {xs : List Value}, OR w1 w.heap.size t a cc xs → (Value.slice a xs.length cc).ownBlock = none ∨ (Value.slice a xs.length cc).ownBlock ≠ blk A0 := fun {t a cc xs} ho => by
              cases hbk : (Value.slice a xs.length cc).ownBlock with
              | none => exact .inl rfl
              | some r =>
                refine .inr fun e => ?_
                have h1 := (World.ownsRow.lt ho r hbk).1
                have h2 := HLT.out r e.symm
                omega
            refine ⟨j + 1, by omega, rfl, ⟨World.ownsRow.kept hW.row hg2 (far hW.row), fun s hs => World.ownsRow.kept (hW.ow s hs) hg2 (far (hW.ow s hs)), hW.eq⟩, ?_, fun i s hi hs => (hrest1 i s hi hs).keep hg2 (HAP.out i s (by omega) hs), ?_, Nat.le_trans hsz1 hg2.size, hkt1.grown hg2 (fun i hi => HTY.out i hi) hsz1, hfr1.comp (Fr.of_grown hg2 fun i hi => HFS.out i hi)⟩
            · exact hbx.grown hg2 fun e => by
                have := hty ga e.symm
                exact absurd (this.inj hbx.ty) (by decide)
            · exact hbB1.grown hg2 (Nat.le_trans hB hsz1) fun r hr => HLO.out r hr
          have HF := hideP hF
          clear hF HSP hg2 hW hbx hs0 hrest1 hbB1 hsz1 hty
          go_wp2_with fail
          go_roundw
          case rel => exact HF.out
          case measure => simp [intOf]; omega
        · go_wp2_with fail
          go_ret
          exact ⟨rfl, hbB, hkt.2⟩
end Go.Proofs.YtmepmiokpcddbabGreatDoor

set_option linter.unusedVariables false
set_option linter.unusedSimpArgs false
namespace Go.Proofs.YtmepmiokpcddbabGreatDoor
open Go.RowKit

set_option maxHeartbeats 1000000 in
set_option maxRecDepth 100000 in
theorem spoilI_any (B : Nat) (A : Option Addr) (c : Nat) (xs : List Value) (x : Int) (w : World) (hA : OR w B 3 A c xs) :
    Calls Tryz.prog 47 #[.slice A xs.length c, .int .i64 x] w fun e w' => e = .returned (.tuple #[]) ∧ w.grownBy w' (blk A) := by
  rcases hA.2 with ⟨hv, h0⟩ | ⟨g, cap, cur, hv, hB, hbk, h1, h2, h3, h4⟩
  · injection hv with e1 e2 e3
    subst e1; subst e3
    rw [e2]
    go_enter Tryz.func47, Tryz.ntmps47
    go_wp2_with fail
    go_loopw [11] (fun i wr => i = .int .i64 0 ∧ w = wr) (fun _ _ => 0)
    case atStart => exact ⟨rfl, rfl⟩
    case round =>
      obtain ⟨rfl, rfl⟩ := hrel
      go_wp2_with fail
      go_end0
      exact ⟨rfl, ⟨rfl, rfl, rfl, Nat.le_refl _, fun _ _ _ => rfl⟩⟩
  · injection hv with e1 e2 e3
    subst e1; subst e3
    have hbx : Box w g 3 cur := hbk
    have gl : (xs.length : Int) ≤ (c : Int) := by omega
    have hc : c ≤ 9223372036854775807 := by unfold maxLen at h2; exact h2
    have hS : (∃ cur, Box w g 3 cur ∧ cur.size = c) ∧ w.grownBy w (some g) := ⟨⟨cur, hbx, by omega⟩, ⟨rfl, rfl, rfl, Nat.le_refl _, fun _ _ _ => rfl⟩⟩
    clear hA hbk h4 hbx h3
    go_enter Tryz.func47, Tryz.ntmps47
    go_wp2_with fail
    go_loopw [11] (fun i wr => ∃ k : Nat, k ≤ c ∧ i = .int .i64 k ∧ (∃ cur, Box wr g 3 cur ∧ cur.size = c) ∧ w.grownBy wr (some g)) (fun i _ => c - (intOf i).toNat)
    case atStart => exact ⟨0, Nat.zero_le _, rfl, hS⟩
    case round =>
      clear hS
      obtain ⟨k, hk, rfl, ⟨cr, hcr, hsz⟩, hgr⟩ := hrel
      by_cases hkc : k < c
      · have g1 : (0 : Int) ≤ (k : Int) := by omega
        have g2 : (k : Int) < (c : Int) := by omega
        have hi0 : k < cr.size := by omega
        have d0 := hcr.cell k (v := cr[k]) (by simp [hi0])
        have f0 := hcr.frozen k
        have o1 := hcr.set k (.int .i64 x)
        have ga := grown_set wr g k (.int .i64 x)
        have HN := hideP (show (∃ cur, Box (wr.setCell ⟨g, k, none⟩ (.int .i64 x)) g 3 cur ∧ cur.size = c) ∧ w.grownBy (wr.setCell ⟨g, k, none⟩ (.int .i64 x)) (some g) from ⟨⟨_, o1, by simp [hsz]⟩, ⟨ga.os.trans hgr.os, ga.tape.trans hgr.tape, ga.output.trans hgr.output, Nat.le_trans hgr.size ga.size, fun i hi hne => (ga.block i (Nat.lt_of_lt_of_le hi hgr.size) hne).trans (hgr.block i hi hne)⟩⟩)
        clear o1 hcr hgr hsz ga
        go_wp2_with fail
        go_roundw
        case rel => exact ⟨k + 1, by omega, by go_num, HN.out⟩
        case measure => simp [intOf]; omega
      · go_wp2_with fail
        go_end0
        exact ⟨rfl, hgr⟩
end Go.Proofs.YtmepmiokpcddbabGreatDoor

set_option linter.unusedVariables false
set_option linter.unusedSimpArgs false
namespace Go.Proofs.YtmepmiokpcddbabGreatDoor
open Go.RowKit

theorem or_emptyI {w : World} {g B : Nat} (h : Box w g 3 #[]) (hB : B ≤ g) : OR w B 3 (some ⟨g, 0, none⟩) 0 [] :=
  ⟨rfl, .inr ⟨g, 0, #[], rfl, hB, h, Nat.le_refl _, by simp [maxLen], by simp, rfl⟩⟩
set_option maxHeartbeats 400000 in
set_option maxRecDepth 100000 in
theorem cloneI_any (B : Nat) (A : Option Addr) (c : Nat) (xs : List Value) (w : World) (hA : OR w B 3 A c xs) (h1 : ∀ u ∈ xs, u.oneCell' = true) (hn : xs.length ≤ 1000000) :
    Calls Tryz.prog 45 #[.slice A xs.length c] w fun e w' => ∃ A' c', e = .returned (.slice A' xs.length c') ∧ OR w' w.heap.size 3 A' c' xs ∧ Below w.heap.size w w' := by
  have q22 : ∀ (w : World) (a : Option Addr) (n c n' c' : Nat), (binOp .eql 26 (.slice a n c) (.slice none n' c')).run Tryz.prog w = .ok (.bool a.isNone) w := fun w a n c n' c' => Lib.run_eql_slice_nil w _ _ a n c n' c' Tryz.underlying26
  obtain ⟨k1, k2, k3, k4⟩ := hA.caps
  cases A with
  | none =>
    have h0 : c = 0 := k3 rfl
    have hl : xs = [] := List.length_eq_zero_iff.1 (by omega)
    subst h0; subst hl
    clear hA
    go_enter Tryz.func45, Tryz.ntmps45
    go_wp2_with fail
    go_ret
    exact ⟨none, 0, rfl, OR.nil _ _ _, Below.refl _ _⟩
  | some a =>
    have hb := (Below.refl w.heap.size w).alloc (Nat.le_refl _) (.cells #[] 3)
    have ho := or_emptyI (B := w.heap.size) (Box.new w 3 #[]) (Nat.le_refl _)
    obtain ⟨A', c', w1, hrun, hown', hg'⟩ := app_srcS (P := Tryz.prog) Tryz.underlying26 intInfo rfl (w.alloc (.cells #[] 3)) w.heap.size 26 _ _ _ ho (some a) c xs (hA.vs.below hb) h1 (by simp; omega) (by decide) hb.size
    have hb1 : Below w.heap.size w w1 := hb.grown hg' hb.size (fun j hj => (World.ownsRow.lt ho j hj).1)
    rw [List.nil_append] at hrun hown'
    have HR := hideP hrun
    clear hrun hg' ho hA
    go_enter Tryz.func45, Tryz.ntmps45
    go_wp2_with (at_builtin; refine Lib.wpList_append_run _ rfl _ _ _ _ rfl _ _ rfl rfl _ _ HR.out ?_)
    go_ret
    exact ⟨A', c', rfl, hown', hb1⟩
end Go.Proofs.YtmepmiokpcddbabGreatDoor
