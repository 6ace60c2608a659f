/-
  slices.Equal at strings and at ints, whatever the two slices hold.
  rokeep.apart at int.
-/
import Derived.Test.YtpefdonhacmaoaaGreatBo17
import Derived.Test.YtpefdonhacmaoaaGreatBo8
import Derived.WalkKit
import Derived.WalkSpells
import Derived.WalkLawsBesides
import Derived.Deep.QuietTactic
import Derived.BigQuiet
import Derived.Test.YtpefdonhacmaoaaGreatBo41
set_option linter.unusedVariables false
set_option linter.unusedSimpArgs false
namespace Go.Proofs.YtpefdonhacmaoaaGreat
open Go.RowKit

theorem take_next_eq {α : Type} {xs ys : List α} {k : Nat} (hx : k < xs.length) (hy : k < ys.length) (h : xs.take k = ys.take k) (he : xs[k] = ys[k]) : xs.take (k + 1) = ys.take (k + 1) := by
  rw [List.take_succ_eq_append_getElem hx, List.take_succ_eq_append_getElem hy, h, he]
theorem ne_of_get {α : Type} {xs ys : List α} {k : Nat} (hx : k < xs.length) (hy : k < ys.length) (he : xs[k] ≠ ys[k]) : xs ≠ ys := fun e => by subst e; exact he rfl
def EqInv {α : Type} (w : World) (xs ys : List α) (i : Value) (wr : World) : Prop := ∃ k : Nat, k ≤ xs.length ∧ i = .int .i64 k ∧ xs.take k = ys.take k ∧ Below w.heap.size w wr

set_option maxHeartbeats 400000 in
set_option maxRecDepth 100000 in
theorem sequal_any (A1 A2 : Option Addr) (c1 c2 : Nat) (xs ys : List ByteArray) (w : World) (h1 : VS w A1 (xs.map Value.string)) (h2 : VS w A2 (ys.map Value.string)) (l1 : xs.length ≤ 9223372036854775807) (l2 : ys.length ≤ 9223372036854775807) :
    Calls Tryz.prog 45 #[.slice A1 xs.length c1, .slice A2 ys.length c2] w fun e w' => e = .returned (.bool (decide (xs = ys))) ∧ Below w.heap.size w w' := by
  by_cases hl : xs.length = ys.length
  · have d0 : ((xs.length : Int) != (ys.length : Int)) = false := by simp [hl]
    have hle : xs.length ≤ ys.length := by omega
    have HL := hideP hl
    clear hl
    go_enter Tryz.func45, Tryz.ntmps45
    go_wp2_with fail
    go_loopw [13] (EqInv w xs ys) (fun i _ => xs.length - (intOf i).toNat)
    case atStart => exact ⟨0, Nat.zero_le _, rfl, rfl, Below.refl _ _⟩
    case round =>
      obtain ⟨k, hk, rfl, heq, hb⟩ := hrel
      have HE := hideP heq
      clear heq
      by_cases hlt : k < xs.length
      · have hlt2 : k < ys.length := by omega
        obtain ⟨b, o, rfl, hbl, q1⟩ := h1.below hb k (.string xs[k]) (by simp [hlt])
        obtain ⟨b', o', rfl, hbl', q2⟩ := h2.below hb k (.string ys[k]) (by simp [hlt2])
        have HT := hideP (fun he => take_next_eq hlt hlt2 HE.out he)
        have HN := hideP (fun he => ne_of_get hlt hlt2 he)
        clear h1 h2
        generalize xs[k] = x at q1 HT HN
        generalize ys[k] = y at q2 HT HN
        have g1 : (0 : Int) ≤ (k : Int) := by omega
        have g2 : (k : Int) < (xs.length : Int) := by omega
        have g3 : (k : Int) < (ys.length : Int) := by omega
        by_cases he : x = y
        · have HT' := hideP (HT.out he)
          have d1 : (x.toList != y.toList) = false := by simp [he]
          have d2 := bytes_eq he
          clear he HT HN
          go_wp2_with fail
          go_quiet (fail)
          go_wp2_with fail
          go_roundw
          case rel => exact ⟨k + 1, by omega, by go_num, HT'.out, ⟨hb.os, hb.tape, hb.output, hb.size, hb.block⟩⟩
          case measure => simp [intOf] <;> omega
        · have HN' := hideP (HN.out he)
          have d1 : (x.toList != y.toList) = true := by unfold bne; rw [bytes_ne he]; rfl
          have d2 := bytes_ne he
          clear he HT HN
          go_wp2_with fail
          go_quiet (fail)
          go_wp2_with fail
          go_ret
          exact ⟨ret_bool (by rw [decide_eq_false HN'.out]), ⟨hb.os, hb.tape, hb.output, hb.size, hb.block⟩⟩
      · have HX := hideP (show xs = ys by have := HE.out; rwa [List.take_of_length_le (by omega), List.take_of_length_le (by have := HL.out; omega)] at this)
        go_wp2_with fail
        go_ret
        exact ⟨ret_bool (by rw [decide_eq_true HX.out]), hb⟩
  · have d0 : ((xs.length : Int) != (ys.length : Int)) = true := by simp; omega
    have HN := hideP (show xs ≠ ys from fun e => hl (by rw [e]))
    clear hl
    go_enter Tryz.func45, Tryz.ntmps45
    go_wp2_with fail
    go_ret
    exact ⟨ret_bool (by rw [decide_eq_false HN.out]), Below.refl _ _⟩

set_option maxHeartbeats 400000 in
set_option maxRecDepth 100000 in
theorem ieq_any (A1 A2 : Option Addr) (c1 c2 : Nat) (xs ys : List Int) (w : World) (h1 : IS w A1 xs) (h2 : IS w A2 ys) (l1 : xs.length ≤ 9223372036854775807) (l2 : ys.length ≤ 9223372036854775807) :
    Calls Tryz.prog 44 #[.slice A1 xs.length c1, .slice A2 ys.length c2] w fun e w' => e = .returned (.bool (decide (xs = ys))) ∧ Below w.heap.size w w' := by
  by_cases hl : xs.length = ys.length
  · have d0 : ((xs.length : Int) != (ys.length : Int)) = false := by simp [hl]
    have hle : xs.length ≤ ys.length := by omega
    have HL := hideP hl
    clear hl
    go_enter Tryz.func44, Tryz.ntmps44
    go_wp2_with fail
    go_loopw [13] (EqInv w xs ys) (fun i _ => xs.length - (intOf i).toNat)
    case atStart => exact ⟨0, Nat.zero_le _, rfl, rfl, Below.refl _ _⟩
    case round =>
      obtain ⟨k, hk, rfl, heq, hb⟩ := hrel
      have HE := hideP heq
      clear heq
      by_cases hlt : k < xs.length
      · have hlt2 : k < ys.length := by omega
        obtain ⟨b, o, rfl, hbl, q1⟩ := h1.below hb k xs[k] (List.getElem?_eq_getElem hlt)
        obtain ⟨b', o', rfl, hbl', q2⟩ := h2.below hb k ys[k] (List.getElem?_eq_getElem hlt2)
        have HT := hideP (fun he => take_next_eq hlt hlt2 HE.out he)
        have HN := hideP (fun he => ne_of_get hlt hlt2 he)
        clear h1 h2
        generalize xs[k] = x at q1 HT HN
        generalize ys[k] = y at q2 HT HN
        have g1 : (0 : Int) ≤ (k : Int) := by omega
        have g2 : (k : Int) < (xs.length : Int) := by omega
        have g3 : (k : Int) < (ys.length : Int) := by omega
        by_cases he : x = y
        · have HT' := hideP (HT.out he)
          have d1 : (x != y) = false := by simp [he]
          clear he HT HN
          go_wp2_with fail
          go_quiet (fail)
          go_wp2_with fail
          go_roundw
          case rel => exact ⟨k + 1, by omega, by go_num, HT'.out, ⟨hb.os, hb.tape, hb.output, hb.size, hb.block⟩⟩
          case measure => simp [intOf] <;> omega
        · have HN' := hideP (HN.out he)
          have d1 : (x != y) = true := by simp [he]
          clear he HT HN
          go_wp2_with fail
          go_quiet (fail)
          go_wp2_with fail
          go_ret
          exact ⟨ret_bool (by rw [decide_eq_false HN'.out]), ⟨hb.os, hb.tape, hb.output, hb.size, hb.block⟩⟩
      · have HX := hideP (show xs = ys by have := HE.out; rwa [List.take_of_length_le (by omega), List.take_of_length_le (by have := HL.out; omega)] at this)
        go_wp2_with fail
        go_ret
        exact ⟨ret_bool (by rw [decide_eq_true HX.out]), hb⟩
  · have d0 : ((xs.length : Int) != (ys.length : Int)) = true := by simp; omega
    have HN := hideP (show xs ≠ ys from fun e => hl (by rw [e]))
    clear hl
    go_enter Tryz.func44, Tryz.ntmps44
    go_wp2_with fail
    go_ret
    exact ⟨ret_bool (by rw [decide_eq_false HN.out]), Below.refl _ _⟩
end Go.Proofs.YtpefdonhacmaoaaGreat

set_option linter.unusedVariables false
set_option linter.unusedSimpArgs false
namespace Go.Proofs.YtpefdonhacmaoaaGreat
open Go.RowKit

/-- a slice of the call's own -/
structure SvI where
  A : Option Addr
  c : Nat
  zs : List Int
def SvI.v (s : SvI) : Value := .slice s.A s.zs.length s.c
def SvI.o (s : SvI) (w : World) (B : Nat) : Prop := OR w B 3 s.A s.c (s.zs.map (Value.int .i64))
theorem rowsIInfo : (Tryz.prog.info? 22).map (fun i => (i.zero, i.size, i.bytes)) = some (some (.slice none 0 0), 1, 24) := by kernel_rfl
theorem oneI (zs : List Int) : ∀ u ∈ zs.map (Value.int .i64), u.oneCell' = true := by intro u hu; obtain ⟨x, _, rfl⟩ := List.mem_map.1 hu; rfl
theorem SvI.o.keep {s : SvI} {w w' : World} {B : Nat} {r : Option Nat} (h : s.o w B) (hg : w.grownBy w' r) (hne : blk s.A = none ∨ blk s.A ≠ r) : s.o w' B := World.ownsRow.kept h hg (by rw [ownBlock_slice]; exact hne)
/-- slices that lie in a slice, each in a block of its own -/
structure ApsI (w : World) (B ga : Nat) (ss : List SvI) : Prop where
  bx : Box w ga 22 (ss.map SvI.v).toArray
  ow : ∀ s ∈ ss, s.o w B
  sm : ∀ s ∈ ss, s.zs.length ≤ 1000000
  ap : ∀ (i j : Nat) (s s' : SvI), i ≠ j → ss[i]? = some s → ss[j]? = some s' → blk s.A = none ∨ blk s.A ≠ blk s'.A
/-- the copies -/
structure WanI (w wr : World) (ss ws : List SvI) (Aw : Option Addr) (cw : Nat) : Prop where
  row : OR wr w.heap.size 22 Aw cw (ws.map SvI.v)
  ow : ∀ s ∈ ws, s.o wr w.heap.size
  eq : ∀ (j : Nat) (s s' : SvI), ws[j]? = some s → ss[j]? = some s' → s.zs = s'.zs
theorem WanI.below {w wr w' : World} {ss ws : List SvI} {Aw : Option Addr} {cw : Nat} (h : WanI w wr ss ws Aw cw) (hb : Below wr.heap.size wr w') : WanI w w' ss ws Aw cw := ⟨h.row.below hb, fun s hs => OR.below (h.ow s hs) hb, h.eq⟩
def Ap1I (w : World) (ss : List SvI) (v i : Value) (wr : World) : Prop := ∃ (k : Nat) (ws : List SvI) (Aw : Option Addr) (cw : Nat), k ≤ ss.length ∧ i = .int .i64 k ∧ v = .slice Aw ws.length cw ∧ ws.length = k ∧ WanI w wr ss ws Aw cw ∧ Below w.heap.size w wr
def Ap2I (w : World) (B ga : Nat) (ss ws : List SvI) (Aw : Option Addr) (cw : Nat) (i : Value) (wr : World) : Prop := ∃ k : Nat, k ≤ ss.length ∧ i = .int .i64 k ∧ WanI w wr ss ws Aw cw ∧ Box wr ga 22 (ss.map SvI.v).toArray ∧ (∀ (j : Nat) (s : SvI), k ≤ j → ss[j]? = some s → s.o wr B) ∧ Below B w wr ∧ w.heap.size ≤ wr.heap.size ∧ KpT 3 w wr

set_option maxHeartbeats 2000000 in
set_option maxRecDepth 100000 in
theorem apartI_any (B ga cg : Nat) (ss : List SvI) (x : Int) (w : World) (h : ApsI w B ga ss) (hB : B ≤ w.heap.size) (hn : ss.length ≤ 1000) :
    Calls Tryz.prog 47 #[.int .i64 x, .slice (some ⟨ga, 0, none⟩) ss.length cg] w fun e w' => e = .returned (.bool true) ∧ Below B w w' ∧ KpT 3 w w' := by
  go_enter Tryz.func47, Tryz.ntmps47
  go_wp2_with fail
  go_loopw [5, 12] (Ap1I w ss) (fun _ i _ => ss.length - (intOf i).toNat)
  case atStart => exact ⟨0, [], none, 0, Nat.zero_le _, rfl, rfl, rfl, ⟨OR.nil _ _ _, (fun s hs => by cases hs), (fun j s s' hs => by simp at hs)⟩, Below.refl _ _⟩
  case round =>
    obtain ⟨k, ws, Aw, cw, hk, rfl, rfl, hwl, hW, hb⟩ := hrel
    by_cases hkl : k < ss.length
    · have hbx := h.bx.below hb
      have c1 := hbx.cell k (v := ss[k].v) (by simp [hkl])
      have hs0 := OR.below (h.ow _ (List.getElem_mem hkl)) hb
      have hsm := h.sm _ (List.getElem_mem hkl)
      have HEQ := hideP (show ∀ s', ss[k]? = some s' → ss[k].zs = s'.zs from fun s' hs => by rw [List.getElem?_eq_getElem hkl] at hs; injection hs with hs; rw [hs])
      generalize ss[k] = s at c1 hs0 hsm HEQ
      obtain ⟨A0, c0, zs⟩ := s
      simp only [SvI.v, SvI.o] at c1 hs0 hsm HEQ
      have HCL := hideP (cloneI_any B A0 c0 (zs.map (Value.int .i64)) wr hs0 (oneI zs) (by rw [List.length_map]; exact hsm))
      simp only [List.length_map] at HCL
      have g1 : (0 : Int) ≤ (k : Int) := by omega
      have g2 : (k : Int) < (ss.length : Int) := by omega
      have HWL := hideP hwl
      clear hbx hs0 hwl
      go_wp2_with fail
      refine HCL.out.mono ?_
      rintro e w1 ⟨A1, c1', rfl, ho1, hb1⟩
      have hW1 := hW.below hb1
      have hb2 := hb.trans (hb1.mono hb.size)
      have ho1' := ho1.mono hb.size
      obtain ⟨A', c', w2, hrun, hr2, hbl2, hg2, _⟩ := app_row (P := Tryz.prog) Tryz.underlying23 rowsIInfo rfl w1 w.heap.size 23 Aw cw _ hW1.row [.slice A1 zs.length c1'] (by simp [Value.oneCell']) (by rw [List.length_map, HWL.out]; simp only [List.length_singleton]; omega) (by decide) hb2.size
      have hb3 := hbl2 w.heap.size w (Nat.le_refl _) hb2
      have hal := (Below.refl w1.heap.size w1).alloc (Nat.le_refl _) (.cells #[.slice A1 zs.length c1'] 22)
      have hX : ws.map SvI.v ++ [Value.slice A1 zs.length c1'] = (ws ++ [(⟨A1, c1', zs⟩ : SvI)]).map SvI.v := by simp [SvI.v]
      rw [hX] at hrun hr2
      rw [List.length_map, List.length_map] at hrun
      have hne : ∀ {xs : List Value} {a : Option Addr} {cc : Nat} {B' : Nat}, OR (w1.alloc (.cells #[.slice A1 zs.length c1'] 22)) B' 3 a cc xs → (Value.slice a xs.length cc).ownBlock = none ∨ (Value.slice a xs.length cc).ownBlock ≠ (Value.slice Aw (ws.map SvI.v).length cw).ownBlock := fun ho => rows_ne ho (hW1.row.below hal) (by decide)
      have hW2 : WanI w w2 ss (ws ++ [⟨A1, c1', zs⟩]) A' c' := by
        refine ⟨hr2, fun s hs => ?_, fun j s s' hs hs' => ?_⟩
        · rcases List.mem_append.1 hs with hs | hs
          · exact World.ownsRow.kept (OR.below (hW1.ow s hs) hal) hg2 (hne (OR.below (hW1.ow s hs) hal))
          · rw [List.mem_singleton.1 hs]
            exact World.ownsRow.kept (OR.below ho1' hal) hg2 (hne (OR.below ho1' hal))
        · rcases Nat.lt_or_ge j ws.length with hj | hj
          · rw [List.getElem?_append_left hj] at hs
            exact hW1.eq j s s' hs hs'
          · have hjk : j = k := by
              rcases Nat.lt_or_ge j (ws.length + 1) with h | h
              · have := HWL.out; omega
              · rw [List.getElem?_eq_none (by simp; omega)] at hs; cases hs
            subst hjk
            rw [List.getElem?_append_right hj] at hs
            have := HWL.out
            rw [show j - ws.length = 0 by omega] at hs
            simp at hs
            rw [← hs]
            exact HEQ.out s' hs'
      have HR := hideP hrun
      clear hrun hX hne hr2 hg2 hbl2 hW hW1 ho1 ho1' hb1 HCL hal hb hb2
      go_wp2_with (at_builtin; refine Lib.wpList_append_run _ rfl _ _ _ _ rfl _ _ rfl rfl _ _ HR.out ?_)
      go_roundw
      case rel => exact ⟨k + 1, ws ++ [⟨A1, c1', zs⟩], A', c', by omega, by go_num, by simp, by simp [HWL.out], hW2, hb3⟩
      case measure => simp [intOf]; omega
    · have hwn : ws.length = ss.length := by omega
      have HWN := hideP hwn
      clear hwl hwn
      go_wp2_with fail
      go_loopw [24] (Ap2I w B ga ss ws Aw cw) (fun i _ => ss.length - (intOf i).toNat)
      case atStart => exact ⟨0, Nat.zero_le _, rfl, hW, h.bx.below hb, fun j s _ hs => OR.below (h.ow s (List.mem_of_getElem? hs)) hb, hb.mono hB, hb.size, KpT.of_below hb⟩
      case round =>
        clear hW hb
        obtain ⟨j, hj, rfl, hW, hbx, hrest, hbB, hsz, hkt⟩ := hrel
        by_cases hjl : j < ss.length
        · have hjw : j < ws.length := by have := HWN.out; omega
          have c1 := hbx.cell j (v := ss[j].v) (by simp [hjl])
          obtain ⟨b, o, rfl, hbl, c2⟩ := hW.row.vs j ws[j].v (by simp [hjw])
          have hs0 := hrest j _ (Nat.le_refl _) (List.getElem?_eq_getElem hjl)
          have hs1 := hW.ow _ (List.getElem_mem hjw)
          have hsm := h.sm _ (List.getElem_mem hjl)
          have heq := hW.eq j _ _ (List.getElem?_eq_getElem hjw) (List.getElem?_eq_getElem hjl)
          have HAP := hideP (fun (i : Nat) (s : SvI) (hi : i ≠ j) (hs : ss[i]? = some s) => h.ap i j s _ hi hs (List.getElem?_eq_getElem hjl))
          have HLT := hideP (show ∀ r, blk ss[j].A = some r → r < w.heap.size from fun r hr => (World.ownsRow.lt (h.ow _ (List.getElem_mem hjl)) r (by rw [ownBlock_slice]; exact hr)).2)
          have HTY := hideP (show ∀ r, blk ss[j].A = some r → Ty w r 3 from fun r hr => own_ty (h.ow _ (List.getElem_mem hjl)) (by rw [ownBlock_slice]; exact hr))
          have HLO := hideP (show ∀ r, blk ss[j].A = some r → B ≤ r from fun r hr => (World.ownsRow.lt (h.ow _ (List.getElem_mem hjl)) r (by rw [ownBlock_slice]; exact hr)).1)
          generalize ss[j] = s at c1 hs0 hsm heq HAP HLT HLO HTY
          generalize ws[j] = s1 at c2 hs1 heq
          obtain ⟨A0, c0, zs⟩ := s
          obtain ⟨A1, c1', zs1⟩ := s1
          simp only [SvI.v, SvI.o] at c1 c2 hs0 hs1 hsm heq HAP HLT HLO HTY
          subst heq
          have HEQ := hideP (ieq_any A0 A1 c0 c1' zs1 zs1 wr hs0.vs.is_int hs1.vs.is_int (by omega) (by omega))
          simp only [decide_true] at HEQ
          have g1 : (0 : Int) ≤ (j : Int) := by omega
          have g2 : (j : Int) < (ss.length : Int) := by omega
          have g3 : (j : Int) < (ws.length : Int) := by omega
          go_wp2_with fail
          refine HEQ.out.mono ?_
          rintro e w1 ⟨rfl, hb1⟩
          replace hW := hW.below hb1
          replace hbx := hbx.below hb1
          replace hs0 := hs0.below hb1
          have hrest1 : ∀ (i : Nat) (s : SvI), j + 1 ≤ i → ss[i]? = some s → s.o w1 B := fun i s hi hs => OR.below (hrest i s (by omega) hs) hb1
          have hbB1 := hbB.trans (hb1.mono (Nat.le_trans hB hsz))
          have hsz1 := Nat.le_trans hsz hb1.size
          have hkt1 := hkt.below hb1 hsz
          clear hkt
          have HSP := hideP (spoilI_any B A0 c0 (zs1.map (Value.int .i64)) x w1 hs0)
          simp only [List.length_map] at HSP
          have hty : ∀ r, blk A0 = some r → Ty w1 r 3 := fun r hr => own_ty hs0 (by rw [ownBlock_slice]; exact hr)
          clear HEQ hs1 hb1 hrest hbB hsz c1 c2
          go_wp2_with fail
          refine HSP.out.mono ?_
          rintro e w2 ⟨rfl, hg2⟩
          have hF : Ap2I w B ga ss ws (some ⟨b, o, none⟩) cw (.int .i64 ((j + 1 : Nat) : Int)) w2 := by
            have far : ∀ {t : TypeId} {a : Option Addr} {cc : Nat} {xs : List Value}, OR w1 w.heap.size t a cc xs → (Value.slice a xs.length cc).ownBlock = none ∨ (Value.slice a xs.length cc).ownBlock ≠ blk A0 := fun {t a cc xs} ho => by
              cases hbk : (Value.slice a xs.length cc).ownBlock with
              | none => exact .inl rfl
              | some r =>
                refine .inr fun e => ?_
                have h1 := (World.ownsRow.lt ho r hbk).1
                have h2 := HLT.out r e.symm
                omega
            refine ⟨j + 1, by omega, rfl, ⟨World.ownsRow.kept hW.row hg2 (far hW.row), fun s hs => World.ownsRow.kept (hW.ow s hs) hg2 (far (hW.ow s hs)), hW.eq⟩, ?_, fun i s hi hs => (hrest1 i s hi hs).keep hg2 (HAP.out i s (by omega) hs), ?_, Nat.le_trans hsz1 hg2.size, hkt1.grown hg2 (fun i hi => HTY.out i hi) hsz1⟩
            · exact hbx.grown hg2 fun e => by
                have := hty ga e.symm
                exact absurd (this.inj hbx.ty) (by decide)
            · exact hbB1.grown hg2 (Nat.le_trans hB hsz1) fun r hr => HLO.out r hr
          have HF := hideP hF
          clear hF HSP hg2 hW hbx hs0 hrest1 hbB1 hsz1 hty
          go_wp2_with fail
          go_roundw
          case rel => exact HF.out
          case measure => simp [intOf]; omega
        · go_wp2_with fail
          go_ret
          exact ⟨rfl, hbB, hkt⟩
end Go.Proofs.YtpefdonhacmaoaaGreat
