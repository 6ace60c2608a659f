/-
  slices.Clone and rokeep.spoil at bool.
  slices.Equal at bools.
  rokeep.apart at bool.
-/
import Derived.Test.YtpefdonhacmaoaaGreatBo29
import Derived.Test.YtpefdonhacmaoaaGreatBo17
import Derived.Test.YtpefdonhacmaoaaGreatBo18
import Derived.Test.YtpefdonhacmaoaaGreatBo12
import Derived.Test.YtpefdonhacmaoaaGreatBo37
import Derived.Lib.SlicesS
import Derived.Shelf.Slices.Clone
import Derived.Test.YtpefdonhacmaoaaGreatBo11
import Derived.WalkKit
import Derived.WalkSpells
import Derived.WalkLawsBesides
import Derived.Deep.QuietTactic
import Derived.BigQuiet
import Derived.Test.YtpefdonhacmaoaaGreatBo41
set_option linter.unusedVariables false
set_option linter.unusedSimpArgs false
namespace Go.Proofs.YtpefdonhacmaoaaGreat
open Go.RowKit

theorem boolInfoO : (Tryz.prog.info? 4).map (fun i => (i.zero, i.size, i.bytes)) = some (some (.bool false), 1, 1) := by kernel_rfl
theorem or_emptyB {w : World} {g B : Nat} (h : Box w g 4 #[]) (hB : B ≤ g) : OR w B 4 (some ⟨g, 0, none⟩) 0 [] :=
  ⟨rfl, .inr ⟨g, 0, #[], rfl, hB, h, Nat.le_refl _, by simp [maxLen], by simp, rfl⟩⟩
set_option maxHeartbeats 400000 in
set_option maxRecDepth 100000 in
theorem cloneB_any (B : Nat) (A : Option Addr) (c : Nat) (xs : List Value) (w : World) (hA : OR w B 4 A c xs) (h1 : ∀ u ∈ xs, u.oneCell' = true) (hn : xs.length ≤ 1000000) :
    Calls Tryz.prog 39 #[.slice A xs.length c] w fun e w' => ∃ A' c', e = .returned (.slice A' xs.length c') ∧ OR w' w.heap.size 4 A' c' xs ∧ Below w.heap.size w w' := by
  have q22 : ∀ (w : World) (a : Option Addr) (n c n' c' : Nat), (binOp .eql 66 (.slice a n c) (.slice none n' c')).run Tryz.prog w = .ok (.bool a.isNone) w := fun w a n c n' c' => Lib.run_eql_slice_nil w _ _ a n c n' c' Tryz.underlying66
  obtain ⟨k1, k2, k3, k4⟩ := hA.caps
  cases A with
  | none =>
    have h0 : c = 0 := k3 rfl
    have hl : xs = [] := List.length_eq_zero_iff.1 (by omega)
    subst h0; subst hl
    clear hA
    go_enter Tryz.func39, Tryz.ntmps39
    go_wp2_with fail
    go_ret
    exact ⟨none, 0, rfl, OR.nil _ _ _, Below.refl _ _⟩
  | some a =>
    have hb := (Below.refl w.heap.size w).alloc (Nat.le_refl _) (.cells #[] 4)
    have ho := or_emptyB (B := w.heap.size) (Box.new w 4 #[]) (Nat.le_refl _)
    obtain ⟨A', c', w1, hrun, hown', hg'⟩ := app_srcS (P := Tryz.prog) Tryz.underlying66 boolInfoO rfl (w.alloc (.cells #[] 4)) w.heap.size 66 _ _ _ ho (some a) c xs (hA.vs.below hb) h1 (by simp; omega) (by decide) hb.size
    have hb1 : Below w.heap.size w w1 := hb.grown hg' hb.size (fun j hj => (World.ownsRow.lt ho j hj).1)
    rw [List.nil_append] at hrun hown'
    have HR := hideP hrun
    clear hrun hg' ho hA
    go_enter Tryz.func39, Tryz.ntmps39
    go_wp2_with (at_builtin; refine Lib.wpList_append_run _ rfl _ _ _ _ rfl _ _ rfl rfl _ _ HR.out ?_)
    go_ret
    exact ⟨A', c', rfl, hown', hb1⟩
set_option maxHeartbeats 1000000 in
set_option maxRecDepth 100000 in
theorem spoilB_any (B : Nat) (A : Option Addr) (c : Nat) (xs : List Value) (x : Bool) (w : World) (hA : OR w B 4 A c xs) :
    Calls Tryz.prog 80 #[.slice A xs.length c, .bool x] w fun e w' => e = .returned (.tuple #[]) ∧ w.grownBy w' (blk A) := by
  rcases hA.2 with ⟨hv, h0⟩ | ⟨g, cap, cur, hv, hB, hbk, h1, h2, h3, h4⟩
  · injection hv with e1 e2 e3
    subst e1; subst e3
    rw [e2]
    go_enter Tryz.func80, Tryz.ntmps80
    go_wp2_with fail
    go_loopw [11] (fun i wr => i = .int .i64 0 ∧ w = wr) (fun _ _ => 0)
    case atStart => exact ⟨rfl, rfl⟩
    case round =>
      obtain ⟨rfl, rfl⟩ := hrel
      go_wp2_with fail
      go_end0
      exact ⟨rfl, ⟨rfl, rfl, rfl, Nat.le_refl _, fun _ _ _ => rfl⟩⟩
  · injection hv with e1 e2 e3
    subst e1; subst e3
    have hbx : Box w g 4 cur := hbk
    have gl : (xs.length : Int) ≤ (c : Int) := by omega
    have hc : c ≤ 9223372036854775807 := by unfold maxLen at h2; exact h2
    have hS : (∃ cur, Box w g 4 cur ∧ cur.size = c) ∧ w.grownBy w (some g) := ⟨⟨cur, hbx, by omega⟩, ⟨rfl, rfl, rfl, Nat.le_refl _, fun _ _ _ => rfl⟩⟩
    clear hA hbk h4 hbx h3
    go_enter Tryz.func80, Tryz.ntmps80
    go_wp2_with fail
    go_loopw [11] (fun i wr => ∃ k : Nat, k ≤ c ∧ i = .int .i64 k ∧ (∃ cur, Box wr g 4 cur ∧ cur.size = c) ∧ w.grownBy wr (some g)) (fun i _ => c - (intOf i).toNat)
    case atStart => exact ⟨0, Nat.zero_le _, rfl, hS⟩
    case round =>
      clear hS
      obtain ⟨k, hk, rfl, ⟨cr, hcr, hsz⟩, hgr⟩ := hrel
      by_cases hkc : k < c
      · have g1 : (0 : Int) ≤ (k : Int) := by omega
        have g2 : (k : Int) < (c : Int) := by omega
        have hi0 : k < cr.size := by omega
        have d0 := hcr.cell k (v := cr[k]) (by simp [hi0])
        have f0 := hcr.frozen k
        have o1 := hcr.set k (.bool x)
        have ga := grown_set wr g k (.bool x)
        have HN := hideP (show (∃ cur, Box (wr.setCell ⟨g, k, none⟩ (.bool x)) g 4 cur ∧ cur.size = c) ∧ w.grownBy (wr.setCell ⟨g, k, none⟩ (.bool x)) (some g) from ⟨⟨_, o1, by simp [hsz]⟩, ⟨ga.os.trans hgr.os, ga.tape.trans hgr.tape, ga.output.trans hgr.output, Nat.le_trans hgr.size ga.size, fun i hi hne => (ga.block i (Nat.lt_of_lt_of_le hi hgr.size) hne).trans (hgr.block i hi hne)⟩⟩)
        clear o1 hcr hgr hsz ga
        go_wp2_with fail
        go_roundw
        case rel => exact ⟨k + 1, by omega, by go_num, HN.out⟩
        case measure => simp [intOf]; omega
      · go_wp2_with fail
        go_end0
        exact ⟨rfl, hgr⟩
end Go.Proofs.YtpefdonhacmaoaaGreat

set_option linter.unusedVariables false
set_option linter.unusedSimpArgs false
namespace Go.Proofs.YtpefdonhacmaoaaGreat
open Go.RowKit

set_option maxHeartbeats 400000 in
set_option maxRecDepth 100000 in
theorem bequal_same (A1 A2 : Option Addr) (c1 c2 : Nat) (l : List Bool) (w : World) (h1 : VS w A1 (l.map Value.bool)) (h2 : VS w A2 (l.map Value.bool)) (hl : l.length < 4611686018427387904) :
    Calls Tryz.prog 46 #[.slice A1 l.length c1, .slice A2 l.length c2] w fun e w' => e = .returned (.bool true) ∧ Below w.heap.size w w' := by
  have d0 : ((l.length : Int) != (l.length : Int)) = false := by simp
  go_enter Tryz.func46, Tryz.ntmps46
  go_wp2_with fail
  go_loopw [13] (fun i wr => ∃ k : Nat, k ≤ l.length ∧ i = .int .i64 k ∧ Below w.heap.size w wr) (fun i _ => l.length - (intOf i).toNat)
  case atStart => exact ⟨0, Nat.zero_le _, rfl, Below.refl _ _⟩
  case round =>
    obtain ⟨k, hk, rfl, hb⟩ := hrel
    by_cases hlt : k < l.length
    · obtain ⟨b, o, rfl, hbl, q1⟩ := h1.below hb k (.bool l[k]) (by simp [hlt])
      obtain ⟨b', o', rfl, hbl', q2⟩ := h2.below hb k (.bool l[k]) (by simp [hlt])
      clear h1 h2
      generalize l[k] = p at q1 q2
      have g1 : (0 : Int) ≤ (k : Int) := by omega
      have g2 : (k : Int) < (l.length : Int) := by omega
      have dp : (p != p) = false := by simp
      go_wp2_with fail
      go_quiet (fail)
      go_wp2_with fail
      go_roundw
      case rel => exact ⟨k + 1, by omega, by go_num, ⟨hb.os, hb.tape, hb.output, hb.size, hb.block⟩⟩
      case measure => simp [intOf]; omega
    · go_wp2_with fail
      go_ret
      exact ⟨rfl, hb⟩
end Go.Proofs.YtpefdonhacmaoaaGreat

set_option linter.unusedVariables false
set_option linter.unusedSimpArgs false
namespace Go.Proofs.YtpefdonhacmaoaaGreat
open Go.RowKit

/-- a slice of the call's own -/
structure SvB where
  A : Option Addr
  c : Nat
  zs : List Bool
def SvB.v (s : SvB) : Value := .slice s.A s.zs.length s.c
def SvB.o (s : SvB) (w : World) (B : Nat) : Prop := OR w B 4 s.A s.c (s.zs.map Value.bool)
theorem rowsBInfo : (Tryz.prog.info? 66).map (fun i => (i.zero, i.size, i.bytes)) = some (some (.slice none 0 0), 1, 24) := by kernel_rfl
theorem oneB (zs : List Bool) : ∀ u ∈ zs.map Value.bool, u.oneCell' = true := by intro u hu; obtain ⟨x, _, rfl⟩ := List.mem_map.1 hu; rfl
theorem SvB.o.keep {s : SvB} {w w' : World} {B : Nat} {r : Option Nat} (h : s.o w B) (hg : w.grownBy w' r) (hne : blk s.A = none ∨ blk s.A ≠ r) : s.o w' B := World.ownsRow.kept h hg (by rw [ownBlock_slice]; exact hne)
/-- slices that lie in a slice, each in a block of its own -/
structure ApsB (w : World) (B ga : Nat) (ss : List SvB) : Prop where
  bx : Box w ga 66 (ss.map SvB.v).toArray
  ow : ∀ s ∈ ss, s.o w B
  sm : ∀ s ∈ ss, s.zs.length ≤ 1000000
  ap : ∀ (i j : Nat) (s s' : SvB), i ≠ j → ss[i]? = some s → ss[j]? = some s' → blk s.A = none ∨ blk s.A ≠ blk s'.A
/-- the copies -/
structure WanB (w wr : World) (ss ws : List SvB) (Aw : Option Addr) (cw : Nat) : Prop where
  row : OR wr w.heap.size 66 Aw cw (ws.map SvB.v)
  ow : ∀ s ∈ ws, s.o wr w.heap.size
  eq : ∀ (j : Nat) (s s' : SvB), ws[j]? = some s → ss[j]? = some s' → s.zs = s'.zs
theorem WanB.below {w wr w' : World} {ss ws : List SvB} {Aw : Option Addr} {cw : Nat} (h : WanB w wr ss ws Aw cw) (hb : Below wr.heap.size wr w') : WanB w w' ss ws Aw cw := ⟨h.row.below hb, fun s hs => OR.below (h.ow s hs) hb, h.eq⟩
def Ap1B (w : World) (ss : List SvB) (v i : Value) (wr : World) : Prop := ∃ (k : Nat) (ws : List SvB) (Aw : Option Addr) (cw : Nat), k ≤ ss.length ∧ i = .int .i64 k ∧ v = .slice Aw ws.length cw ∧ ws.length = k ∧ WanB w wr ss ws Aw cw ∧ Below w.heap.size w wr
def Ap2B (w : World) (B ga : Nat) (ss ws : List SvB) (Aw : Option Addr) (cw : Nat) (i : Value) (wr : World) : Prop := ∃ k : Nat, k ≤ ss.length ∧ i = .int .i64 k ∧ WanB w wr ss ws Aw cw ∧ Box wr ga 66 (ss.map SvB.v).toArray ∧ (∀ (j : Nat) (s : SvB), k ≤ j → ss[j]? = some s → s.o wr B) ∧ Below B w wr ∧ w.heap.size ≤ wr.heap.size ∧ KpT 4 w wr

set_option maxHeartbeats 2000000 in
set_option maxRecDepth 100000 in
theorem apartB_any (B ga cg : Nat) (ss : List SvB) (x : Bool) (w : World) (h : ApsB w B ga ss) (hB : B ≤ w.heap.size) (hn : ss.length ≤ 1000) :
    Calls Tryz.prog 49 #[.bool x, .slice (some ⟨ga, 0, none⟩) ss.length cg] w fun e w' => e = .returned (.bool true) ∧ Below B w w' ∧ KpT 4 w w' := by
  go_enter Tryz.func49, Tryz.ntmps49
  go_wp2_with fail
  go_loopw [5, 12] (Ap1B w ss) (fun _ i _ => ss.length - (intOf i).toNat)
  case atStart => exact ⟨0, [], none, 0, Nat.zero_le _, rfl, rfl, rfl, ⟨OR.nil _ _ _, (fun s hs => by cases hs), (fun j s s' hs => by simp at hs)⟩, Below.refl _ _⟩
  case round =>
    obtain ⟨k, ws, Aw, cw, hk, rfl, rfl, hwl, hW, hb⟩ := hrel
    by_cases hkl : k < ss.length
    · have hbx := h.bx.below hb
      have c1 := hbx.cell k (v := ss[k].v) (by simp [hkl])
      have hs0 := OR.below (h.ow _ (List.getElem_mem hkl)) hb
      have hsm := h.sm _ (List.getElem_mem hkl)
      have HEQ := hideP (show ∀ s', ss[k]? = some s' → ss[k].zs = s'.zs from fun s' hs => by rw [List.getElem?_eq_getElem hkl] at hs; injection hs with hs; rw [hs])
      generalize ss[k] = s at c1 hs0 hsm HEQ
      obtain ⟨A0, c0, zs⟩ := s
      simp only [SvB.v, SvB.o] at c1 hs0 hsm HEQ
      have HCL := hideP (cloneB_any B A0 c0 (zs.map Value.bool) wr hs0 (oneB zs) (by rw [List.length_map]; exact hsm))
      simp only [List.length_map] at HCL
      have g1 : (0 : Int) ≤ (k : Int) := by omega
      have g2 : (k : Int) < (ss.length : Int) := by omega
      have HWL := hideP hwl
      clear hbx hs0 hwl
      go_wp2_with fail
      refine HCL.out.mono ?_
      rintro e w1 ⟨A1, c1', rfl, ho1, hb1⟩
      have hW1 := hW.below hb1
      have hb2 := hb.trans (hb1.mono hb.size)
      have ho1' := ho1.mono hb.size
      obtain ⟨A', c', w2, hrun, hr2, hbl2, hg2, _⟩ := app_row (P := Tryz.prog) Tryz.underlying133 rowsBInfo rfl w1 w.heap.size 133 Aw cw _ hW1.row [.slice A1 zs.length c1'] (by simp [Value.oneCell']) (by rw [List.length_map, HWL.out]; simp only [List.length_singleton]; omega) (by decide) hb2.size
      have hb3 := hbl2 w.heap.size w (Nat.le_refl _) hb2
      have hal := (Below.refl w1.heap.size w1).alloc (Nat.le_refl _) (.cells #[.slice A1 zs.length c1'] 66)
      have hX : ws.map SvB.v ++ [Value.slice A1 zs.length c1'] = (ws ++ [(⟨A1, c1', zs⟩ : SvB)]).map SvB.v := by simp [SvB.v]
      rw [hX] at hrun hr2
      rw [List.length_map, List.length_map] at hrun
      have hne : ∀ {xs : List Value} {a : Option Addr} {cc : Nat} {B' : Nat}, OR (w1.alloc (.cells #[.slice A1 zs.length c1'] 66)) B' 4 a cc xs → (Value.slice a xs.length cc).ownBlock = none ∨ (Value.slice a xs.length cc).ownBlock ≠ (Value.slice Aw (ws.map SvB.v).length cw).ownBlock := fun ho => rows_ne ho (hW1.row.below hal) (by decide)
      have hW2 : WanB w w2 ss (ws ++ [⟨A1, c1', zs⟩]) A' c' := by
        refine ⟨hr2, fun s hs => ?_, fun j s s' hs hs' => ?_⟩
        · rcases List.mem_append.1 hs with hs | hs
          · exact World.ownsRow.kept (OR.below (hW1.ow s hs) hal) hg2 (hne (OR.below (hW1.ow s hs) hal))
          · rw [List.mem_singleton.1 hs]
            exact World.ownsRow.kept (OR.below ho1' hal) hg2 (hne (OR.below ho1' hal))
        · rcases Nat.lt_or_ge j ws.length with hj | hj
          · rw [List.getElem?_append_left hj] at hs
            exact hW1.eq j s s' hs hs'
          · have hjk : j = k := by
              rcases Nat.lt_or_ge j (ws.length + 1) with h | h
              · have := HWL.out; omega
              · rw [List.getElem?_eq_none (by simp; omega)] at hs; cases hs
            subst hjk
            rw [List.getElem?_append_right hj] at hs
            have := HWL.out
            rw [show j - ws.length = 0 by omega] at hs
            simp at hs
            rw [← hs]
            exact HEQ.out s' hs'
      have HR := hideP hrun
      clear hrun hX hne hr2 hg2 hbl2 hW hW1 ho1 ho1' hb1 HCL hal hb hb2
      go_wp2_with (at_builtin; refine Lib.wpList_append_run _ rfl _ _ _ _ rfl _ _ rfl rfl _ _ HR.out ?_)
      go_roundw
      case rel => exact ⟨k + 1, ws ++ [⟨A1, c1', zs⟩], A', c', by omega, by go_num, by simp, by simp [HWL.out], hW2, hb3⟩
      case measure => simp [intOf]; omega
    · have hwn : ws.length = ss.length := by omega
      have HWN := hideP hwn
      clear hwl hwn
      go_wp2_with fail
      go_loopw [24] (Ap2B w B ga ss ws Aw cw) (fun i _ => ss.length - (intOf i).toNat)
      case atStart => exact ⟨0, Nat.zero_le _, rfl, hW, h.bx.below hb, fun j s _ hs => OR.below (h.ow s (List.mem_of_getElem? hs)) hb, hb.mono hB, hb.size, KpT.of_below hb⟩
      case round =>
        clear hW hb
        obtain ⟨j, hj, rfl, hW, hbx, hrest, hbB, hsz, hkt⟩ := hrel
        by_cases hjl : j < ss.length
        · have hjw : j < ws.length := by have := HWN.out; omega
          have c1 := hbx.cell j (v := ss[j].v) (by simp [hjl])
          obtain ⟨b, o, rfl, hbl, c2⟩ := hW.row.vs j ws[j].v (by simp [hjw])
          have hs0 := hrest j _ (Nat.le_refl _) (List.getElem?_eq_getElem hjl)
          have hs1 := hW.ow _ (List.getElem_mem hjw)
          have hsm := h.sm _ (List.getElem_mem hjl)
          have heq := hW.eq j _ _ (List.getElem?_eq_getElem hjw) (List.getElem?_eq_getElem hjl)
          have HAP := hideP (fun (i : Nat) (s : SvB) (hi : i ≠ j) (hs : ss[i]? = some s) => h.ap i j s _ hi hs (List.getElem?_eq_getElem hjl))
          have HLT := hideP (show ∀ r, blk ss[j].A = some r → r < w.heap.size from fun r hr => (World.ownsRow.lt (h.ow _ (List.getElem_mem hjl)) r (by rw [ownBlock_slice]; exact hr)).2)
          have HTY := hideP (show ∀ r, blk ss[j].A = some r → Ty w r 4 from fun r hr => own_ty (h.ow _ (List.getElem_mem hjl)) (by rw [ownBlock_slice]; exact hr))
          have HLO := hideP (show ∀ r, blk ss[j].A = some r → B ≤ r from fun r hr => (World.ownsRow.lt (h.ow _ (List.getElem_mem hjl)) r (by rw [ownBlock_slice]; exact hr)).1)
          generalize ss[j] = s at c1 hs0 hsm heq HAP HLT HLO HTY
          generalize ws[j] = s1 at c2 hs1 heq
          obtain ⟨A0, c0, zs⟩ := s
          obtain ⟨A1, c1', zs1⟩ := s1
          simp only [SvB.v, SvB.o] at c1 c2 hs0 hs1 hsm heq HAP HLT HLO HTY
          subst heq
          have HEQ := hideP (bequal_same A0 A1 c0 c1' zs1 wr hs0.vs hs1.vs (by omega))
          have g1 : (0 : Int) ≤ (j : Int) := by omega
          have g2 : (j : Int) < (ss.length : Int) := by omega
          have g3 : (j : Int) < (ws.length : Int) := by omega
          go_wp2_with fail
          refine HEQ.out.mono ?_
          rintro e w1 ⟨rfl, hb1⟩
          replace hW := hW.below hb1
          replace hbx := hbx.below hb1
          replace hs0 := hs0.below hb1
          have hrest1 : ∀ (i : Nat) (s : SvB), j + 1 ≤ i → ss[i]? = some s → s.o w1 B := fun i s hi hs => OR.below (hrest i s (by omega) hs) hb1
          have hbB1 := hbB.trans (hb1.mono (Nat.le_trans hB hsz))
          have hsz1 := Nat.le_trans hsz hb1.size
          have hkt1 := hkt.below hb1 hsz
          clear hkt
          have HSP := hideP (spoilB_any B A0 c0 (zs1.map Value.bool) x w1 hs0)
          simp only [List.length_map] at HSP
          have hty : ∀ r, blk A0 = some r → Ty w1 r 4 := fun r hr => own_ty hs0 (by rw [ownBlock_slice]; exact hr)
          clear HEQ hs1 hb1 hrest hbB hsz c1 c2
          go_wp2_with fail
          refine HSP.out.mono ?_
          rintro e w2 ⟨rfl, hg2⟩
          have hF : Ap2B w B ga ss ws (some ⟨b, o, none⟩) cw (.int .i64 ((j + 1 : Nat) : Int)) w2 := by
            have far : ∀ {t : TypeId} {a : Option Addr} {cc : Nat} {xs : List Value}, OR w1 w.heap.size t a cc xs → (Value.slice a xs.length cc).ownBlock = none ∨ (Value.slice a xs.length cc).ownBlock ≠ blk A0 := fun {t a cc xs} ho => by
              cases hbk : (Value.slice a xs.length cc).ownBlock with
              | none => exact .inl rfl
              | some r =>
                refine .inr fun e => ?_
                have h1 := (World.ownsRow.lt ho r hbk).1
                have h2 := HLT.out r e.symm
                omega
            refine ⟨j + 1, by omega, rfl, ⟨World.ownsRow.kept hW.row hg2 (far hW.row), fun s hs => World.ownsRow.kept (hW.ow s hs) hg2 (far (hW.ow s hs)), hW.eq⟩, ?_, fun i s hi hs => (hrest1 i s hi hs).keep hg2 (HAP.out i s (by omega) hs), ?_, Nat.le_trans hsz1 hg2.size, hkt1.grown hg2 (fun i hi => HTY.out i hi) hsz1⟩
            · exact hbx.grown hg2 fun e => by
                have := hty ga e.symm
                exact absurd (this.inj hbx.ty) (by decide)
            · exact hbB1.grown hg2 (Nat.le_trans hB hsz1) fun r hr => HLO.out r hr
          have HF := hideP hF
          clear hF HSP hg2 hW hbx hs0 hrest1 hbB1 hsz1 hty
          go_wp2_with fail
          go_roundw
          case rel => exact HF.out
          case measure => simp [intOf]; omega
        · go_wp2_with fail
          go_ret
          exact ⟨rfl, hbB, hkt⟩
end Go.Proofs.YtpefdonhacmaoaaGreat
