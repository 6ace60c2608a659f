/-
  Only blocks of one type may have changed (no body of the program in it).
  rokeep.apart at api.Pair.
  slices.Clone and rokeep.spoil at int.
-/
import Derived.Test.YtpefdonhacmaoaaGreatBo18
import Derived.Test.YtpefdonhacmaoaaGreatBo17
import Derived.Test.YtpefdonhacmaoaaGreatBo38
import Derived.Test.YtpefdonhacmaoaaGreatBo29
import Derived.Test.YtpefdonhacmaoaaGreatBo12
import Derived.Test.YtpefdonhacmaoaaGreatBo37
import Derived.Lib.SlicesS
import Derived.Shelf.Slices.Clone
set_option linter.unusedVariables false
set_option linter.unusedSimpArgs false
namespace Go.Proofs.YtpefdonhacmaoaaGreat
open Go.RowKit

/-- all blocks that were there, but those of one type, are as they were -/
def KpT (t : TypeId) (w w' : World) : Prop := ∀ i, i < w.heap.size → ¬ Ty w i t → w'.heap[i]? = w.heap[i]?
section
variable {t u : TypeId} {w w1 w2 : World}
theorem KpT.of_below (h : Below w.heap.size w w1) : KpT t w w1 := fun i hi _ => h.block i hi
theorem KpT.below (h : KpT t w w1) (hb : Below w1.heap.size w1 w2) (hs : w.heap.size ≤ w1.heap.size) : KpT t w w2 := fun i hi hn => (hb.block i (Nat.lt_of_lt_of_le hi hs)).trans (h i hi hn)
theorem KpT.grown {r : Option Nat} (h : KpT t w w1) (hg : w1.grownBy w2 r) (hr : ∀ i, r = some i → Ty w i t) (hs : w.heap.size ≤ w1.heap.size) : KpT t w w2 :=
  fun i hi hn => (hg.block i (Nat.lt_of_lt_of_le hi hs) (fun e => hn (hr i e.symm))).trans (h i hi hn)
theorem own_kpt {B s n : Nat} {v : Value} {xs : List Value} (h : w.ownsRow B u s v n xs) (hk : KpT t w w1) (hne : u ≠ t) : w1.ownsRow B u s v n xs :=
  ⟨h.1, h.2.imp id fun ⟨g, cap, cur, h1, h2, h3, h4⟩ => ⟨g, cap, cur, h1, h2, (hk g (Array.getElem?_eq_some_iff.1 h3).1 (fun ty => hne (Ty.inj (⟨_, _, h3⟩ : Ty w g u) ty))).trans h3, h4⟩⟩
end
end Go.Proofs.YtpefdonhacmaoaaGreat

set_option linter.unusedVariables false
set_option linter.unusedSimpArgs false
namespace Go.Proofs.YtpefdonhacmaoaaGreat
open Go.RowKit

/-- a slice of the call's own -/
structure SvP where
  A : Option Addr
  c : Nat
  zs : List Pr
def SvP.v (s : SvP) : Value := .slice s.A s.zs.length s.c
def SvP.o (s : SvP) (w : World) (B : Nat) : Prop := OV w B s.A s.c s.zs
theorem rowsPInfo : (Tryz.prog.info? 33).map (fun i => (i.zero, i.size, i.bytes)) = some (some (.slice none 0 0), 1, 24) := by kernel_rfl
theorem SvP.o.keep {s : SvP} {w w' : World} {B : Nat} {r : Option Nat} (h : s.o w B) (hg : w.grownBy w' r) (hne : blk s.A = none ∨ blk s.A ≠ r) : s.o w' B := World.ownsRow.kept h hg (by rw [ownBlock_slice]; exact hne)
/-- slices that lie in a slice, each in a block of its own -/
structure ApsP (w : World) (B ga : Nat) (ss : List SvP) : Prop where
  bx : Box w ga 33 (ss.map SvP.v).toArray
  ow : ∀ s ∈ ss, s.o w B
  sm : ∀ s ∈ ss, s.zs.length ≤ 1000000000
  ap : ∀ (i j : Nat) (s s' : SvP), i ≠ j → ss[i]? = some s → ss[j]? = some s' → blk s.A = none ∨ blk s.A ≠ blk s'.A
/-- the copies -/
structure WanP (w wr : World) (ss ws : List SvP) (Aw : Option Addr) (cw : Nat) : Prop where
  row : OR wr w.heap.size 33 Aw cw (ws.map SvP.v)
  ow : ∀ s ∈ ws, s.o wr w.heap.size
  eq : ∀ (j : Nat) (s s' : SvP), ws[j]? = some s → ss[j]? = some s' → s.zs = s'.zs
theorem WanP.below {w wr w' : World} {ss ws : List SvP} {Aw : Option Addr} {cw : Nat} (h : WanP w wr ss ws Aw cw) (hb : Below wr.heap.size wr w') : WanP w w' ss ws Aw cw := ⟨h.row.below hb, fun s hs => OV.below (h.ow s hs) hb, h.eq⟩
def Ap1P (w : World) (ss : List SvP) (v i : Value) (wr : World) : Prop := ∃ (k : Nat) (ws : List SvP) (Aw : Option Addr) (cw : Nat), k ≤ ss.length ∧ i = .int .i64 k ∧ v = .slice Aw ws.length cw ∧ ws.length = k ∧ WanP w wr ss ws Aw cw ∧ Below w.heap.size w wr
def Ap2P (w : World) (B ga : Nat) (ss ws : List SvP) (Aw : Option Addr) (cw : Nat) (i : Value) (wr : World) : Prop := ∃ k : Nat, k ≤ ss.length ∧ i = .int .i64 k ∧ WanP w wr ss ws Aw cw ∧ Box wr ga 33 (ss.map SvP.v).toArray ∧ (∀ (j : Nat) (s : SvP), k ≤ j → ss[j]? = some s → s.o wr B) ∧ Below B w wr ∧ w.heap.size ≤ wr.heap.size ∧ KpT 51 w wr

def Ap3P (w : World) (ss : List SvP) (gx : Nat) (key : ByteArray) (n : Int) (v i : Value) (wr : World) : Prop := Ap1P w ss v i wr ∧ Box wr gx 51 #[.string key, .int .i64 n]
def Ap4P (w : World) (B ga : Nat) (ss ws : List SvP) (Aw : Option Addr) (cw gx : Nat) (key : ByteArray) (n : Int) (i : Value) (wr : World) : Prop := Ap2P w B ga ss ws Aw cw i wr ∧ Box wr gx 51 #[.string key, .int .i64 n]
set_option maxHeartbeats 2000000 in
set_option maxRecDepth 100000 in
theorem apartP_any (B ga cg : Nat) (ss : List SvP) (key : ByteArray) (n : Int) (w : World) (h : ApsP w B ga ss) (hB : B ≤ w.heap.size) (hn : ss.length ≤ 1000) :
    Calls Tryz.prog 43 #[.agg #[.string key, .int .i64 n], .slice (some ⟨ga, 0, none⟩) ss.length cg] w fun e w' => e = .returned (.bool true) ∧ Below B w w' ∧ KpT 51 w w' := by
  have hb0 := (Below.refl w.heap.size w).alloc (Nat.le_refl _) (.cells #[.string key, .int .i64 n] 51)
  have hx0 := Box.new w 51 #[.string key, .int .i64 n]
  go_enter Tryz.func43, Tryz.ntmps43
  go_wp2_with fail
  generalize w.alloc _ = w0 at hb0 hx0 ⊢
  obtain ⟨gx, hgx⟩ : ∃ gx, gx = w.heap.size := ⟨_, rfl⟩
  rw [← hgx] at hx0 ⊢
  have HGX := hideP hgx
  clear hgx
  go_loopw [5, 12] (Ap3P w ss gx key n) (fun _ i _ => ss.length - (intOf i).toNat)
  case atStart => exact ⟨⟨0, [], none, 0, Nat.zero_le _, rfl, rfl, rfl, ⟨OR.nil _ _ _, (fun s hs => by cases hs), (fun j s s' hs => by simp at hs)⟩, hb0⟩, hx0⟩
  case round =>
    obtain ⟨⟨k, ws, Aw, cw, hk, rfl, rfl, hwl, hW, hb⟩, hx⟩ := hrel
    by_cases hkl : k < ss.length
    · have hbx := h.bx.below hb
      have c1 := hbx.cell k (v := ss[k].v) (by simp [hkl])
      have hs0 := OV.below (h.ow _ (List.getElem_mem hkl)) hb
      have hsm := h.sm _ (List.getElem_mem hkl)
      have HEQ := hideP (show ∀ s', ss[k]? = some s' → ss[k].zs = s'.zs from fun s' hs => by rw [List.getElem?_eq_getElem hkl] at hs; injection hs with hs; rw [hs])
      generalize ss[k] = s at c1 hs0 hsm HEQ
      obtain ⟨A0, c0, zs⟩ := s
      simp only [SvP.v, SvP.o] at c1 hs0 hsm HEQ
      have HCL := hideP (pclone_any A0 c0 zs wr hs0.sv (by omega))
      have g1 : (0 : Int) ≤ (k : Int) := by omega
      have g2 : (k : Int) < (ss.length : Int) := by omega
      have HWL := hideP hwl
      clear hbx hs0 hwl
      go_wp2_with fail
      refine HCL.out.mono ?_
      rintro e w1 ⟨A1, c1', rfl, ho1, hb1⟩
      have hW1 := hW.below hb1
      have hb2 := hb.trans (hb1.mono hb.size)
      have ho1' := ho1.mono hb.size
      obtain ⟨A', c', w2, hrun, hr2, hbl2, hg2, _⟩ := app_row (P := Tryz.prog) Tryz.underlying78 rowsPInfo rfl w1 w.heap.size 78 Aw cw _ hW1.row [.slice A1 zs.length c1'] (by simp [Value.oneCell']) (by rw [List.length_map, HWL.out]; simp only [List.length_singleton]; omega) (by decide) hb2.size
      have hb3 := hbl2 w.heap.size w (Nat.le_refl _) hb2
      have hal := (Below.refl w1.heap.size w1).alloc (Nat.le_refl _) (.cells #[.slice A1 zs.length c1'] 33)
      have hX : ws.map SvP.v ++ [Value.slice A1 zs.length c1'] = (ws ++ [(⟨A1, c1', zs⟩ : SvP)]).map SvP.v := by simp [SvP.v]
      rw [hX] at hrun hr2
      rw [List.length_map, List.length_map] at hrun
      have hne : ∀ {xs : List Pr} {a : Option Addr} {cc : Nat} {B' : Nat}, OV (w1.alloc (.cells #[.slice A1 zs.length c1'] 33)) B' a cc xs → (Value.slice a xs.length cc).ownBlock = none ∨ (Value.slice a xs.length cc).ownBlock ≠ (Value.slice Aw (ws.map SvP.v).length cw).ownBlock := fun ho => rows_ne ho (hW1.row.below hal) (by decide)
      have hW2 : WanP w w2 ss (ws ++ [⟨A1, c1', zs⟩]) A' c' := by
        refine ⟨hr2, fun s hs => ?_, fun j s s' hs hs' => ?_⟩
        · rcases List.mem_append.1 hs with hs | hs
          · exact World.ownsRow.kept (OV.below (hW1.ow s hs) hal) hg2 (hne (OV.below (hW1.ow s hs) hal))
          · rw [List.mem_singleton.1 hs]
            exact World.ownsRow.kept (OV.below ho1' hal) hg2 (hne (OV.below ho1' hal))
        · rcases Nat.lt_or_ge j ws.length with hj | hj
          · rw [List.getElem?_append_left hj] at hs
            exact hW1.eq j s s' hs hs'
          · have hjk : j = k := by
              rcases Nat.lt_or_ge j (ws.length + 1) with h | h
              · have := HWL.out; omega
              · rw [List.getElem?_eq_none (by simp; omega)] at hs; cases hs
            subst hjk
            rw [List.getElem?_append_right hj] at hs
            have := HWL.out
            rw [show j - ws.length = 0 by omega] at hs
            simp at hs
            rw [← hs]
            exact HEQ.out s' hs'
      have hx2 : Box w2 gx 51 #[.string key, .int .i64 n] := ((hx.below hb1).below hal).grown hg2 fun e => by
        have := own_ty (hW1.row.below hal) e.symm
        exact absurd (this.inj ((hx.below hb1).below hal).ty) (by decide)
      have HR := hideP hrun
      clear hrun hx hX hne hr2 hg2 hbl2 hW hW1 ho1 ho1' hb1 HCL hal hb hb2
      go_wp2_with (at_builtin; refine Lib.wpList_append_run _ rfl _ _ _ _ rfl _ _ rfl rfl _ _ HR.out ?_)
      go_roundw
      case rel => exact ⟨⟨k + 1, ws ++ [⟨A1, c1', zs⟩], A', c', by omega, by go_num, by simp, by simp [HWL.out], hW2, hb3⟩, hx2⟩
      case measure => simp [intOf]; omega
    · have hwn : ws.length = ss.length := by omega
      have HWN := hideP hwn
      clear hwl hwn
      go_wp2_with fail
      go_loopw [24] (Ap4P w B ga ss ws Aw cw gx key n) (fun i _ => ss.length - (intOf i).toNat)
      case atStart => exact ⟨⟨0, Nat.zero_le _, rfl, hW, h.bx.below hb, fun j s _ hs => OV.below (h.ow s (List.mem_of_getElem? hs)) hb, hb.mono hB, hb.size, KpT.of_below hb⟩, hx⟩
      case round =>
        clear hW hb hx
        obtain ⟨⟨j, hj, rfl, hW, hbx, hrest, hbB, hsz, hkt⟩, hx⟩ := hrel
        by_cases hjl : j < ss.length
        · have hjw : j < ws.length := by have := HWN.out; omega
          have c1 := hbx.cell j (v := ss[j].v) (by simp [hjl])
          obtain ⟨b, o, rfl, hbl, c2⟩ := hW.row.vs j ws[j].v (by simp [hjw])
          have hs0 := hrest j _ (Nat.le_refl _) (List.getElem?_eq_getElem hjl)
          have hs1 := hW.ow _ (List.getElem_mem hjw)
          have hsm := h.sm _ (List.getElem_mem hjl)
          have heq := hW.eq j _ _ (List.getElem?_eq_getElem hjw) (List.getElem?_eq_getElem hjl)
          have HAP := hideP (fun (i : Nat) (s : SvP) (hi : i ≠ j) (hs : ss[i]? = some s) => h.ap i j s _ hi hs (List.getElem?_eq_getElem hjl))
          have HLT := hideP (show ∀ r, blk ss[j].A = some r → r < w.heap.size from fun r hr => (World.ownsRow.lt (h.ow _ (List.getElem_mem hjl)) r (by rw [ownBlock_slice]; exact hr)).2)
          have HTY := hideP (show ∀ r, blk ss[j].A = some r → Ty w r 51 from fun r hr => own_ty (h.ow _ (List.getElem_mem hjl)) (by rw [ownBlock_slice]; exact hr))
          have HLO := hideP (show ∀ r, blk ss[j].A = some r → B ≤ r from fun r hr => (World.ownsRow.lt (h.ow _ (List.getElem_mem hjl)) r (by rw [ownBlock_slice]; exact hr)).1)
          generalize ss[j] = s at c1 hs0 hsm heq HAP HLT HLO HTY
          generalize ws[j] = s1 at c2 hs1 heq
          obtain ⟨A0, c0, zs⟩ := s
          obtain ⟨A1, c1', zs1⟩ := s1
          simp only [SvP.v, SvP.o] at c1 c2 hs0 hs1 hsm heq HAP HLT HLO HTY
          subst heq
          have HEQ := hideP (equal_same A0 A1 c0 c1' zs1 wr hs0.sv.ps hs1.sv.ps (by omega))
          have g1 : (0 : Int) ≤ (j : Int) := by omega
          have g2 : (j : Int) < (ss.length : Int) := by omega
          have g3 : (j : Int) < (ws.length : Int) := by omega
          go_wp2_with fail
          refine HEQ.out.mono ?_
          rintro e w1 ⟨rfl, hb1⟩
          replace hW := hW.below hb1
          replace hbx := hbx.below hb1
          replace hs0 := hs0.below hb1
          have hrest1 : ∀ (i : Nat) (s : SvP), j + 1 ≤ i → ss[i]? = some s → s.o w1 B := fun i s hi hs => OV.below (hrest i s (by omega) hs) hb1
          have hbB1 := hbB.trans (hb1.mono (Nat.le_trans hB hsz))
          have hsz1 := Nat.le_trans hsz hb1.size
          have hkt1 := hkt.below hb1 hsz
          clear hkt
          have HSP := hideP (pspoil_any B A0 c0 zs1 key n w1 hs0 (by have := hs0.sv.cap; unfold maxLen at this; exact this))
          replace hx := hx.below hb1
          have x0 := hx.cell 0 (v := .string key) rfl
          have x1 := hx.cell 1 (v := .int .i64 n) rfl
          have hty : ∀ r, blk A0 = some r → Ty w1 r 51 := fun r hr => own_ty hs0 (by rw [ownBlock_slice]; exact hr)
          clear HEQ hs1 hb1 hrest hbB hsz c1 c2
          go_wp2_with fail
          refine HSP.out.mono ?_
          rintro e w2 ⟨rfl, hg2⟩
          have hF : Ap2P w B ga ss ws (some ⟨b, o, none⟩) cw (.int .i64 ((j + 1 : Nat) : Int)) w2 := by
            have far : ∀ {t : TypeId} {z m : Nat} {v : Value} {xs : List Value}, w1.ownsRow w.heap.size t z v m xs → v.ownBlock = none ∨ v.ownBlock ≠ blk A0 := fun {t z m v xs} ho => by
              cases hbk : v.ownBlock with
              | none => exact .inl rfl
              | some r =>
                refine .inr fun e => ?_
                have h1 := (World.ownsRow.lt ho r hbk).1
                have h2 := HLT.out r e.symm
                omega
            refine ⟨j + 1, by omega, rfl, ⟨World.ownsRow.kept hW.row hg2 (far hW.row), fun s hs => World.ownsRow.kept (hW.ow s hs) hg2 (far (hW.ow s hs)), hW.eq⟩, ?_, fun i s hi hs => (hrest1 i s hi hs).keep hg2 (HAP.out i s (by omega) hs), ?_, Nat.le_trans hsz1 hg2.size, hkt1.grown hg2 (fun i hi => HTY.out i hi) hsz1⟩
            · exact hbx.grown hg2 fun e => by
                have := hty ga e.symm
                exact absurd (this.inj hbx.ty) (by decide)
            · exact hbB1.grown hg2 (Nat.le_trans hB hsz1) fun r hr => HLO.out r hr
          have hx2 : Box w2 gx 51 #[.string key, .int .i64 n] := hx.grown hg2 fun e => by
            have := HLT.out gx e.symm
            have := HGX.out
            omega
          have HF := hideP hF
          clear hF HSP hg2 hW hbx hs0 hrest1 hbB1 hsz1 hty hx x0 x1
          go_wp2_with fail
          go_roundw
          case rel => exact ⟨HF.out, hx2⟩
          case measure => simp [intOf]; omega
        · go_wp2_with fail
          go_ret
          exact ⟨rfl, hbB, hkt⟩
end Go.Proofs.YtpefdonhacmaoaaGreat

set_option linter.unusedVariables false
set_option linter.unusedSimpArgs false
namespace Go.Proofs.YtpefdonhacmaoaaGreat
open Go.RowKit

theorem or_emptyI {w : World} {g B : Nat} (h : Box w g 3 #[]) (hB : B ≤ g) : OR w B 3 (some ⟨g, 0, none⟩) 0 [] :=
  ⟨rfl, .inr ⟨g, 0, #[], rfl, hB, h, Nat.le_refl _, by simp [maxLen], by simp, rfl⟩⟩
set_option maxHeartbeats 400000 in
set_option maxRecDepth 100000 in
theorem cloneI_any (B : Nat) (A : Option Addr) (c : Nat) (xs : List Value) (w : World) (hA : OR w B 3 A c xs) (h1 : ∀ u ∈ xs, u.oneCell' = true) (hn : xs.length ≤ 1000000) :
    Calls Tryz.prog 37 #[.slice A xs.length c] w fun e w' => ∃ A' c', e = .returned (.slice A' xs.length c') ∧ OR w' w.heap.size 3 A' c' xs ∧ Below w.heap.size w w' := by
  have q22 : ∀ (w : World) (a : Option Addr) (n c n' c' : Nat), (binOp .eql 22 (.slice a n c) (.slice none n' c')).run Tryz.prog w = .ok (.bool a.isNone) w := fun w a n c n' c' => Lib.run_eql_slice_nil w _ _ a n c n' c' Tryz.underlying22
  obtain ⟨k1, k2, k3, k4⟩ := hA.caps
  cases A with
  | none =>
    have h0 : c = 0 := k3 rfl
    have hl : xs = [] := List.length_eq_zero_iff.1 (by omega)
    subst h0; subst hl
    clear hA
    go_enter Tryz.func37, Tryz.ntmps37
    go_wp2_with fail
    go_ret
    exact ⟨none, 0, rfl, OR.nil _ _ _, Below.refl _ _⟩
  | some a =>
    have hb := (Below.refl w.heap.size w).alloc (Nat.le_refl _) (.cells #[] 3)
    have ho := or_emptyI (B := w.heap.size) (Box.new w 3 #[]) (Nat.le_refl _)
    obtain ⟨A', c', w1, hrun, hown', hg'⟩ := app_srcS (P := Tryz.prog) Tryz.underlying22 intInfo rfl (w.alloc (.cells #[] 3)) w.heap.size 22 _ _ _ ho (some a) c xs (hA.vs.below hb) h1 (by simp; omega) (by decide) hb.size
    have hb1 : Below w.heap.size w w1 := hb.grown hg' hb.size (fun j hj => (World.ownsRow.lt ho j hj).1)
    rw [List.nil_append] at hrun hown'
    have HR := hideP hrun
    clear hrun hg' ho hA
    go_enter Tryz.func37, Tryz.ntmps37
    go_wp2_with (at_builtin; refine Lib.wpList_append_run _ rfl _ _ _ _ rfl _ _ rfl rfl _ _ HR.out ?_)
    go_ret
    exact ⟨A', c', rfl, hown', hb1⟩
set_option maxHeartbeats 1000000 in
set_option maxRecDepth 100000 in
theorem spoilI_any (B : Nat) (A : Option Addr) (c : Nat) (xs : List Value) (x : Int) (w : World) (hA : OR w B 3 A c xs) :
    Calls Tryz.prog 42 #[.slice A xs.length c, .int .i64 x] w fun e w' => e = .returned (.tuple #[]) ∧ w.grownBy w' (blk A) := by
  rcases hA.2 with ⟨hv, h0⟩ | ⟨g, cap, cur, hv, hB, hbk, h1, h2, h3, h4⟩
  · injection hv with e1 e2 e3
    subst e1; subst e3
    rw [e2]
    go_enter Tryz.func42, Tryz.ntmps42
    go_wp2_with fail
    go_loopw [11] (fun i wr => i = .int .i64 0 ∧ w = wr) (fun _ _ => 0)
    case atStart => exact ⟨rfl, rfl⟩
    case round =>
      obtain ⟨rfl, rfl⟩ := hrel
      go_wp2_with fail
      go_end0
      exact ⟨rfl, ⟨rfl, rfl, rfl, Nat.le_refl _, fun _ _ _ => rfl⟩⟩
  · injection hv with e1 e2 e3
    subst e1; subst e3
    have hbx : Box w g 3 cur := hbk
    have gl : (xs.length : Int) ≤ (c : Int) := by omega
    have hc : c ≤ 9223372036854775807 := by unfold maxLen at h2; exact h2
    have hS : (∃ cur, Box w g 3 cur ∧ cur.size = c) ∧ w.grownBy w (some g) := ⟨⟨cur, hbx, by omega⟩, ⟨rfl, rfl, rfl, Nat.le_refl _, fun _ _ _ => rfl⟩⟩
    clear hA hbk h4 hbx h3
    go_enter Tryz.func42, Tryz.ntmps42
    go_wp2_with fail
    go_loopw [11] (fun i wr => ∃ k : Nat, k ≤ c ∧ i = .int .i64 k ∧ (∃ cur, Box wr g 3 cur ∧ cur.size = c) ∧ w.grownBy wr (some g)) (fun i _ => c - (intOf i).toNat)
    case atStart => exact ⟨0, Nat.zero_le _, rfl, hS⟩
    case round =>
      clear hS
      obtain ⟨k, hk, rfl, ⟨cr, hcr, hsz⟩, hgr⟩ := hrel
      by_cases hkc : k < c
      · have g1 : (0 : Int) ≤ (k : Int) := by omega
        have g2 : (k : Int) < (c : Int) := by omega
        have hi0 : k < cr.size := by omega
        have d0 := hcr.cell k (v := cr[k]) (by simp [hi0])
        have f0 := hcr.frozen k
        have o1 := hcr.set k (.int .i64 x)
        have ga := grown_set wr g k (.int .i64 x)
        have HN := hideP (show (∃ cur, Box (wr.setCell ⟨g, k, none⟩ (.int .i64 x)) g 3 cur ∧ cur.size = c) ∧ w.grownBy (wr.setCell ⟨g, k, none⟩ (.int .i64 x)) (some g) from ⟨⟨_, o1, by simp [hsz]⟩, ⟨ga.os.trans hgr.os, ga.tape.trans hgr.tape, ga.output.trans hgr.output, Nat.le_trans hgr.size ga.size, fun i hi hne => (ga.block i (Nat.lt_of_lt_of_le hi hgr.size) hne).trans (hgr.block i hi hne)⟩⟩)
        clear o1 hcr hgr hsz ga
        go_wp2_with fail
        go_roundw
        case rel => exact ⟨k + 1, by omega, by go_num, HN.out⟩
        case measure => simp [intOf]; omega
      · go_wp2_with fail
        go_end0
        exact ⟨rfl, hgr⟩
end Go.Proofs.YtpefdonhacmaoaaGreat
