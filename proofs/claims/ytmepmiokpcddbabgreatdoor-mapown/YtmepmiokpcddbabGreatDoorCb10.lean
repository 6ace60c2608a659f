/-
  The frame of rokeep.apart at int.
  shard.Find.
  Partition maps of the call's own; a map while it is made (no body of the program in it).
-/
import Derived.Test.YtmepmiokpcddbabGreatDoorCb9
import Derived.Test.YtmepmiokpcddbabGreatDoorCb8
import Derived.Test.YtmepmiokpcddbabGreatDoorCb3
import Derived.Deep.RegionHeld3
set_option linter.unusedVariables false
set_option linter.unusedSimpArgs false
namespace Go.Proofs.YtmepmiokpcddbabGreatDoor
open Go.RowKit

/-- a slice of the call's own -/
structure SvIF where
  A : Option Addr
  c : Nat
  zs : List Int
def SvIF.v (s : SvIF) : Value := .slice s.A s.zs.length s.c
def SvIF.o (s : SvIF) (w : World) (B : Nat) : Prop := OR w B 3 s.A s.c (s.zs.map (Value.int .i64))
theorem rowsIInfoF : (Tryz.prog.info? 26).map (fun i => (i.zero, i.size, i.bytes)) = some (some (.slice none 0 0), 1, 24) := by kernel_rfl
theorem oneIF (zs : List Int) : ∀ u ∈ zs.map (Value.int .i64), u.oneCell' = true := by intro u hu; obtain ⟨x, _, rfl⟩ := List.mem_map.1 hu; rfl
theorem SvIF.o.keep {s : SvIF} {w w' : World} {B : Nat} {r : Option Nat} (h : s.o w B) (hg : w.grownBy w' r) (hne : blk s.A = none ∨ blk s.A ≠ r) : s.o w' B := World.ownsRow.kept h hg (by rw [ownBlock_slice]; exact hne)
/-- slices that lie in a slice, each in a block of its own -/
structure ApsIF (w : World) (B ga : Nat) (ss : List SvIF) : Prop where
  bx : Box w ga 26 (ss.map SvIF.v).toArray
  ow : ∀ s ∈ ss, s.o w B
  sm : ∀ s ∈ ss, s.zs.length ≤ 1000000
  ap : ∀ (i j : Nat) (s s' : SvIF), i ≠ j → ss[i]? = some s → ss[j]? = some s' → blk s.A = none ∨ blk s.A ≠ blk s'.A
/-- the copies -/
structure WanIF (w wr : World) (ss ws : List SvIF) (Aw : Option Addr) (cw : Nat) : Prop where
  row : OR wr w.heap.size 26 Aw cw (ws.map SvIF.v)
  ow : ∀ s ∈ ws, s.o wr w.heap.size
  eq : ∀ (j : Nat) (s s' : SvIF), ws[j]? = some s → ss[j]? = some s' → s.zs = s'.zs
theorem WanIF.below {w wr w' : World} {ss ws : List SvIF} {Aw : Option Addr} {cw : Nat} (h : WanIF w wr ss ws Aw cw) (hb : Below wr.heap.size wr w') : WanIF w w' ss ws Aw cw := ⟨h.row.below hb, fun s hs => OR.below (h.ow s hs) hb, h.eq⟩
/-- the blocks of the slices -/
def ApBIF (ss : List SvIF) (k : Nat) : Prop := ∃ s ∈ ss, blk s.A = some k
def Ap1IF (w : World) (ss : List SvIF) (v i : Value) (wr : World) : Prop := ∃ (k : Nat) (ws : List SvIF) (Aw : Option Addr) (cw : Nat), k ≤ ss.length ∧ i = .int .i64 k ∧ v = .slice Aw ws.length cw ∧ ws.length = k ∧ WanIF w wr ss ws Aw cw ∧ Below w.heap.size w wr
def Ap2IF (w : World) (B ga : Nat) (ss ws : List SvIF) (Aw : Option Addr) (cw : Nat) (i : Value) (wr : World) : Prop := ∃ k : Nat, k ≤ ss.length ∧ i = .int .i64 k ∧ WanIF w wr ss ws Aw cw ∧ Box wr ga 26 (ss.map SvIF.v).toArray ∧ (∀ (j : Nat) (s : SvIF), k ≤ j → ss[j]? = some s → s.o wr B) ∧ Below B w wr ∧ w.heap.size ≤ wr.heap.size ∧ (KpT 3 w wr ∧ Fr (ApBIF ss) w wr)

set_option maxHeartbeats 2000000 in
set_option maxRecDepth 100000 in
theorem apartI_fr (B ga cg : Nat) (ss : List SvIF) (x : Int) (w : World) (h : ApsIF w B ga ss) (hB : B ≤ w.heap.size) (hn : ss.length ≤ 1000) :
    Calls Tryz.prog 50 #[.int .i64 x, .slice (some ⟨ga, 0, none⟩) ss.length cg] w fun e w' => e = .returned (.bool true) ∧ Below B w w' ∧ Fr (ApBIF ss) w w' := by
  go_enter Tryz.func50, Tryz.ntmps50
  go_wp2_with fail
  go_loopw [5, 12] (Ap1IF w ss) (fun _ i _ => ss.length - (intOf i).toNat)
  case atStart => exact ⟨0, [], none, 0, Nat.zero_le _, rfl, rfl, rfl, ⟨OR.nil _ _ _, (fun s hs => by cases hs), (fun j s s' hs => by simp at hs)⟩, Below.refl _ _⟩
  case round =>
    obtain ⟨k, ws, Aw, cw, hk, rfl, rfl, hwl, hW, hb⟩ := hrel
    by_cases hkl : k < ss.length
    · have hbx := h.bx.below hb
      have c1 := hbx.cell k (v := ss[k].v) (by simp [hkl])
      have hs0 := OR.below (h.ow _ (List.getElem_mem hkl)) hb
      have hsm := h.sm _ (List.getElem_mem hkl)
      have HEQ := hideP (show ∀ s', ss[k]? = some s' → ss[k].zs = s'.zs from fun s' hs => by rw [List.getElem?_eq_getElem hkl] at hs; injection hs with hs; rw [hs])
      generalize ss[k] = s at c1 hs0 hsm HEQ
      obtain ⟨A0, c0, zs⟩ := s
      simp only [SvIF.v, SvIF.o] at c1 hs0 hsm HEQ
      have HCL := hideP (cloneI_any B A0 c0 (zs.map (Value.int .i64)) wr hs0 (oneIF zs) (by rw [List.length_map]; exact hsm))
      simp only [List.length_map] at HCL
      have g1 : (0 : Int) ≤ (k : Int) := by omega
      have g2 : (k : Int) < (ss.length : Int) := by omega
      have HWL := hideP hwl
      clear hbx hs0 hwl
      go_wp2_with fail
      refine HCL.out.mono ?_
      rintro e w1 ⟨A1, c1', rfl, ho1, hb1⟩
      have hW1 := hW.below hb1
      have hb2 := hb.trans (hb1.mono hb.size)
      have ho1' := ho1.mono hb.size
      obtain ⟨A', c', w2, hrun, hr2, hbl2, hg2, _⟩ := app_row (P := Tryz.prog) Tryz.underlying59 rowsIInfoF rfl w1 w.heap.size 59 Aw cw _ hW1.row [.slice A1 zs.length c1'] (by simp [Value.oneCell']) (by rw [List.length_map, HWL.out]; simp only [List.length_singleton]; omega) (by decide) hb2.size
      have hb3 := hbl2 w.heap.size w (Nat.le_refl _) hb2
      have hal := (Below.refl w1.heap.size w1).alloc (Nat.le_refl _) (.cells #[.slice A1 zs.length c1'] 26)
      have hX : ws.map SvIF.v ++ [Value.slice A1 zs.length c1'] = (ws ++ [(⟨A1, c1', zs⟩ : SvIF)]).map SvIF.v := by simp [SvIF.v]
      rw [hX] at hrun hr2
      rw [List.length_map, List.length_map] at hrun
      have hne : ∀ {xs : List Value} {a : Option Addr} {cc : Nat} {B' : Nat}, OR (w1.alloc (.cells #[.slice A1 zs.length c1'] 26)) B' 3 a cc xs → (Value.slice a xs.length cc).ownBlock = none ∨ (Value.slice a xs.length cc).ownBlock ≠ (Value.slice Aw (ws.map SvIF.v).length cw).ownBlock := fun ho => rows_ne ho (hW1.row.below hal) (by decide)
      have hW2 : WanIF w w2 ss (ws ++ [⟨A1, c1', zs⟩]) A' c' := by
        refine ⟨hr2, fun s hs => ?_, fun j s s' hs hs' => ?_⟩
        · rcases List.mem_append.1 hs with hs | hs
          · exact World.ownsRow.kept (OR.below (hW1.ow s hs) hal) hg2 (hne (OR.below (hW1.ow s hs) hal))
          · rw [List.mem_singleton.1 hs]
            exact World.ownsRow.kept (OR.below ho1' hal) hg2 (hne (OR.below ho1' hal))
        · rcases Nat.lt_or_ge j ws.length with hj | hj
          · rw [List.getElem?_append_left hj] at hs
            exact hW1.eq j s s' hs hs'
          · have hjk : j = k := by
              rcases Nat.lt_or_ge j (ws.length + 1) with h | h
              · have := HWL.out; omega
              · rw [List.getElem?_eq_none (by simp; omega)] at hs; cases hs
            subst hjk
            rw [List.getElem?_append_right hj] at hs
            have := HWL.out
            rw [show j - ws.length = 0 by omega] at hs
            simp at hs
            rw [← hs]
            exact HEQ.out s' hs'
      have HR := hideP hrun
      clear hrun hX hne hr2 hg2 hbl2 hW hW1 ho1 ho1' hb1 HCL hal hb hb2
      go_wp2_with (at_builtin; refine Lib.wpList_append_run _ rfl _ _ _ _ rfl _ _ rfl rfl _ _ HR.out ?_)
      go_roundw
      case rel => exact ⟨k + 1, ws ++ [⟨A1, c1', zs⟩], A', c', by omega, by go_num, by simp, by simp [HWL.out], hW2, hb3⟩
      case measure => simp [intOf]; omega
    · have hwn : ws.length = ss.length := by omega
      have HWN := hideP hwn
      clear hwl hwn
      go_wp2_with fail
      go_loopw [24] (Ap2IF w B ga ss ws Aw cw) (fun i _ => ss.length - (intOf i).toNat)
      case atStart => exact ⟨0, Nat.zero_le _, rfl, hW, h.bx.below hb, fun j s _ hs => OR.below (h.ow s (List.mem_of_getElem? hs)) hb, hb.mono hB, hb.size, KpT.of_below hb, Fr.of_below hb⟩
      case round =>
        clear hW hb
        obtain ⟨j, hj, rfl, hW, hbx, hrest, hbB, hsz, hkt⟩ := hrel
        by_cases hjl : j < ss.length
        · have hjw : j < ws.length := by have := HWN.out; omega
          have c1 := hbx.cell j (v := ss[j].v) (by simp [hjl])
          obtain ⟨b, o, rfl, hbl, c2⟩ := hW.row.vs j ws[j].v (by simp [hjw])
          have hs0 := hrest j _ (Nat.le_refl _) (List.getElem?_eq_getElem hjl)
          have hs1 := hW.ow _ (List.getElem_mem hjw)
          have hsm := h.sm _ (List.getElem_mem hjl)
          have heq := hW.eq j _ _ (List.getElem?_eq_getElem hjw) (List.getElem?_eq_getElem hjl)
          have HAP := hideP (fun (i : Nat) (s : SvIF) (hi : i ≠ j) (hs : ss[i]? = some s) => h.ap i j s _ hi hs (List.getElem?_eq_getElem hjl))
          have HLT := hideP (show ∀ r, blk ss[j].A = some r → r < w.heap.size from fun r hr => (World.ownsRow.lt (h.ow _ (List.getElem_mem hjl)) r (by rw [ownBlock_slice]; exact hr)).2)
          have HFS := hideP (show ∀ r, blk ss[j].A = some r → ApBIF ss r from fun r hr => ⟨_, List.getElem_mem hjl, hr⟩)
          have HTY := hideP (show ∀ r, blk ss[j].A = some r → Ty w r 3 from fun r hr => own_ty (h.ow _ (List.getElem_mem hjl)) (by rw [ownBlock_slice]; exact hr))
          have HLO := hideP (show ∀ r, blk ss[j].A = some r → B ≤ r from fun r hr => (World.ownsRow.lt (h.ow _ (List.getElem_mem hjl)) r (by rw [ownBlock_slice]; exact hr)).1)
          generalize ss[j] = s at c1 hs0 hsm heq HAP HLT HLO HTY HFS
          generalize ws[j] = s1 at c2 hs1 heq
          obtain ⟨A0, c0, zs⟩ := s
          obtain ⟨A1, c1', zs1⟩ := s1
          simp only [SvIF.v, SvIF.o] at c1 c2 hs0 hs1 hsm heq HAP HLT HLO HTY HFS
          subst heq
          have HEQ := hideP (ieq_any A0 A1 c0 c1' zs1 zs1 wr hs0.vs.is_int hs1.vs.is_int (by omega) (by omega))
          simp only [decide_true] at HEQ
          have g1 : (0 : Int) ≤ (j : Int) := by omega
          have g2 : (j : Int) < (ss.length : Int) := by omega
          have g3 : (j : Int) < (ws.length : Int) := by omega
          go_wp2_with fail
          refine HEQ.out.mono ?_
          rintro e w1 ⟨rfl, hb1⟩
          replace hW := hW.below hb1
          replace hbx := hbx.below hb1
          replace hs0 := hs0.below hb1
          have hrest1 : ∀ (i : Nat) (s : SvIF), j + 1 ≤ i → ss[i]? = some s → s.o w1 B := fun i s hi hs => OR.below (hrest i s (by omega) hs) hb1
          have hbB1 := hbB.trans (hb1.mono (Nat.le_trans hB hsz))
          have hsz1 := Nat.le_trans hsz hb1.size
          have hkt1 := hkt.1.below hb1 hsz
          have hfr1 := hkt.2.trans (Fr.of_below (F := fun _ => False) hb1) (fun _ e => e.elim)
          clear hkt
          have HSP := hideP (spoilI_any B A0 c0 (zs1.map (Value.int .i64)) x w1 hs0)
          simp only [List.length_map] at HSP
          have hty : ∀ r, blk A0 = some r → Ty w1 r 3 := fun r hr => own_ty hs0 (by rw [ownBlock_slice]; exact hr)
          clear HEQ hs1 hb1 hrest hbB hsz c1 c2
          go_wp2_with fail
          refine HSP.out.mono ?_
          rintro e w2 ⟨rfl, hg2⟩
          have hF : Ap2IF w B ga ss ws (some ⟨b, o, none⟩) cw (.int .i64 ((j + 1 : Nat) : Int)) w2 := by
            have far : ∀ {t : TypeId} {a : Option Addr} {cc : Nat} {xs : List Value}, OR w1 w.heap.size t a cc xs → (Value.slice a xs.length cc).ownBlock = none ∨ (Value.slice a xs.length cc).ownBlock ≠ blk A0 := fun {t a cc xs} ho => by
              cases hbk : (Value.slice a xs.length cc).ownBlock with
              | none => exact .inl rfl
              | some r =>
                refine .inr fun e => ?_
                have h1 := (World.ownsRow.lt ho r hbk).1
                have h2 := HLT.out r e.symm
                omega
            refine ⟨j + 1, by omega, rfl, ⟨World.ownsRow.kept hW.row hg2 (far hW.row), fun s hs => World.ownsRow.kept (hW.ow s hs) hg2 (far (hW.ow s hs)), hW.eq⟩, ?_, fun i s hi hs => (hrest1 i s hi hs).keep hg2 (HAP.out i s (by omega) hs), ?_, Nat.le_trans hsz1 hg2.size, hkt1.grown hg2 (fun i hi => HTY.out i hi) hsz1, hfr1.comp (Fr.of_grown hg2 fun i hi => HFS.out i hi)⟩
            · exact hbx.grown hg2 fun e => by
                have := hty ga e.symm
                exact absurd (this.inj hbx.ty) (by decide)
            · exact hbB1.grown hg2 (Nat.le_trans hB hsz1) fun r hr => HLO.out r hr
          have HF := hideP hF
          clear hF HSP hg2 hW hbx hs0 hrest1 hbB1 hsz1 hty
          go_wp2_with fail
          go_roundw
          case rel => exact HF.out
          case measure => simp [intOf]; omega
        · go_wp2_with fail
          go_ret
          exact ⟨rfl, hbB, hkt.2⟩
end Go.Proofs.YtmepmiokpcddbabGreatDoor

set_option linter.unusedVariables false
set_option linter.unusedSimpArgs false
namespace Go.Proofs.YtmepmiokpcddbabGreatDoor
open Go.RowKit

/-- what Find answers -/
def findV (cs : List ByteArray) (os : List Int) (key : ByteArray) : Int × Int :=
  if chkM cs os ≠ 0 then (0, chkM cs os) else if keyB key = false then (0, 3) else (whV cs os key, 0)
theorem findV_bad {cs : List ByteArray} {os : List Int} {key : ByteArray} (h : chkM cs os ≠ 0) : findV cs os key = (0, chkM cs os) := by unfold findV; rw [if_pos h]
theorem findV_key {cs : List ByteArray} {os : List Int} {key : ByteArray} (h : chkM cs os = 0) (hk : keyB key = false) : findV cs os key = (0, 3) := by unfold findV; rw [if_neg (by simp [h]), if_pos hk]
theorem findV_ok {cs : List ByteArray} {os : List Int} {key : ByteArray} (h : chkM cs os = 0) (hk : keyB key = true) : findV cs os key = (whV cs os key, 0) := by unfold findV; rw [if_neg (by simp [h]), if_neg (by simp [hk])]
theorem ret_ii {a b c d : Int} (h : a = c) (k : b = d) : Ending.returned (.tuple #[.int .i64 a, .int .i64 b]) = .returned (.tuple #[.int .i64 c, .int .i64 d]) := by rw [h, k]
def RetFd (w : World) (r : Int × Int) (e : Ending) (w' : World) : Prop := e = .returned (.tuple #[.int .i64 r.1, .int .i64 r.2]) ∧ Below w.heap.size w w'

set_option maxHeartbeats 1000000 in
set_option maxRecDepth 100000 in
theorem shfind_any (m : Mp) (key : ByteArray) (w : World) (hm : MS w m) (l2 : m.os.length ≤ 9223372036854775807) :
    Calls Tryz.prog 87 #[.agg #[.slice m.A m.cs.length m.ca, .slice m.O m.os.length m.co], .string key] w (RetFd w (findV m.cs m.os key)) := by
  have hH := MH.new hm
  go_enter Tryz.func87, Tryz.ntmps87
  obtain ⟨z1, z2⟩ := hH.c
  go_wp2_with fail
  generalize w.alloc (.cells #[.slice m.A m.cs.length m.ca, .slice m.O m.os.length m.co] 28) = w1 at hH z1 z2 ⊢
  generalize w.heap.size = g at hH z1 z2 ⊢
  refine (shcheck_any m _ hH.ms l2).mono ?_
  rintro e w2 ⟨rfl, hb2⟩
  replace hH := hH.below hb2
  clear hb2 z1 z2
  by_cases hc : chkM m.cs m.os = 0
  · have hok := chkM_ok.1 hc
    have hfew := hok.few
    have hlen := hok.len
    have HC := hideP hc
    rw [hc]
    go_wp2_with fail
    refine (key_any _ _).mono ?_
    rintro e w3 ⟨rfl, rfl⟩
    cases hk : keyB key
    · have HK := hideP hk
      have hbe := hH.be
      clear hk
      go_wp2_with fail
      go_ret2
      exact ⟨ret_ii (by rw [findV_key HC.out HK.out]) (by rw [findV_key HC.out HK.out]), hbe⟩
    · have HK := hideP hk
      clear hk
      have hat := atC_le m.cs key
      obtain ⟨bO, oO, eO, _, _⟩ := hm.own (atC m.cs key) (m.os.getD (atC m.cs key) 0) (by simp [List.getD_eq_getElem?_getD, show atC m.cs key < m.os.length by omega])
      have HS := hideP (fun (wr : World) (h : MH w g m wr) => show wr.cell? ⟨g, 0, none⟩ = some (.slice m.A m.cs.length m.ca) ∧ wr.cell? ⟨g, 1, none⟩ = some (.slice (some ⟨bO, oO, none⟩) m.os.length m.co) ∧ wr.cell? ⟨bO, oO + atC m.cs key, none⟩ = some (.int .i64 (whV m.cs m.os key)) from by
        obtain ⟨b2, o2, e2, _, c2⟩ := h.ms.own (atC m.cs key) (m.os.getD (atC m.cs key) 0) (by simp [List.getD_eq_getElem?_getD, show atC m.cs key < m.os.length by omega])
        rw [eO] at e2
        injection e2 with e2
        injection e2 with e3 e4
        subst e3; subst e4
        exact ⟨h.c.1, by rw [← eO]; exact h.c.2, c2⟩)
      have HP := hideP (fun (wr : World) (h : MH w g m wr) => show Calls Tryz.prog 90 #[.agg #[.slice m.A m.cs.length m.ca, .slice (some ⟨bO, oO, none⟩) m.os.length m.co], .string key] wr fun e w' => e = .returned (.int .i64 (atC m.cs key : Nat)) ∧ Below wr.heap.size wr w' from by
        rw [← eO]; exact place_any m key wr h.ms hfew)
      have HF := hideP (show findV m.cs m.os key = (whV m.cs m.os key, 0) from findV_ok HC.out HK.out)
      have g1 : ((atC m.cs key : Nat) : Int) < (m.os.length : Int) := by omega
      have g2 : (0 : Int) ≤ ((atC m.cs key : Nat) : Int) := by omega
      generalize atC m.cs key = a at HS HP g1 g2
      generalize whV m.cs m.os key = v at HS HF
      clear hok hfew hlen hat
      generalize m.cs.length = n1 at HS HP
      generalize m.os.length = n2 at HS HP g1
      go_wp2_with fail
      replace hH := hH.below (Below.refl _ _).drew
      go_region_held3 (fun w' => w'.cell? ⟨g, 0, none⟩ = some (.slice m.A n1 m.ca) ∧ w'.cell? ⟨g, 1, none⟩ = some (.slice (some ⟨bO, oO, none⟩) n2 m.co) ∧ w'.cell? ⟨bO, oO + a, none⟩ = some (.int .i64 v)) (with_reducible exact HS.out _ hH) (first
        | (go_at_call 90; refine (HP.out _ hH).mono ?_; rintro e wn ⟨rfl, hbn⟩; replace hH := hH.below hbn; clear hbn))
      have hbe := hH.be
      go_wp2_with fail
      go_ret2
      exact ⟨ret_ii (by rw [HF.out]) (by rw [HF.out]), hbe⟩
  · have HF := hideP (show findV m.cs m.os key = (0, chkM m.cs m.os) from findV_bad hc)
    have d : (chkM m.cs m.os != 0) = true := by simp [hc]
    have hbe := hH.be
    clear hc
    generalize chkM m.cs m.os = q at d HF ⊢
    go_wp2_with fail
    go_ret2
    exact ⟨ret_ii (by rw [HF.out]) (by rw [HF.out]), hbe⟩
end Go.Proofs.YtmepmiokpcddbabGreatDoor

set_option linter.unusedVariables false
set_option linter.unusedSimpArgs false
namespace Go.Proofs.YtmepmiokpcddbabGreatDoor
open Go.RowKit

/-- what is handed back: a map and an error -/
def RetMr (w : World) (r : (List ByteArray × List Int) × Int) (e : Ending) (w' : World) : Prop :=
  ∃ n : Mp, e = .returned (.tuple #[.agg #[.slice n.A n.cs.length n.ca, .slice n.O n.os.length n.co], .int .i64 r.2]) ∧ n.cs = r.1.1 ∧ n.os = r.1.2 ∧ MO w' w.heap.size n ∧ Below w.heap.size w w'
/-- a map while it is made: the argument's box, the result's, its own -/
structure Pb (w : World) (g gr gp : Nat) (m n : Mp) (wr : World) : Prop where
  mh : MH w g m wr
  ms0 : MS w m
  res : Box wr gr 28 #[.slice none 0 0, .slice none 0 0]
  box : Box wr gp 28 #[.slice n.A n.cs.length n.ca, .slice n.O n.os.length n.co]
  mo : MO wr w.heap.size n
  low : w.heap.size ≤ g
  lr : g < gr
  lp : gr < gp
section
variable {w wr w' : World} {g gr gp : Nat} {m n : Mp}
theorem Pb.below (h : Pb w g gr gp m n wr) (hb : Below wr.heap.size wr w') : Pb w g gr gp m n w' := ⟨h.mh.below hb, h.ms0, h.res.below hb, h.box.below hb, h.mo.below hb, h.low, h.lr, h.lp⟩
/-- a cut is added -/
theorem Pb.addC (h : Pb w g gr gp m n wr) (hl : n.cs.length ≤ 1000) (c : ByteArray) :
    ∃ A' ca' a1, (Builtin.append_ #[25, 25] 25 #[.slice n.A n.cs.length n.ca, .slice (some ⟨wr.heap.size, 0, none⟩) 1 1]).run Tryz.prog (wr.alloc (.cells #[.string c] 9)) = .ok (.slice A' (n.cs.length + 1) ca') a1 ∧
      Box a1 gp 28 #[.slice n.A n.cs.length n.ca, .slice n.O n.os.length n.co] ∧
      Pb w g gr gp m ⟨A', ca', n.cs ++ [c], n.O, n.co, n.os⟩ (a1.setCell ⟨gp, 0, none⟩ (.slice A' (n.cs.length + 1) ca')) := by
  obtain ⟨A', ca', a1, hrun, hor1, hbl1, hgr1, _⟩ := app_row (P := Tryz.prog) Tryz.underlying25 strInfo rfl wr w.heap.size 25 n.A n.ca _ h.mo.cuts [.string c] (by simp [Value.oneCell']) (by rw [List.length_map]; simp only [List.length_singleton]; omega) (by decide) h.mh.be.size
  have hal1 := (Below.refl wr.heap.size wr).alloc (Nat.le_refl _) (.cells #[.string c] 9)
  have h1 := h.below hal1
  have hX1 : n.cs.map Value.string ++ [Value.string c] = (n.cs ++ [c]).map Value.string := by simp
  rw [hX1] at hrun hor1
  rw [List.length_map, List.length_map, List.length_append, List.length_singleton] at hrun
  have hcty : ∀ b, (Value.slice n.A (n.cs.map Value.string).length n.ca).ownBlock = some b → Ty (wr.alloc (.cells #[.string c] 9)) b 9 := fun b hb => own_ty h1.mo.cuts hb
  have hbx1 := h1.box.grown hgr1 fun e => absurd ((hcty _ e.symm).inj h1.box.ty) (by decide)
  have hrs1 := h1.res.grown hgr1 fun e => absurd ((hcty _ e.symm).inj h1.res.ty) (by decide)
  have hmb1 := h1.mh.x0.grown hgr1 fun e => absurd ((hcty _ e.symm).inj h1.mh.x0.ty) (by decide)
  have how1 : OR a1 w.heap.size 3 n.O n.co (n.os.map (Value.int .i64)) := World.ownsRow.kept h1.mo.own hgr1 (rows_ne h1.mo.own h1.mo.cuts (by decide))
  have hb1 := hbl1 w.heap.size w (Nat.le_refl _) h.mh.be
  have hb2 : Below w.heap.size w (a1.setCell ⟨gp, 0, none⟩ (.slice A' (n.cs.length + 1) ca')) := below_set hb1 (by have := h.low; have := h.lr; have := h.lp; omega)
  refine ⟨A', ca', a1, hrun, hbx1, ⟨hmb1.other (by have := h.lr; have := h.lp; show gp ≠ g; omega) _, h.ms0.below hb2, hb2⟩, h.ms0, hrs1.other (by have := h.lp; show gp ≠ gr; omega) _, ?_, ⟨hor1.set hbx1.ty (by decide), how1.set hbx1.ty (by decide)⟩, h.low, h.lr, h.lp⟩
  simpa using hbx1.set 0 (.slice A' (n.cs.length + 1) ca')
/-- an owner is added -/
theorem Pb.addO (h : Pb w g gr gp m n wr) (hl : n.os.length ≤ 1000) (z : Int) :
    ∃ O' co' a1, (Builtin.append_ #[26, 26] 26 #[.slice n.O n.os.length n.co, .slice (some ⟨wr.heap.size, 0, none⟩) 1 1]).run Tryz.prog (wr.alloc (.cells #[.int .i64 z] 3)) = .ok (.slice O' (n.os.length + 1) co') a1 ∧
      Box a1 gp 28 #[.slice n.A n.cs.length n.ca, .slice n.O n.os.length n.co] ∧
      Pb w g gr gp m ⟨n.A, n.ca, n.cs, O', co', n.os ++ [z]⟩ (a1.setCell ⟨gp, 1, none⟩ (.slice O' (n.os.length + 1) co')) := by
  obtain ⟨O', co', a1, hrun, hor1, hbl1, hgr1, _⟩ := app_row (P := Tryz.prog) Tryz.underlying26 intInfo rfl wr w.heap.size 26 n.O n.co _ h.mo.own [.int .i64 z] (by simp [Value.oneCell']) (by rw [List.length_map]; simp only [List.length_singleton]; omega) (by decide) h.mh.be.size
  have hal1 := (Below.refl wr.heap.size wr).alloc (Nat.le_refl _) (.cells #[.int .i64 z] 3)
  have h1 := h.below hal1
  have hX1 : n.os.map (Value.int .i64) ++ [Value.int .i64 z] = (n.os ++ [z]).map (Value.int .i64) := by simp
  rw [hX1] at hrun hor1
  rw [List.length_map, List.length_map, List.length_append, List.length_singleton] at hrun
  have hcty : ∀ b, (Value.slice n.O (n.os.map (Value.int .i64)).length n.co).ownBlock = some b → Ty (wr.alloc (.cells #[.int .i64 z] 3)) b 3 := fun b hb => own_ty h1.mo.own hb
  have hbx1 := h1.box.grown hgr1 fun e => absurd ((hcty _ e.symm).inj h1.box.ty) (by decide)
  have hrs1 := h1.res.grown hgr1 fun e => absurd ((hcty _ e.symm).inj h1.res.ty) (by decide)
  have hmb1 := h1.mh.x0.grown hgr1 fun e => absurd ((hcty _ e.symm).inj h1.mh.x0.ty) (by decide)
  have how1 : OR a1 w.heap.size 9 n.A n.ca (n.cs.map Value.string) := World.ownsRow.kept h1.mo.cuts hgr1 (rows_ne h1.mo.cuts h1.mo.own (by decide))
  have hb1 := hbl1 w.heap.size w (Nat.le_refl _) h.mh.be
  have hb2 : Below w.heap.size w (a1.setCell ⟨gp, 1, none⟩ (.slice O' (n.os.length + 1) co')) := below_set hb1 (by have := h.low; have := h.lr; have := h.lp; omega)
  refine ⟨O', co', a1, hrun, hbx1, ⟨hmb1.other (by have := h.lr; have := h.lp; show gp ≠ g; omega) _, h.ms0.below hb2, hb2⟩, h.ms0, hrs1.other (by have := h.lp; show gp ≠ gr; omega) _, ?_, ⟨how1.set hbx1.ty (by decide), hor1.set hbx1.ty (by decide)⟩, h.low, h.lr, h.lp⟩
  simpa using hbx1.set 1 (.slice O' (n.os.length + 1) co')
end
end Go.Proofs.YtmepmiokpcddbabGreatDoor
