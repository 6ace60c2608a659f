/-
  roref.ReadMap: what it reads.
  roref.ReadDeed: the transaction while it is read; the search of a sign, plainly.
  The cells of an operation that was handed over (no program in it).
-/
import Derived.Test.YtmepmiokpcddbabGreatDoorCa17
import Derived.Test.YtmepmiokpcddbabGreatDoorCa20
import Derived.Test.YtmepmiokpcddbabGreatDoorCa21
import Derived.Test.YtmepmiokpcddbabGreatDoorCa16
import Derived.Test.YtmepmiokpcddbabGreatDoorCa1
import Derived.OwnWalk
set_option linter.unusedVariables false
set_option linter.unusedSimpArgs false
namespace Go.Proofs.YtmepmiokpcddbabGreatDoor
open Go.RowKit
open Go.Lib hiding intOf

/-- the map while it is read -/
structure Rq (w : World) (gr gm B : Nat) (n : Mp) (wr : World) : Prop where
  box : Box wr gm 28 #[.slice n.A n.cs.length n.ca, .slice n.O n.os.length n.co]
  res : Box wr gr 28 #[.slice none 0 0, .slice none 0 0]
  mo : MO wr B n
  wB : w.heap.size ≤ B
  BB : B ≤ wr.heap.size
  ne : gm ≠ gr
  lowm : w.heap.size ≤ gm
  lowr : w.heap.size ≤ gr
  bel : Below w.heap.size w wr
section
variable {w wr w' : World} {gr gm B : Nat} {n : Mp}
theorem Rq.below (h : Rq w gr gm B n wr) (hb : Below wr.heap.size wr w') : Rq w gr gm B n w' :=
  ⟨h.box.below hb, h.res.below hb, h.mo.below hb, h.wB, Nat.le_trans h.BB hb.size, h.ne, h.lowm, h.lowr, h.bel.trans (hb.mono h.bel.size)⟩
set_option maxRecDepth 100000 in
/-- a cut is added -/
theorem Rq.cut (h : Rq w gr gm B n wr) (s : ByteArray) (hl : n.cs.length ≤ 5000000000) :
    ∃ A' ca' a1, (Builtin.append_ #[25, 25] 25 #[.slice n.A n.cs.length n.ca, .slice (some ⟨wr.heap.size, 0, none⟩) 1 1]).run Tryz.prog (wr.alloc (.cells #[.string s] 9)) = .ok (.slice A' (n.cs.length + 1) ca') a1 ∧
      Box a1 gm 28 #[.slice n.A n.cs.length n.ca, .slice n.O n.os.length n.co] ∧
      Rq w gr gm B ⟨A', ca', n.cs ++ [s], n.O, n.co, n.os⟩ (a1.setCell ⟨gm, 0, none⟩ (.slice A' (n.cs.length + 1) ca')) := by
  obtain ⟨A', ca', a1, hrun, hor1, hbl1, hgr1, _⟩ := app_row (P := Tryz.prog) Tryz.underlying25 strInfo rfl wr B 25 n.A n.ca _ h.mo.cuts [.string s] (by simp [Value.oneCell']) (by rw [List.length_map]; simp only [List.length_singleton]; omega) (by decide) h.BB
  have hal1 := (Below.refl wr.heap.size wr).alloc (Nat.le_refl _) (.cells #[.string s] 9)
  have h1 := h.below hal1
  have hX1 : n.cs.map Value.string ++ [Value.string s] = (n.cs ++ [s]).map Value.string := by simp
  rw [hX1] at hrun hor1
  rw [List.length_map, List.length_map, List.length_append, List.length_singleton] at hrun
  rw [List.length_map] at hgr1
  have hcty : ∀ b, (Value.slice n.A n.cs.length n.ca).ownBlock = some b → Ty (wr.alloc (.cells #[.string s] 9)) b 9 := fun b hb => own_ty h1.mo.cuts (by rw [List.length_map]; exact hb)
  have hbx1 := h1.box.grown hgr1 fun e => absurd ((hcty _ e.symm).inj h1.box.ty) (by decide)
  have hrs1 := h1.res.grown hgr1 fun e => absurd ((hcty _ e.symm).inj h1.res.ty) (by decide)
  have how1 : OR a1 B 3 n.O n.co (n.os.map (Value.int .i64)) := World.ownsRow.kept h1.mo.own hgr1 (by have := rows_ne h1.mo.own h1.mo.cuts (by decide); simpa using this)
  have hb1 := hbl1 w.heap.size w h.wB h.bel
  have hS : B ≤ a1.heap.size := Nat.le_trans h1.BB hgr1.size
  refine ⟨A', ca', a1, hrun, hbx1, ?_⟩
  have hT := hbx1.set 0 (.slice A' (n.cs.length + 1) ca')
  refine ⟨?_, hrs1.other h.ne _, ⟨hor1.set hbx1.ty (by decide), how1.set hbx1.ty (by decide)⟩, h.wB, by simpa [World.setCell] using hS, h.ne, h.lowm, h.lowr, below_set hb1 h.lowm⟩
  simpa using hT
set_option maxRecDepth 100000 in
/-- an owner is added -/
theorem Rq.owner (h : Rq w gr gm B n wr) (z : Int) (hl : n.os.length ≤ 5000000000) :
    ∃ O' co' a1, (Builtin.append_ #[26, 26] 26 #[.slice n.O n.os.length n.co, .slice (some ⟨wr.heap.size, 0, none⟩) 1 1]).run Tryz.prog (wr.alloc (.cells #[.int .i64 z] 3)) = .ok (.slice O' (n.os.length + 1) co') a1 ∧
      Box a1 gm 28 #[.slice n.A n.cs.length n.ca, .slice n.O n.os.length n.co] ∧
      Rq w gr gm B ⟨n.A, n.ca, n.cs, O', co', n.os ++ [z]⟩ (a1.setCell ⟨gm, 1, none⟩ (.slice O' (n.os.length + 1) co')) := by
  obtain ⟨O', co', a1, hrun, hor1, hbl1, hgr1, _⟩ := app_row (P := Tryz.prog) Tryz.underlying26 intInfo rfl wr B 26 n.O n.co _ h.mo.own [.int .i64 z] (by simp [Value.oneCell']) (by rw [List.length_map]; simp only [List.length_singleton]; omega) (by decide) h.BB
  have hal1 := (Below.refl wr.heap.size wr).alloc (Nat.le_refl _) (.cells #[.int .i64 z] 3)
  have h1 := h.below hal1
  have hX1 : n.os.map (Value.int .i64) ++ [Value.int .i64 z] = (n.os ++ [z]).map (Value.int .i64) := by simp
  rw [hX1] at hrun hor1
  rw [List.length_map, List.length_map, List.length_append, List.length_singleton] at hrun
  rw [List.length_map] at hgr1
  have hcty : ∀ b, (Value.slice n.O n.os.length n.co).ownBlock = some b → Ty (wr.alloc (.cells #[.int .i64 z] 3)) b 3 := fun b hb => own_ty h1.mo.own (by rw [List.length_map]; exact hb)
  have hbx1 := h1.box.grown hgr1 fun e => absurd ((hcty _ e.symm).inj h1.box.ty) (by decide)
  have hrs1 := h1.res.grown hgr1 fun e => absurd ((hcty _ e.symm).inj h1.res.ty) (by decide)
  have how1 : OR a1 B 9 n.A n.ca (n.cs.map Value.string) := World.ownsRow.kept h1.mo.cuts hgr1 (by have := rows_ne h1.mo.cuts h1.mo.own (by decide); simpa using this)
  have hb1 := hbl1 w.heap.size w h.wB h.bel
  have hS : B ≤ a1.heap.size := Nat.le_trans h1.BB hgr1.size
  refine ⟨O', co', a1, hrun, hbx1, ?_⟩
  have hT := hbx1.set 1 (.slice O' (n.os.length + 1) co')
  refine ⟨?_, hrs1.other h.ne _, ⟨how1.set hbx1.ty (by decide), hor1.set hbx1.ty (by decide)⟩, h.wB, by simpa [World.setCell] using hS, h.ne, h.lowm, h.lowr, below_set hb1 h.lowm⟩
  simpa using hT
end
/-- what ReadMap hands back -/
def RetRq (w : World) (l : List UInt8) (e : Ending) (w' : World) : Prop :=
  ∃ n : Mp, e = .returned (.tuple #[.agg #[.slice n.A n.cs.length n.ca, .slice n.O n.os.length n.co], .int .i64 (rdM l).1]) ∧ (rdM l).2 = (n.cs, n.os) ∧ MO w' w.heap.size n ∧ Below w.heap.size w w'
/-- while the words are read -/
def RqI (w : World) (gr gm B N : Nat) (L : List UInt8) (s b m : Value) (wr : World) : Prop :=
  ∃ (rest : ByteArray) (num more : Bool) (n : Mp) (W : List (List UInt8)), s = .string rest ∧ b = .bool num ∧ m = .bool more ∧ Rq w gr gm B n wr ∧ rdW true [] [] (spl 58 L) = rdW num n.cs n.os W ∧
    W = (if more then spl 58 rest.data.toList else []) ∧ n.cs.length + n.os.length + rest.size ≤ N + (if more then 0 else 1)
def rqM (s m : Value) : Nat := match s, m with
  | .string x, .bool true => x.size + 1
  | _, _ => 0
set_option maxHeartbeats 2000000 in
set_option maxRecDepth 100000 in
theorem rrdmap_any (s : ByteArray) (w : World) (hs : s.size < 4294967281) :
    Calls Tryz.prog 16 #[.string s] w (RetRq w s.data.toList) := by
  have b1 := ((Below.refl w.heap.size w).alloc (Nat.le_refl _) (.cells #[.slice none 0 0, .slice none 0 0] 28)).alloc (by simp) (.cells #[.slice none 0 0, .slice none 0 0] 28)
  have x1 := (Box.new w 28 #[.slice none 0 0, .slice none 0 0]).alloc (.cells #[.slice none 0 0, .slice none 0 0] 28)
  have x2 := Box.new (w.alloc (.cells #[.slice none 0 0, .slice none 0 0] 28)) 28 #[.slice none 0 0, .slice none 0 0]
  simp only [World.size_alloc] at x2
  go_enter Tryz.func16, Tryz.ntmps16
  go_wp2_with fail
  generalize (w.alloc (.cells #[.slice none 0 0, .slice none 0 0] 28)).alloc (.cells #[.slice none 0 0, .slice none 0 0] 28) = w1 at b1 x1 x2 ⊢
  have HI := hideP (show RqI w w.heap.size (w.heap.size + 1) w1.heap.size s.size s.data.toList (.string s) (.bool true) (.bool true) w1 from
    ⟨s, true, true, noM, _, rfl, rfl, rfl, ⟨x2, x1, noM_mo _ _, b1.size, Nat.le_refl _, by omega, by omega, by omega, b1⟩, rfl, rfl, by simp [noM]⟩)
  have HN := hideP (show w.heap.size ≤ w.heap.size + 1 by omega)
  generalize w1.heap.size = B at HI
  generalize w.heap.size + 1 = gm at HI HN ⊢
  generalize hgr : w.heap.size = gr at HI HN ⊢
  have HR := hideP hgr
  clear x1 x2 b1 hgr
  obtain ⟨N, hN⟩ : ∃ N, s.size = N := ⟨_, rfl⟩
  rw [hN] at HI hs
  clear hN
  obtain ⟨L, hL⟩ : ∃ L, s.data.toList = L := ⟨_, rfl⟩
  rw [hL] at HI
  have HL := hideP hL
  clear hL
  go_loopw [0, 5, 6] (RqI w gr gm B N L) (fun s _ m _ => rqM s m)
  case atStart => exact HI.out
  case round =>
    obtain ⟨rest, num, more, n, W, rfl, rfl, rfl, hM, hread, hW, hlen⟩ := hrel
    cases more
    · simp only [Bool.false_eq_true, if_false] at hW hlen
      subst hW
      have HV := hideP (rdM_some (show rdW true [] [] (spl 58 L) = some (n.cs, n.os) by rw [hread]; cases num <;> rfl))
      clear hread
      have m0 := hM.box.cell 0 rfl
      have m1 := hM.box.cell 1 rfl
      have HQ := hideP (rmap_any n wr hM.mo.ms (by omega))
      go_wp2_with fail
      refine HQ.out.mono ?_
      rintro e w5 ⟨rfl, hb5⟩
      have hM5 := hM.below hb5
      by_cases hc : chkM n.cs n.os = 0
      · have HV2 := hideP (show rdM L = (0, n.cs, n.os) by rw [HV.out, if_pos hc])
        rw [hc]
        clear hc HV HQ m0 m1
        have m0 := hM5.box.cell 0 rfl
        have m1 := hM5.box.cell 1 rfl
        obtain ⟨⟨t0, t1⟩, ⟨t2, t3⟩, R⟩ := box_two hM5.res (.slice n.A n.cs.length n.ca) (.slice n.O n.os.length n.co)
        have q0 := R.cell 0 rfl
        have q1 := R.cell 1 rfl
        have HF := hideP (res_set (w := w) hM5.res hM5.lowr (hM5.mo.mono hM5.wB) hM5.bel (.slice n.A n.cs.length n.ca) (.slice n.O n.os.length n.co))
        clear R hM5 hM
        go_wp2_with fail
        exact bodyPost_ret (v := .tuple #[.agg #[.slice n.A n.cs.length n.ca, .slice n.O n.os.length n.co], .int .i64 0]) (by simp [results, Tryz.results16, go_sem, q0, q1]) rfl (by rw [HL.out]; exact ⟨n, by rw [HV2.out], by rw [HV2.out], HF.out.1, HF.out.2⟩)
      · have HV2 := hideP (show rdM L = (chkM n.cs n.os, [], []) by rw [HV.out, if_neg hc])
        have d1 : (chkM n.cs n.os != 0) = true := by simpa using hc
        clear hc HV HQ m0 m1
        generalize chkM n.cs n.os = q at d1 HV2 ⊢
        obtain ⟨⟨t0, t1⟩, ⟨t2, t3⟩, R⟩ := box_two hM5.res (.slice none 0 0) (.slice none 0 0)
        have q0 := R.cell 0 rfl
        have q1 := R.cell 1 rfl
        have HF := hideP (res_set (w := w) hM5.res hM5.lowr (noM_mo _ _) hM5.bel (.slice none 0 0) (.slice none 0 0))
        clear R hM5 hM
        go_wp2_with fail
        exact bodyPost_ret (v := .tuple #[.agg #[.slice none 0 0, .slice none 0 0], .int .i64 q]) (by simp [results, Tryz.results16, go_sem, q0, q1]) rfl (by rw [HL.out]; exact ⟨noM, by rw [HV2.out]; rfl, by rw [HV2.out]; rfl, HF.out.1, HF.out.2⟩)
    · simp only [if_true] at hW hlen
      subst hW
      have HX := hideP (cut_any rest 58 wr (by omega))
      obtain ⟨x, r, more, hcut, hspl, hsz⟩ : ∃ (x r : List UInt8) (more : Bool), cut rest.data.toList [58] = (x, r, more) ∧ spl 58 rest.data.toList = x :: (if more then spl 58 r else []) ∧ r.length + (if more then 1 else 0) ≤ rest.size := by
        have hl : rest.data.toList.length = rest.size := by simp
        rcases at_byte 58 rest.data.toList with h | ⟨a, r, h, ha⟩
        · exact ⟨_, _, _, cut_no h, by rw [spl_no h]; rfl, by simp⟩
        · rw [h] at hl ⊢
          exact ⟨_, _, _, cut_hit ha, by rw [spl_hit ha]; rfl, by simp at hl; simp; omega⟩
      rw [hcut] at HX
      rw [hspl] at hread
      have HM := hideP (show rqM (.string (bs r)) (.bool more) < rqM (.string rest) (.bool true) by
        cases more
        · exact Nat.succ_pos _
        · show (bs r).size + 1 < rest.size + 1
          simp only [if_true] at hsz
          rw [bs_size]; omega)
      have hln : n.cs.length + n.os.length + (bs r).size + 1 ≤ N + (if more then 0 else 1) := by
        rw [bs_size]
        cases more <;> simp at hsz ⊢ <;> omega
      have HLN := hideP hln
      have hcl : n.cs.length ≤ 5000000000 ∧ n.os.length ≤ 5000000000 := by omega
      clear hcut hspl hsz hln hlen
      go_wp2_with fail
      refine HX.out.mono ?_
      rintro e w4 ⟨rfl, hb4⟩
      have hM4 := hM.below hb4
      clear hM hb4 HX
      cases num
      · rw [rdW] at hread
        have HRD := hideP hread
        clear hread
        have m0 := hM4.box.cell 0 rfl
        obtain ⟨A', ca', a1, hrun, hbx, hM2⟩ := hM4.cut (bs x) hcl.1
        have HRN := hideP hrun
        have m1 := hbx.cell 0 rfl
        have m2 := hbx.frozen 0
        clear hrun hbx hM4
        generalize hbx : bs x = bx at HRN HRD hM2 ⊢
        go_wp2_with (at_builtin; first | refine Lib.wpList_append_run _ rfl _ _ _ _ rfl _ _ rfl rfl _ _ HRN.out ?_)
        go_roundw
        case rel => exact ⟨bs r, true, more, _, _, rfl, rfl, rfl, hM2, HRD.out, rfl, by have := HLN.out; simp; omega⟩
        case measure => exact HM.out
      · rw [rdW] at hread
        have HRD := hideP hread
        clear hread
        have HX := hideP (rnum_any (bs x) w4)
        go_wp2_with fail
        refine HX.out.mono ?_
        rintro e w5 ⟨⟨z, rfl, hz⟩, hb5⟩
        have hM5 := hM4.below hb5
        rw [bs_data] at hz
        rw [bs_data]
        cases hn : rdN x with
        | none =>
          have HV := hideP (show rdM L = (9, [], []) from rdM_none (by rw [HRD.out, hn]))
          obtain ⟨⟨t0, t1⟩, ⟨t2, t3⟩, R⟩ := box_two hM5.res (.slice none 0 0) (.slice none 0 0)
          have q0 := R.cell 0 rfl
          have q1 := R.cell 1 rfl
          have HF := hideP (res_set (w := w) hM5.res hM5.lowr (noM_mo _ _) hM5.bel (.slice none 0 0) (.slice none 0 0))
          clear R hM5 hM4 HRD hz HX
          go_wp2_with fail
          exact bodyPost_ret (v := .tuple #[.agg #[.slice none 0 0, .slice none 0 0], .int .i64 9]) (by simp [results, Tryz.results16, go_sem, q0, q1]) rfl (by rw [HL.out]; exact ⟨noM, by rw [HV.out]; rfl, by rw [HV.out]; rfl, HF.out.1, HF.out.2⟩)
        | some y =>
          have hzy := hz y hn
          subst hzy
          have HRD2 := hideP (show rdW true [] [] (spl 58 L) = rdW false n.cs (n.os ++ [z]) (if more then spl 58 r else []) by rw [HRD.out, hn])
          have m0 := hM5.box.cell 1 rfl
          obtain ⟨O', co', a1, hrun, hbx, hM2⟩ := hM5.owner z hcl.2
          have HRN := hideP hrun
          have m1 := hbx.cell 1 rfl
          have m2 := hbx.frozen 1
          clear hrun hbx hM5 hM4 HRD hz HX hn
          go_wp2_with (at_builtin; first | refine Lib.wpList_append_run _ rfl _ _ _ _ rfl _ _ rfl rfl _ _ HRN.out ?_)
          go_roundw
          case rel => exact ⟨bs r, false, more, _, _, rfl, rfl, rfl, hM2, HRD2.out, rfl, by have := HLN.out; simp; omega⟩
          case measure => exact HM.out
end Go.Proofs.YtmepmiokpcddbabGreatDoor

set_option linter.unusedVariables false
set_option linter.unusedSimpArgs false
namespace Go.Proofs.YtmepmiokpcddbabGreatDoor
open Go.RowKit
open Go.Lib hiding intOf

/-- the transaction while it is read -/
structure Rz (w : World) (gr gm B : Nat) (D : Option Addr) (c : Nat) (d : List Opr) (wr : World) : Prop where
  box : Box wr gm 24 #[.slice D d.length c]
  res : Box wr gr 24 #[.slice none 0 0]
  oo : OO wr B D c d
  wB : w.heap.size ≤ B
  BB : B ≤ wr.heap.size
  ne : gm ≠ gr
  lowm : w.heap.size ≤ gm
  lowr : w.heap.size ≤ gr
  bel : Below w.heap.size w wr
section
variable {w wr w' : World} {gr gm B : Nat} {D : Option Addr} {c : Nat} {d : List Opr}
theorem Rz.below (h : Rz w gr gm B D c d wr) (hb : Below wr.heap.size wr w') : Rz w gr gm B D c d w' :=
  ⟨h.box.below hb, h.res.below hb, h.oo.below hb, h.wB, Nat.le_trans h.BB hb.size, h.ne, h.lowm, h.lowr, h.bel.trans (hb.mono h.bel.size)⟩
set_option maxRecDepth 100000 in
theorem Rz.add (h : Rz w gr gm B D c d wr) (o : Opr) (hl : d.length ≤ 5000000000) :
    ∃ D' c' a1, (Builtin.append_ #[22, 22] 22 #[.slice D d.length c, .slice (some ⟨wr.heap.size, 0, none⟩) 1 1]).run Tryz.prog (wr.alloc (.cells #[.int .i64 o.kind, .string o.key, .string o.src, .int .i64 o.n] 93)) = .ok (.slice D' (d ++ [o]).length c') a1 ∧
      Box a1 gm 24 #[.slice D d.length c] ∧ Rz w gr gm B D' c' (d ++ [o]) (a1.setCell ⟨gm, 0, none⟩ (.slice D' (d ++ [o]).length c')) := by
  obtain ⟨D', c', a1, hrun, ho1, hgr1, hbl1, _⟩ := app_op wr B 22 D c d h.oo o hl h.BB
  have hal1 := (Below.refl wr.heap.size wr).alloc (Nat.le_refl _) (.cells #[.int .i64 o.kind, .string o.key, .string o.src, .int .i64 o.n] 93)
  have h1 := h.below hal1
  have hcty : ∀ b, blk D = some b → Ty (wr.alloc (.cells #[.int .i64 o.kind, .string o.key, .string o.src, .int .i64 o.n] 93)) b 93 := fun b hb => own_ty h1.oo (by rw [ownBlock_slice]; exact hb)
  have hbx1 := h1.box.grown hgr1 fun e => absurd ((hcty _ e.symm).inj h1.box.ty) (by decide)
  have hrs1 := h1.res.grown hgr1 fun e => absurd ((hcty _ e.symm).inj h1.res.ty) (by decide)
  have hb1 := hbl1 w.heap.size w h.wB h.bel
  have hS : B ≤ a1.heap.size := Nat.le_trans h1.BB hgr1.size
  refine ⟨D', c', a1, hrun, hbx1, ?_⟩
  have hT := hbx1.set 0 (.slice D' (d ++ [o]).length c')
  refine ⟨?_, hrs1.other h.ne _, ho1.set1 hbx1.ty (by decide), h.wB, by simpa [World.setCell] using hS, h.ne, h.lowm, h.lowr, below_set1 hb1 h.lowm⟩
  simpa using hT
end
/-- what ReadDeed of the document's answer hands back, while the words are read: the rest, whether there is more -/
def RzI (w : World) (gr gm B N : Nat) (L : List UInt8) (s m : Value) (wr : World) : Prop :=
  ∃ (rest : ByteArray) (more : Bool) (D : Option Addr) (c : Nat) (d : List Opr) (W : List (List UInt8)), s = .string rest ∧ m = .bool more ∧ Rz w gr gm B D c d wr ∧ prOs [] (spl 59 L) = prOs d W ∧
    W = (if more then spl 59 rest.data.toList else []) ∧ d.length + rest.size ≤ N + (if more then 0 else 1)
/-- no sign before place k: the search goes on from there -/
theorem sgn_step {l : List UInt8} : ∀ (k : Nat) (h : k ≤ l.length), (∀ b ∈ l.take k, signs.contains b = false) →
    (sgn l = match sgn (l.drop k) with
      | none => none
      | some x => some (l.take k ++ x.1, x.2.1, x.2.2)) := by
  induction l with
  | nil => intro k h _; rw [show k = 0 by simpa using h]; rfl
  | cons b l ih =>
    intro k h hb
    cases k with
    | zero => rw [List.drop_zero]; cases sgn (b :: l) <;> rfl
    | succ k =>
      rw [sgn, if_neg (by rw [hb b (by simp)]; decide), List.drop_succ_cons, ih k (by simpa using h) (fun d hd => hb d (by rw [List.take_succ_cons]; exact List.mem_cons_of_mem _ hd))]
      cases sgn (l.drop k) <;> rfl
theorem sgn_end {l : List UInt8} (hb : ∀ b ∈ l, signs.contains b = false) : sgn l = none := by
  induction l with
  | nil => rfl
  | cons b l ih => rw [sgn, if_neg (by rw [hb b (by simp)]; decide), ih fun d hd => hb d (List.mem_cons_of_mem _ hd)]; rfl
theorem sgn_here {l : List UInt8} {k : Nat} (h : k < l.length) (hb : ∀ b ∈ l.take k, signs.contains b = false) (hc : signs.contains l[k] = true) : sgn l = some (l.take k, l[k], l.drop (k + 1)) := by
  have h1 := sgn_of (k := l.take k) (r := l.drop (k + 1)) hc hb
  rwa [← List.drop_eq_getElem_cons h, List.take_append_drop] at h1
end Go.Proofs.YtmepmiokpcddbabGreatDoor

set_option linter.unusedVariables false
set_option linter.unusedSimpArgs false
namespace Go.Proofs.YtmepmiokpcddbabGreatDoor
open Go.RowKit

/-- the cells of an operation that was handed over -/
structure OpAt (w : World) (b : Nat) (o : Opr) : Prop where
  lt : b < w.heap.size
  kind : w.cell? ⟨b, 0, none⟩ = some (.int .i64 o.kind)
  key : w.cell? ⟨b, 1, none⟩ = some (.string o.key)
  src : w.cell? ⟨b, 2, none⟩ = some (.string o.src)
  n : w.cell? ⟨b, 3, none⟩ = some (.int .i64 o.n)
theorem OpAt.below {w w' : World} {b : Nat} {o : Opr} (h : OpAt w b o) (hb : Below w.heap.size w w') : OpAt w' b o :=
  ⟨Nat.lt_of_lt_of_le h.lt hb.size, (hb.cell (p := ⟨b, 0, none⟩) h.lt).trans h.kind, (hb.cell (p := ⟨b, 1, none⟩) h.lt).trans h.key, (hb.cell (p := ⟨b, 2, none⟩) h.lt).trans h.src, (hb.cell (p := ⟨b, 3, none⟩) h.lt).trans h.n⟩
theorem OpAt.drew {w : World} {b : Nat} {o : Opr} (h : OpAt w b o) : OpAt w.drew b o := ⟨h.lt, h.kind, h.key, h.src, h.n⟩
theorem OpAt.new (w : World) (o : Opr) (t : TypeId) : OpAt (w.alloc (.cells #[.int .i64 o.kind, .string o.key, .string o.src, .int .i64 o.n] t)) w.heap.size o :=
  ⟨by simp, by simp, by simp, by simp, by simp⟩

theorem OpAt.grown {w w' : World} {b : Nat} {o : Opr} (h : OpAt w b o) {row : Option Nat} (hg : w.grownBy w' row) (hne : some b ≠ row) : OpAt w' b o :=
  ⟨Nat.lt_of_lt_of_le h.lt hg.size, hg.cell h.kind hne, hg.cell h.key hne, hg.cell h.src hne, hg.cell h.n hne⟩
end Go.Proofs.YtmepmiokpcddbabGreatDoor
