/-
  slices.Equal at operations, roref.SameDeed and roref.Bare.
-/
import Derived.Test.YtkdcdnefmcfpnaaGreatDoorTxRdDeedW
import Derived.Laws.StructEq
import Derived.Deep.QuietTactic
import Derived.BigQuiet
set_option linter.unusedVariables false
set_option linter.unusedSimpArgs false
namespace Go.Proofs.YtkdcdnefmcfpnaaGreatDoor
open Go.RowKit
open Go.Lib hiding intOf

noncomputable def sameB (a b : List Opr) : Bool := @decide (a = b) (Classical.propDecidable _)
theorem sameB_true {a b : List Opr} (h : a = b) : sameB a b = true := by unfold sameB; exact @decide_eq_true _ (Classical.propDecidable _) h
theorem sameB_false {a b : List Opr} (h : a ≠ b) : sameB a b = false := by unfold sameB; exact @decide_eq_false _ (Classical.propDecidable _) h
def opEq (p q : Opr) : Bool := p.kind == q.kind && (p.key.toList == q.key.toList && (p.src.toList == q.src.toList && p.n == q.n))
theorem opEq_iff {p q : Opr} : opEq p q = true ↔ p = q := by
  obtain ⟨a, b, c, d⟩ := p
  obtain ⟨a', b', c', d'⟩ := q
  simp only [opEq, Bool.and_eq_true, beq_iff_eq, Opr.mk.injEq]
  constructor
  · rintro ⟨h1, h2, h3, h4⟩
    rw [list_eq, list_eq] at h2 h3
    exact ⟨h1, ba_ext h2, ba_ext h3, h4⟩
  · rintro ⟨h1, h2, h3, h4⟩
    exact ⟨h1, by rw [h2], by rw [h3], h4⟩
theorem run_neq_ops (p q : Opr) (w : World) : (binOp .neq 101 (.agg #[.int .i64 p.kind, .string p.key, .string p.src, .int .i64 p.n]) (.agg #[.int .i64 q.kind, .string q.key, .string q.src, .int .i64 q.n])).run Tryz.prog w = .ok (.bool (!opEq p q)) w := by
  have u3 := Tryz.underlying3
  have u9 := Tryz.underlying9
  have a3 := Tryz.isAgg3
  have z3 := Tryz.sizeOf3
  have a9 := Tryz.isAgg9
  have z9 := Tryz.sizeOf9
  have hS : Tryz.prog.underlying 101 = some (.struct (Tryz.prog.fieldsOf 101)) := by kernel_rfl
  have hp : Tryz.prog.stoodInHeld 101 = false := by kernel_rfl
  rw [run_neq_struct, show (10000 : Nat) = 9999 + 1 from rfl, run_equalIn_agg w 9999 101 _ _ hS hp]
  simp only [Program.fieldsOf, Tryz.underlying101]
  unfold opEq
  generalize hx1 : (p.kind == q.kind) = x1
  generalize hx2 : (p.key.toList == q.key.toList) = x2
  generalize hx3 : (p.src.toList == q.src.toList) = x3
  generalize hx4 : (p.n == q.n) = x4
  cases x1 <;> cases x2 <;> cases x3 <;> cases x4 <;> go_simp <;> simp [hx1, hx2, hx3, hx4]
theorem guard_ops (x y : Operand) (xs ys : Array Value) (w : World) : (eqGuard .neq 101 x y (.agg xs) (.agg ys)).run Tryz.prog w = .ok () w := run_eqGuard_agg w .neq 101 x y xs ys (by kernel_rfl)
set_option maxHeartbeats 1000000 in
set_option maxRecDepth 100000 in
theorem equalO_any (A1 A2 : Option Addr) (c1 c2 : Nat) (l m : List Opr) (w : World) (h1 : OS w w.heap.size A1 l) (h2 : OS w w.heap.size A2 m) (hl : l.length < 4611686018427387904) :
    Calls Tryz.prog 63 #[.slice A1 l.length c1, .slice A2 m.length c2] w fun e w' => e = .returned (.bool (sameB l m)) ∧ Below w.heap.size w w' := by
  by_cases hlm : l.length = m.length
  · have d0 : ((l.length : Int) != (m.length : Int)) = false := by simp; omega
    have HLM := hideP hlm
    clear hlm
    go_enter Tryz.func63, Tryz.ntmps63
    go_wp2_with fail
    go_loopw [13] (fun i wr => ∃ k : Nat, k ≤ l.length ∧ i = .int .i64 k ∧ l.take k = m.take k ∧ Below w.heap.size w wr) (fun i _ => l.length - (intOf i).toNat)
    case atStart => exact ⟨0, Nat.zero_le _, rfl, rfl, Below.refl _ _⟩
    case round =>
      obtain ⟨k, hk, rfl, heq, hb⟩ := hrel
      have HEQ := hideP heq
      clear heq
      by_cases hlt : k < l.length
      · have hltm : k < m.length := by rw [← HLM.out]; exact hlt
        obtain ⟨b, o, rfl, hbl, q1, q2, q3, q4⟩ := h1.below hb k _ (List.getElem?_eq_getElem hlt)
        obtain ⟨b', o', rfl, hbl', q5, q6, q7, q8⟩ := h2.below hb k _ (List.getElem?_eq_getElem hltm)
        clear h1 h2
        have HS := hideP (fun (h : l[k] = m[k]) => show l.take (k + 1) = m.take (k + 1) by rw [List.take_succ_eq_append_getElem hlt, List.take_succ_eq_append_getElem hltm, HEQ.out, h])
        have HD := hideP (fun (h : l[k] ≠ m[k]) => show l ≠ m from fun e => h (by subst e; rfl))
        generalize l[k] = p at q1 q2 q3 q4 HS HD
        generalize m[k] = r at q5 q6 q7 q8 HS HD
        have g1 : (0 : Int) ≤ (k : Int) := by omega
        have g2 : (k : Int) < (l.length : Int) := by omega
        have g3 : (k : Int) < (m.length : Int) := by omega
        have n1 := run_neq_ops p r
        have n2 := guard_ops
        cases he : opEq p r
        · have HN := hideP (HD.out fun e => by rw [opEq_iff.2 e] at he; cases he)
          rw [he] at n1
          clear he
          go_wp2_with fail
          go_quiet (fail)
          go_wp2_with fail
          go_ret
          exact ⟨by rw [sameB_false HN.out]; rfl, ⟨hb.os, hb.tape, hb.output, hb.size, hb.block⟩⟩
        · have HN := hideP (HS.out (opEq_iff.1 he))
          rw [he] at n1
          clear he
          go_wp2_with fail
          go_quiet (fail)
          go_wp2_with fail
          go_roundw
          case rel => exact ⟨k + 1, by omega, by go_num, HN.out, ⟨hb.os, hb.tape, hb.output, hb.size, hb.block⟩⟩
          case measure => simp [intOf]; omega
      · have HE := hideP (show l = m by
          have := HEQ.out
          rwa [List.take_of_length_le (by omega), List.take_of_length_le (by have := HLM.out; omega)] at this)
        go_wp2_with fail
        go_ret
        exact ⟨by rw [sameB_true HE.out]; rfl, hb⟩
  · have d0 : ((l.length : Int) != (m.length : Int)) = true := by simp; omega
    have HE := hideP (show l ≠ m from fun e => hlm (by rw [e]))
    clear hlm
    go_enter Tryz.func63, Tryz.ntmps63
    go_wp2_with fail
    go_ret
    exact ⟨by rw [sameB_false HE.out]; rfl, Below.refl _ _⟩
set_option maxHeartbeats 1000000 in
set_option maxRecDepth 100000 in
theorem samedeed_any (D1 D2 : Option Addr) (k1 k2 : Nat) (a b : List Opr) (w : World) (ha : OS w w.heap.size D1 a) (hb : OS w w.heap.size D2 b) (hl : a.length < 4611686018427387904) :
    Calls Tryz.prog 19 #[.agg #[.slice D1 a.length k1], .agg #[.slice D2 b.length k2]] w fun e w' => e = .returned (.bool (sameB a b)) ∧ Below w.heap.size w w' := by
  have h0 := ((Below.refl w.heap.size w).alloc (Nat.le_refl _) (.cells #[.slice D1 a.length k1] 24)).alloc (by simp) (.cells #[.slice D2 b.length k2] 24)
  have HQ := hideP (equalO_any D1 D2 k1 k2 a b _ (ha.go h0) (hb.go h0) hl)
  go_enter Tryz.func19, Tryz.ntmps19
  go_wp2_with fail
  refine HQ.out.mono ?_
  clear HQ
  generalize (w.alloc (.cells #[.slice D1 a.length k1] 24)).alloc (.cells #[.slice D2 b.length k2] 24) = w1 at h0 ⊢
  rintro e w2 ⟨rfl, hb2⟩
  have hb3 := h0.trans (hb2.mono h0.size)
  generalize hq : sameB a b = q at ⊢
  have HQ := hideP hq
  clear hq
  go_wp2_with fail
  go_ret
  exact ⟨by rw [HQ.out]; rfl, hb3⟩
/-- what Bare hands back -/
def RetBa (w : World) (d : List Opr) (e : Ending) (w' : World) : Prop :=
  ∃ (D : Option Addr) (c : Nat), e = .returned (.agg #[.slice D (d.map bare).length c]) ∧ OO w' w.heap.size D c (d.map bare) ∧ Below w.heap.size w w'
/-- the operations while they are gathered -/
structure Bb (w : World) (gr gm B : Nat) (D : Option Addr) (c : Nat) (d : List Opr) (wr : World) : Prop where
  box : Box wr gm 24 #[.slice D d.length c]
  res : Box wr gr 24 #[.slice none 0 0]
  oo : OO wr B D c d
  wB : w.heap.size ≤ B
  BB : B ≤ wr.heap.size
  ne : gm ≠ gr
  lowm : w.heap.size ≤ gm
  lowr : w.heap.size ≤ gr
  bel : Below w.heap.size w wr
section
variable {w wr w' : World} {gr gm B : Nat} {D : Option Addr} {c : Nat} {d : List Opr}
theorem Bb.below (h : Bb w gr gm B D c d wr) (hb : Below wr.heap.size wr w') : Bb w gr gm B D c d w' :=
  ⟨h.box.below hb, h.res.below hb, h.oo.below hb, h.wB, Nat.le_trans h.BB hb.size, h.ne, h.lowm, h.lowr, h.bel.trans (hb.mono h.bel.size)⟩
set_option maxRecDepth 100000 in
theorem Bb.add (h : Bb w gr gm B D c d wr) (o : Opr) (hl : d.length ≤ 5000000000) :
    ∃ D' c' a1, (Builtin.append_ #[22, 22] 22 #[.slice D d.length c, .slice (some ⟨wr.heap.size, 0, none⟩) 1 1]).run Tryz.prog (wr.alloc (.cells #[.int .i64 o.kind, .string o.key, .string o.src, .int .i64 o.n] 101)) = .ok (.slice D' (d.length + 1) c') a1 ∧
      Box a1 gm 24 #[.slice D d.length c] ∧ Bb w gr gm B D' c' (d ++ [o]) (a1.setCell ⟨gm, 0, none⟩ (.slice D' (d.length + 1) c')) := by
  obtain ⟨D', c', a1, hrun, ho1, hgr1, hbl1, _⟩ := app_op wr B 22 D c d h.oo o hl h.BB
  have hal1 := (Below.refl wr.heap.size wr).alloc (Nat.le_refl _) (.cells #[.int .i64 o.kind, .string o.key, .string o.src, .int .i64 o.n] 101)
  have h1 := h.below hal1
  have hln : (d ++ [o]).length = d.length + 1 := by simp
  have hcty : ∀ b, blk D = some b → Ty (wr.alloc (.cells #[.int .i64 o.kind, .string o.key, .string o.src, .int .i64 o.n] 101)) b 101 := fun b hb => own_ty h1.oo (by rw [ownBlock_slice]; exact hb)
  have hbx1 := h1.box.grown hgr1 fun e => absurd ((hcty _ e.symm).inj h1.box.ty) (by decide)
  have hrs1 := h1.res.grown hgr1 fun e => absurd ((hcty _ e.symm).inj h1.res.ty) (by decide)
  have hb1 := hbl1 w.heap.size w h.wB h.bel
  have hS : B ≤ a1.heap.size := Nat.le_trans h1.BB hgr1.size
  rw [hln] at hrun
  refine ⟨D', c', a1, hrun, hbx1, ?_⟩
  have hT := hbx1.set 0 (.slice D' (d.length + 1) c')
  refine ⟨?_, hrs1.other h.ne _, ho1.set1 hbx1.ty (by decide), h.wB, by simpa [World.setCell] using hS, h.ne, h.lowm, h.lowr, below_set1 hb1 h.lowm⟩
  rw [hln]; simpa using hT
end
/-- while they are gathered -/
def BaI (w : World) (gr gm B : Nat) (d : List Opr) (i : Value) (wr : World) : Prop :=
  ∃ (k : Nat) (D : Option Addr) (c : Nat), k ≤ d.length ∧ i = .int .i64 k ∧ Bb w gr gm B D c ((d.take k).map bare) wr
theorem bare_step {d : List Opr} {k : Nat} (h : k < d.length) : (d.take (k + 1)).map bare = (d.take k).map bare ++ [bare d[k]] := by
  rw [List.take_succ_eq_append_getElem h, List.map_append]; rfl
theorem bare_len {d : List Opr} {k : Nat} (h : k ≤ d.length) : ((d.take k).map bare).length = k := by simp; omega
set_option maxHeartbeats 2000000 in
set_option maxRecDepth 100000 in
theorem bare_any (A : Option Addr) (ca : Nat) (d : List Opr) (w : World) (hD : OS w w.heap.size A d) (hl : d.length ≤ 1000) :
    Calls Tryz.prog 31 #[.agg #[.slice A d.length ca]] w (RetBa w d) := by
  have b1 := (((Below.refl w.heap.size w).alloc (Nat.le_refl _) (.cells #[.slice A d.length ca] 24)).alloc (by simp) (.cells #[.slice none 0 0] 24)).alloc (by simp; omega) (.cells #[.slice none 0 0] 24)
  have x0 := ((Box.new w 24 #[.slice A d.length ca]).alloc (.cells #[.slice none 0 0] 24)).alloc (.cells #[.slice none 0 0] 24)
  have x1 := (Box.new (w.alloc (.cells #[.slice A d.length ca] 24)) 24 #[.slice none 0 0]).alloc (.cells #[.slice none 0 0] 24)
  have x2 := Box.new ((w.alloc (.cells #[.slice A d.length ca] 24)).alloc (.cells #[.slice none 0 0] 24)) 24 #[.slice none 0 0]
  simp only [World.size_alloc] at x1 x2
  have hsz : (((w.alloc (.cells #[.slice A d.length ca] 24)).alloc (.cells #[.slice none 0 0] 24)).alloc (.cells #[.slice none 0 0] 24)).heap.size = w.heap.size + 1 + 1 + 1 := by simp
  have c0 := x0.cell 0 rfl
  go_enter Tryz.func31, Tryz.ntmps31
  go_wp2_with fail
  generalize ((w.alloc (.cells #[.slice A d.length ca] 24)).alloc (.cells #[.slice none 0 0] 24)).alloc (.cells #[.slice none 0 0] 24) = w1 at b1 x0 x1 x2 hsz c0 ⊢
  have HI := hideP (show BaI w (w.heap.size + 1) (w.heap.size + 1 + 1) w1.heap.size d (.int .i64 0) w1 from
    ⟨0, none, 0, Nat.zero_le _, rfl, x2, x1, OO.nil _ _, by omega, Nat.le_refl _, by omega, by omega, by omega, b1⟩)
  generalize w1.heap.size = B at HI
  generalize w.heap.size + 1 + 1 = gm at HI ⊢
  generalize w.heap.size + 1 = gr at HI ⊢
  clear x0 x1 x2 b1 hsz c0
  go_loopw [9] (BaI w gr gm B d) (fun i _ => d.length - (intOf i).toNat)
  case atStart => exact HI.out
  case round =>
    obtain ⟨k, D, c, hk, rfl, hM⟩ := hrel
    have hbl := bare_len hk
    by_cases hkl : k < d.length
    · obtain ⟨b, o, rfl, hbl1, q1, q2, q3, q4⟩ := (hD.below hM.bel) k _ (List.getElem?_eq_getElem hkl)
      have HST := hideP (bare_step hkl)
      generalize d[k] = p at q1 q2 q3 q4 HST
      have g1 : (k : Int) < (d.length : Int) := by omega
      have g2 : (0 : Int) ≤ (k : Int) := by omega
      obtain ⟨kd, key, src, n⟩ := p
      simp only at q1 q2 q3 q4
      by_cases h3 : kd = 3
      · subst h3
        have hal := (Below.refl wr.heap.size wr).alloc (Nat.le_refl _) (.cells #[.int .i64 3, .string key, .string src, .int .i64 0] 101)
        have xo := Box.new wr 101 #[.int .i64 3, .string key, .string src, .int .i64 0]
        have hM6 := hM.below hal
        obtain ⟨D', c', a1, hrun, hbx, hM2⟩ := hM6.add ⟨3, key, src, 0⟩ (by omega)
        simp only [World.size_alloc] at hrun
        have m0 := hM6.box.cell 0 rfl
        have m1 := hbx.cell 0 rfl
        have m2 := hbx.frozen 0
        have HFI := hideP (show Bb w gr gm B D' c' ((d.take (k + 1)).map bare) _ by rw [HST.out]; exact hM2)
        rw [hbl] at hrun m0 m1 HFI
        have HRN := hideP hrun
        clear hrun hbx hM6 hM2 xo hal hM hbl
        go_wp2_with (at_builtin; first | refine Lib.wpList_append_run _ rfl _ _ _ _ rfl _ _ rfl rfl _ _ HRN.out ?_)
        go_roundw
        case rel => exact ⟨k + 1, D', c', by omega, by go_num, HFI.out⟩
        case measure => simp [intOf]; omega
      · have d3 : (kd == 3) = false := by simpa using h3
        by_cases h5 : kd = 5
        · subst h5
          have hal := (Below.refl wr.heap.size wr).alloc (Nat.le_refl _) (.cells #[.int .i64 5, .string key, .string src, .int .i64 n] 101)
          have xo := Box.new wr 101 #[.int .i64 5, .string key, .string src, .int .i64 n]
          have hM6 := hM.below hal
          obtain ⟨D', c', a1, hrun, hbx, hM2⟩ := hM6.add ⟨5, key, src, n⟩ (by omega)
          simp only [World.size_alloc] at hrun
          have m0 := hM6.box.cell 0 rfl
          have m1 := hbx.cell 0 rfl
          have m2 := hbx.frozen 0
          have HFI := hideP (show Bb w gr gm B D' c' ((d.take (k + 1)).map bare) _ by rw [HST.out]; exact hM2)
          rw [hbl] at hrun m0 m1 HFI
          have HRN := hideP hrun
          clear hrun hbx hM6 hM2 xo hal hM hbl
          go_wp2_with (at_builtin; first | refine Lib.wpList_append_run _ rfl _ _ _ _ rfl _ _ rfl rfl _ _ HRN.out ?_)
          go_roundw
          case rel => exact ⟨k + 1, D', c', by omega, by go_num, HFI.out⟩
          case measure => simp [intOf]; omega
        · have d5 : (kd == 5) = false := by simpa using h5
          have HB := hideP (show bare ⟨kd, key, src, n⟩ = ⟨kd, key, ⟨#[]⟩, n⟩ by unfold bare; rw [if_neg h3, if_neg h5]; rfl)
          rw [HB.out] at HST
          clear h3 h5
          have hal := (Below.refl wr.heap.size wr).alloc (Nat.le_refl _) (.cells #[.int .i64 kd, .string key, .string ⟨#[]⟩, .int .i64 n] 101)
          have xo := Box.new wr 101 #[.int .i64 kd, .string key, .string ⟨#[]⟩, .int .i64 n]
          have hM6 := hM.below hal
          obtain ⟨D', c', a1, hrun, hbx, hM2⟩ := hM6.add ⟨kd, key, ⟨#[]⟩, n⟩ (by omega)
          simp only [World.size_alloc] at hrun
          have m0 := hM6.box.cell 0 rfl
          have m1 := hbx.cell 0 rfl
          have m2 := hbx.frozen 0
          have HFI := hideP (show Bb w gr gm B D' c' ((d.take (k + 1)).map bare) _ by rw [HST.out]; exact hM2)
          rw [hbl] at hrun m0 m1 HFI
          have HRN := hideP hrun
          clear hrun hbx hM6 hM2 xo hal hM hbl
          go_wp2_with (at_builtin; first | refine Lib.wpList_append_run _ rfl _ _ _ _ rfl _ _ rfl rfl _ _ HRN.out ?_)
          go_roundw
          case rel => exact ⟨k + 1, D', c', by omega, by go_num, HFI.out⟩
          case measure => simp [intOf]; omega
    · have hke : k = d.length := by omega
      subst hke
      rw [List.take_of_length_le (Nat.le_refl _)] at hM hbl
      have m0 := hM.box.cell 0 rfl
      have t0 := hM.res.cell 0 rfl
      have t1 := hM.res.frozen 0
      have R := hM.res.set 0 (.slice D (d.map bare).length c)
      have q0 := R.cell 0 rfl
      have HF := hideP (And.intro ((hM.oo.mono hM.wB).set1 (g := gr) (i := 0) (v := .slice D (d.map bare).length c) hM.res.ty (by decide)) (below_set1 (i := 0) (v := .slice D (d.map bare).length c) hM.bel hM.lowr))
      clear R hM hbl
      generalize hmb : d.map bare = db at m0 q0 HF ⊢
      have HMB := hideP hmb
      clear hmb
      go_wp2_with fail
      exact bodyPost_ret (v := .agg #[.slice D db.length c]) (by simp [results, Tryz.results31, go_sem, q0]) rfl ⟨D, c, by rw [HMB.out], by rw [HMB.out]; exact HF.out.1, HF.out.2⟩
end Go.Proofs.YtkdcdnefmcfpnaaGreatDoor
