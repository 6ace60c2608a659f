/-
  The document's Add.
-/
import Derived.Test.YtefdipjhjgmokaaGreatDoorBx34
import Derived.Test.YtefdipjhjgmokaaGreatDoorBx35
import Derived.Test.YtefdipjhjgmokaaGreatDoorBx36
set_option linter.unusedVariables false
set_option linter.unusedSimpArgs false
namespace Go.Proofs.YtefdipjhjgmokaaGreatDoor
open Go.RowKit

def RcI (w1 : World) (ct : List (List (List Ent))) (n : Nat) (v i : Value) (wr : World) : Prop := ∃ k : Nat, k ≤ n ∧ i = .int .i64 k ∧ v = .int .i64 (totK ct k : Nat) ∧ Below w1.heap.size w1 wr
set_option maxHeartbeats 16000000 in
set_option maxRecDepth 100000 in
theorem radd_any (s : Rs) (w0 : World) (B : Nat) (i : Int) (x : Em) (w : World) (h : s.Ok w0 w B) (hx : ES w0 x) :
    Calls Tryz.prog 52 #[.pointer (some ⟨s.g, 0, none⟩), .int .i64 i, emV x] w fun e w' => ∃ s', e = .returned (.int .i64 (addQ s.ct i (entOf x))) ∧ s.To w0 w B s' w' (addC s.ct i (entOf x)) := by
  have hlen : s.ct.length = s.ins.length := by simp [Rs.ct, ctM]
  have HX0 := hideP hx
  have hxw := hx.below h.be
  obtain ⟨D, c, d, isM, ⟨A, ca, cs, O, co, os⟩⟩ := x
  have HBE := hideP (fun (W : World) => show Calls Tryz.prog 34 #[.agg #[.slice D d.length c, .bool isM, .slice A cs.length ca, .slice O os.length co]] W fun e w' => e = .returned (emV (beM ⟨D, c, d, isM, ⟨A, ca, cs, O, co, os⟩⟩)) ∧ Below W.heap.size W w' from bareent_any ⟨D, c, d, isM, ⟨A, ca, cs, O, co, os⟩⟩ W)
  have b0 := (Below.refl w.heap.size w).alloc (Nat.le_refl _) (.cells #[.slice D d.length c, .bool isM, .slice A cs.length ca, .slice O os.length co] 42)
  have x0 := Box.new w 42 #[.slice D d.length c, .bool isM, .slice A cs.length ca, .slice O os.length co]
  have hx1 := hxw.below b0
  have h1 := h.below b0
  have HH := hideP (ris_any s w0 B i _ h1)
  have e0 := x0.cell 0 (v := .slice D d.length c) rfl
  have e1 := x0.cell 1 (v := .bool isM) rfl
  have e2 := x0.cell 2 (v := .slice A cs.length ca) rfl
  have e3 := x0.cell 3 (v := .slice O os.length co) rfl
  by_cases hin : 0 ≤ i ∧ i < (s.ct.length : Int)
  · rw [decide_eq_true hin] at HH
    have HK := hideP (rentry_any _ _ hx1)
    unfold emV emC at HK ⊢
    simp only at HK ⊢
    by_cases hck : chkE (entOf ⟨D, c, d, isM, ⟨A, ca, cs, O, co, os⟩⟩) = 0
    · rw [hck] at HK
      obtain ⟨n, rfl⟩ : ∃ n : Nat, i = n := ⟨i.toNat, by omega⟩
      have hn : n < s.ins.length := by omega
      have hT60 : totM s.ct ≤ 60 := by have := h.gm.most; unfold Rs.ct; exact this
      have hfew := h.gm.few
      -- the count
      have HW := hideP (fun (W : World) (hb : Below (w.alloc (.cells #[.slice D d.length c, .bool isM, .slice A cs.length ca, .slice O os.length co] 42)).heap.size (w.alloc (.cells #[.slice D d.length c, .bool isM, .slice A cs.length ca, .slice O os.length co] 42)) W) => show s.Ok w0 W B ∧ Box W w.heap.size 42 #[.slice D d.length c, .bool isM, .slice A cs.length ca, .slice O os.length co] ∧ Below w.heap.size w W from ⟨h1.below hb, x0.below hb, b0.trans (hb.mono b0.size)⟩)
      have HROW := hideP (fun (W : World) (hW : s.Ok w0 W B) (j : Nat) (hj : j < s.ins.length) => show ∃ (gi gx nn cc : Nat) (bb : List (List Ent)), s.AI = some ⟨gi, 0, none⟩ ∧ W.cell? ⟨s.g, 0, none⟩ = some (.slice (some ⟨gi, 0, none⟩) s.ins.length s.cI) ∧ W.cell? ⟨gi, j, none⟩ = some (.slice (some ⟨gx, 0, none⟩) nn cc) ∧ s.ct[j]? = some bb ∧ totB bb ≤ 60 ∧
          Calls Tryz.prog 111 #[.slice (some ⟨gx, 0, none⟩) nn cc] W fun e w' => ∃ Ac ccc, e = .returned (.slice Ac (totB bb) ccc) ∧ Below W.heap.size W w' from by
        obtain ⟨xi, hxi⟩ : ∃ x, s.ins[j]? = some x := ⟨_, List.getElem?_eq_getElem hj⟩
        obtain ⟨gi, e, hc⟩ := hW.rg.cell_ hxi
        obtain ⟨gx, hA, _, hlt⟩ := hW.rg.at_ hxi
        have hc0 := hW.rg.box.cell 0 (v := .slice s.AI s.ins.length s.cI) rfl
        have hcx : s.ct[j]? = some (ctI xi) := by simp [Rs.ct, ctM, hxi]
        have hle := totB_le hcx
        have hxb := hW.gm.bs j xi hxi
        refine ⟨gi, gx, xi.bs.length, xi.c, ctI xi, e, by rw [e] at hc0; exact hc0, by rw [hA] at hc; exact hc, hcx, by omega, ?_⟩
        have hcat := econcat_any gx 0 xi.c (elOf xi) W ⟨hlt, fun q b hq => by
          unfold elOf at hq
          rw [List.getElem?_map] at hq
          cases hb : xi.bs[q]? with
          | none => rw [hb] at hq; cases hq
          | some b' =>
            rw [hb] at hq
            injection hq with hq
            subst hq
            obtain ⟨gx', hA', hcb⟩ := hW.rg.bcell hxi hb
            rw [hA] at hA'
            injection hA' with e1
            injection e1 with e1
            subst e1
            rw [Nat.zero_add]; exact hcb, fun b hb => by
          unfold elOf at hb
          obtain ⟨b', hb', rfl⟩ := List.mem_map.1 hb
          obtain ⟨q, hq⟩ := List.mem_iff_getElem?.1 hb'
          exact (hW.rg.bat j xi q b' hxi hq).el hW.be⟩ (by rw [elOf_len]; omega) (by simp [elOf]; omega)
        have el : (elOf xi).length = xi.bs.length := by simp [elOf]
        rw [el] at hcat
        refine hcat.mono ?_
        rintro e w' ⟨v, rfl, hr, hb⟩
        obtain ⟨Ac, ccc, rfl⟩ := erow_parts hr
        rw [elOf_len]
        exact ⟨Ac, ccc, rfl, hb⟩)
      have HKN := hideP (fun (k : Nat) (bb : List (List Ent)) (hb : s.ct[k]? = some bb) => totK_next hb)
      have HKL := hideP (fun k => totK_le s.ct k)
      have HKA := hideP (show totK s.ct s.ins.length = totM s.ct by rw [← hlen]; exact totK_all _)
      have HFIN := hideP (And.intro h hx1)
      have g1 : (0 : Int) ≤ (n : Int) := by omega
      have g2 : (n : Int) < (s.ins.length : Int) := by omega
      obtain ⟨gi0, gx0, nn0, cc0, bb0, hAI, hc00, hzz⟩ := HROW.out _ h1 n hn
      clear hzz
      have hlq := hlen
      clear h h1 hx hx1 hxw x0 hlen
      go_enter Tryz.func52, Tryz.ntmps52
      go_wp2_with fail
      generalize hw1 : w.alloc _ = w1 at HH HK HW e0 e1 e2 e3 hc00 b0 HFIN ⊢
      refine HH.out.mono ?_
      rintro e w' ⟨rfl, rfl⟩
      go_wp2_with fail
      refine HK.out.mono ?_
      rintro e w2 ⟨rfl, hb2⟩
      clear HH HK e0 e1 e2 e3 hc00
      obtain ⟨hO2, hX2, hB2⟩ := HW.out w2 hb2
      have c0 : w2.cell? ⟨s.g, 0, none⟩ = some (.slice (some ⟨gi0, 0, none⟩) s.ins.length s.cI) := by rw [← hAI]; exact hO2.rg.box.cell 0 rfl
      go_wp2_with fail
      go_loopw [8, 26] (RcI w2 s.ct s.ins.length) (fun _ i _ => s.ins.length - (intOf i).toNat)
      case atStart => exact ⟨0, Nat.zero_le _, rfl, rfl, Below.refl _ _⟩
      case round =>
        obtain ⟨k, hk, rfl, rfl, hbr⟩ := hrel
        have hbw := hb2.trans (hbr.mono hb2.size)
        obtain ⟨hOr, hXr, hBr⟩ := HW.out wr hbw
        clear c0
        by_cases hlt : k < s.ins.length
        · obtain ⟨gi, gx, nn, cc, bb, hAI2, q0, q1, hbb, htb, hcat⟩ := HROW.out wr hOr k hlt
          have HCAT := hideP hcat
          have hnx := HKN.out k bb hbb
          have hkl := HKL.out k
          have g3 : (0 : Int) ≤ (k : Int) := by omega
          have g4 : (k : Int) < (s.ins.length : Int) := by omega
          rw [hAI] at hAI2
          injection hAI2 with hAI2
          injection hAI2 with hAI2
          subst hAI2
          have HNX := hideP hnx
          have pw : IntKind.i64.wrap ((totK s.ct k : Int) + (totB bb : Int)) = ((totK s.ct k + totB bb : Nat) : Int) := by simp only [IntKind.wrap_i64]; omega
          clear hcat hnx hbb hOr hXr hBr hbw
          generalize totK s.ct k = t at HNX hkl pw ⊢
          generalize totB bb = tb at HCAT HNX htb pw
          go_wp2_with fail
          refine HCAT.out.mono ?_
          rintro e w3 ⟨Ac, ccc, rfl, hb3⟩
          have hbr3 := hbr.trans (hb3.mono hbr.size)
          clear HCAT hb3 q0 q1
          go_wp2_with fail
          go_roundw
          case rel => exact ⟨k + 1, by omega, by go_num, by rw [HNX.out]; congr 1, hbr3⟩
          case measure => simp [intOf]; omega
        · obtain rfl : k = s.ins.length := by omega
          rw [HKA.out]
          obtain ⟨h, hx1⟩ := HFIN.out
          by_cases hfull : 60 ≤ totM s.ct
          · obtain ⟨q1, q2⟩ := addQ_full (ct := s.ct) (i := (n : Int)) hin hck hfull
            have HT := hideP (show s.To w0 w B s wr (addC s.ct (n : Int) _) from by rw [q2]; exact Rs.To.same h hBr)
            have HQ1 := hideP q1
            have d1 : (59 : Int) < ((totM s.ct : Nat) : Int) := by omega
            clear h hx1 hOr hXr hBr hbw q1 q2 hbr
            go_wp2_with fail
            go_ret
            exact ⟨s, by rw [HQ1.out]; rfl, HT.out⟩
          · obtain ⟨q1, q2⟩ := addQ_ok (ct := s.ct) (i := n) (by omega) hck (by omega)
            have HQ1 := hideP q1
            have HQ2 := hideP q2
            have d1 : ¬ (59 : Int) < ((totM s.ct : Nat) : Int) := by omega
            obtain ⟨xi, hxi⟩ : ∃ x, s.ins[n]? = some x := ⟨_, List.getElem?_eq_getElem hn⟩
            obtain ⟨k, hk2⟩ := hOr.rg.pos hxi
            obtain ⟨b, hbk⟩ : ∃ b, xi.bs[k]? = some b := ⟨_, List.getElem?_eq_getElem (by omega)⟩
            have hxb := hOr.gm.bs n xi hxi
            have hes := hOr.gm.es hxi hbk
            obtain ⟨gi, hAIi, hzz1⟩ := hOr.rg.cell_ hxi
            obtain ⟨gx, hXA, hzz2⟩ := hOr.rg.bcell hxi hbk
            clear hzz1 hzz2
            have hER := hOr.rg.bat n xi k b hxi hbk
            have HSA := hideP (fun (W : World) (hb : Below wr.heap.size wr W) => show SA s.g gi gx w.heap.size n k (.slice (some ⟨gi, 0, none⟩) s.ins.length s.cI) (.slice (some ⟨gx, 0, none⟩) xi.bs.length xi.c) (.slice b.A b.es.length b.c) (.slice D d.length c) (.bool isM) (.slice A cs.length ca) (.slice O os.length co) W from by
              have hW := hOr.below hb
              have hXW := hXr.below hb
              obtain ⟨_, e, p0⟩ := hW.rg.cell_ hxi
              rw [hAIi] at e; injection e with e; injection e with e; subst e
              obtain ⟨_, e, p1⟩ := hW.rg.bcell hxi hbk
              rw [hXA] at e; injection e with e; injection e with e; subst e
              have hc0 := hW.rg.box.cell 0 (v := .slice s.AI s.ins.length s.cI) rfl
              rw [hAIi] at hc0
              rw [hXA] at p0
              exact ⟨hc0, p0, p1, hXW.cell 0 rfl, hXW.cell 1 rfl, hXW.cell 2 rfl, hXW.cell 3 rfl⟩)
            have hbd : Below wr.heap.size wr wr.drew := (Below.refl _ _).drew
            have HCLN := hideP (eclone_any b.A b.c b.es wr.drew ((hER.el hOr.be).below hbd) hER.caps.2.2 (by omega))
            have HB4 := hideP (fun (w4 : World) (hb4 : Below wr.drew.heap.size wr.drew w4) => show Below wr.heap.size wr w4 from hbd.trans (hb4.mono hbd.size))
            have HB5 := hideP (fun (w4 : World) (hb4 : Below wr.drew.heap.size wr.drew w4) (w5 : World) (hb5 : Below w4.heap.size w4 w5) => show Below wr.heap.size wr w5 from (HB4.out w4 hb4).trans (hb5.mono (HB4.out w4 hb4).size))
            have HEND := hideP (fun (w4 : World) (hb4 : Below wr.drew.heap.size wr.drew w4) (A1 : Option Addr) (c1 : Nat) (hrow : w4.ownsRow wr.drew.heap.size 42 4 (.slice A1 b.es.length c1) b.es.length (emCells b.es)) (w5 : World) (hb5 : Below w4.heap.size w4 w5) =>
              show ∃ A' c' w7 m1, (Builtin.append_ #[26, 26] 26 #[.slice A1 b.es.length c1, .slice (some ⟨w5.heap.size, 0, none⟩) 1 1]).run Tryz.prog (w5.alloc (.cells (emC (beM ⟨D, c, d, isM, ⟨A, ca, cs, O, co, os⟩⟩)) 42)) = .ok (.slice A' m1 c') w7 ∧ Below wr.heap.size wr w7 ∧
                w7.cell? ⟨gx, k, none⟩ = some (.slice b.A b.es.length b.c) ∧ w7.frozen? ⟨gx, k, none⟩ = false ∧ ∃ s', s.To w0 w B s' (w7.setCell ⟨gx, k, none⟩ (.slice A' m1 c')) (addM s.ct n (dropE (entOf ⟨D, c, d, isM, ⟨A, ca, cs, O, co, os⟩⟩))) from by
              obtain ⟨A', c', w7, m1, gx', e, r1, r2, r3, r4, s', r5⟩ := radd_end hOr HX0.out hxi hbk (by omega) (by omega) (HB5.out w4 hb4 w5 hb5) (own_below hrow hb5)
              rw [hXA] at e; injection e with e; injection e with e; subst e
              exact ⟨A', c', w7, m1, r1, r2, r3, r4, s', r5.pre hBr⟩)
            obtain ⟨z0, z1, z2, _⟩ := HSA.out wr (Below.refl _ _)
            have pw : IntKind.i64.wrap ((xi.bs.length : Int) - 1) = (k : Int) := by simp only [IntKind.wrap_i64]; omega
            have g3 : (0 : Int) ≤ (k : Int) := by omega
            have g4 : (k : Int) < (xi.bs.length : Int) := by omega
            rw [hAIi] at hAI
            injection hAI with hAI
            injection hAI with hAI
            subst hAI
            clear h hx1 hOr hXr hBr hbw q1 q2 hbr hxi hbk hER hes hXA hbd hk2 hO2 hX2 hB2 HROW HKN HKL HFIN HW HX0 hb2 hAIi
            generalize b.A = bA at HSA HCLN HEND z2
            generalize xi.c = xc at HSA z1
            generalize xi.bs.length = xn at HSA z1 pw g4 hxb
            go_wp2_with fail
            refine wp_region_any (by kernel_rfl) ?_
            change wpAny _ _ _ _ _ _ _ (World.drew _)
            have s0 := HSA.out wr.drew (Below.refl _ _).drew
            refine any_of_G (S := SA s.g gi gx w.heap.size n k (.slice (some ⟨gi, 0, none⟩) s.ins.length s.cI) (.slice (some ⟨gx, 0, none⟩) xn xc) (.slice bA b.es.length b.c) (.slice D d.length c) (.bool isM) (.slice A cs.length ca) (.slice O os.length co)) (p := 24) _ _ _ _ ?_
            refine anyG_move (i := 0) (oi := { dst := some 47, op := Op.move (Operand.tmp 0), type := 100, pos := _, after := #[], guard := none }) (v := ?v0) rfl (by decide) (by kernel_rfl) (by kernel_rfl) (by kernel_rfl) (fun _ _ _ h => h) (fun _ => s0) (Or.inl ⟨by rfl, ?hy0⟩) ?rest0
            case hy0 => (intro w; go_simp; try with_reducible rfl)
            simp only [Act.put, List.setIfInBounds_toArray, List.set_cons_zero, List.set_cons_succ]
            refine anyG_move (i := 1) (oi := { dst := some 48, op := Op.nilCheck (Operand.tmp 47), type := 0, pos := _, after := #[{ on := 0, ground := Ground.data }], guard := none }) (v := ?v1) rfl (by decide) (by kernel_rfl) (by kernel_rfl) (by kernel_rfl) (fun _ _ _ h => h) (fun _ => s0) (Or.inl ⟨by rfl, ?hy1⟩) ?rest1
            case hy1 => (intro w; go_simp; try with_reducible rfl)
            simp only [Act.put, List.setIfInBounds_toArray, List.set_cons_zero, List.set_cons_succ]
            refine anyG_move (i := 2) (oi := { dst := some 49, op := Op.fieldAddr 169 (Operand.tmp 48) 0, type := 0, pos := _, after := #[{ on := 1, ground := Ground.data }], guard := none }) (v := ?v2) rfl (by decide) (by kernel_rfl) (by kernel_rfl) (by kernel_rfl) (fun _ _ _ h => h) (fun _ => s0) (Or.inl ⟨by rfl, ?hy2⟩) ?rest2
            case hy2 => (intro w; go_simp; try with_reducible rfl)
            simp only [Act.put, List.setIfInBounds_toArray, List.set_cons_zero, List.set_cons_succ]
            refine anyG_load (i := 3) (oi := { dst := some 50, op := Op.load 167 (Operand.tmp 49), type := 167, pos := _, after := #[{ on := 2, ground := Ground.data }], guard := none }) (op := { dst := none, op := Op.store 26 (Operand.tmp 70) (Operand.tmp 69), type := 0, pos := _, after := #[{ on := 23, ground := Ground.data }, { on := 22, ground := Ground.data }, { on := 22, ground := Ground.chain }, { on := 0, ground := Ground.phase }, { on := 1, ground := Ground.phase }, { on := 2, ground := Ground.phase }, { on := 3, ground := Ground.phase }, { on := 4, ground := Ground.phase }, { on := 5, ground := Ground.phase }, { on := 6, ground := Ground.phase }, { on := 7, ground := Ground.phase }, { on := 8, ground := Ground.phase }, { on := 9, ground := Ground.phase }, { on := 10, ground := Ground.phase }, { on := 11, ground := Ground.phase }, { on := 12, ground := Ground.phase }, { on := 13, ground := Ground.phase }, { on := 14, ground := Ground.phase }, { on := 15, ground := Ground.phase }, { on := 16, ground := Ground.phase }, { on := 17, ground := Ground.phase }, { on := 18, ground := Ground.phase }, { on := 19, ground := Ground.phase }, { on := 20, ground := Ground.phase }, { on := 21, ground := Ground.phase }, { on := 22, ground := Ground.phase }], guard := none }) (v := ?v3) rfl rfl (by kernel_rfl) (by kernel_rfl) (by kernel_rfl) (by kernel_rfl) (fun _ _ _ h => h) (by kernel_rfl) s0 (Or.inl ⟨by rfl, ?hy3⟩) ?rest3
            case hy3 => (intro w hSw; obtain ⟨e0, e1, e2, e3, e4, e5, e6⟩ := hSw; go_simp; try with_reducible rfl)
            simp only [Act.put, List.setIfInBounds_toArray, List.set_cons_zero, List.set_cons_succ]
            refine anyG_move (i := 4) (oi := { dst := some 51, op := Op.move (Operand.tmp 1), type := 3, pos := _, after := #[], guard := none }) (v := ?v4) rfl (by decide) (by kernel_rfl) (by kernel_rfl) (by kernel_rfl) (fun _ _ _ h => h) (fun _ => s0) (Or.inl ⟨by rfl, ?hy4⟩) ?rest4
            case hy4 => (intro w; go_simp; try with_reducible rfl)
            simp only [Act.put, List.setIfInBounds_toArray, List.set_cons_zero, List.set_cons_succ]
            refine anyG_move (i := 5) (oi := { dst := some 52, op := Op.indexAddr 167 (Operand.tmp 50) (Operand.tmp 51), type := 0, pos := _, after := #[{ on := 3, ground := Ground.data }, { on := 4, ground := Ground.data }], guard := none }) (v := ?v5) rfl (by decide) (by kernel_rfl) (by kernel_rfl) (by kernel_rfl) (fun _ _ _ h => h) (fun _ => s0) (Or.inl ⟨by rfl, ?hy5⟩) ?rest5
            case hy5 => (intro w; go_simp; try with_reducible rfl)
            simp only [Act.put, List.setIfInBounds_toArray, List.set_cons_zero, List.set_cons_succ]
            refine anyG_load (i := 6) (oi := { dst := some 53, op := Op.load 170 (Operand.tmp 52), type := 170, pos := _, after := #[{ on := 5, ground := Ground.data }], guard := none }) (op := { dst := none, op := Op.store 26 (Operand.tmp 70) (Operand.tmp 69), type := 0, pos := _, after := #[{ on := 23, ground := Ground.data }, { on := 22, ground := Ground.data }, { on := 22, ground := Ground.chain }, { on := 0, ground := Ground.phase }, { on := 1, ground := Ground.phase }, { on := 2, ground := Ground.phase }, { on := 3, ground := Ground.phase }, { on := 4, ground := Ground.phase }, { on := 5, ground := Ground.phase }, { on := 6, ground := Ground.phase }, { on := 7, ground := Ground.phase }, { on := 8, ground := Ground.phase }, { on := 9, ground := Ground.phase }, { on := 10, ground := Ground.phase }, { on := 11, ground := Ground.phase }, { on := 12, ground := Ground.phase }, { on := 13, ground := Ground.phase }, { on := 14, ground := Ground.phase }, { on := 15, ground := Ground.phase }, { on := 16, ground := Ground.phase }, { on := 17, ground := Ground.phase }, { on := 18, ground := Ground.phase }, { on := 19, ground := Ground.phase }, { on := 20, ground := Ground.phase }, { on := 21, ground := Ground.phase }, { on := 22, ground := Ground.phase }], guard := none }) (v := ?v6) rfl rfl (by kernel_rfl) (by kernel_rfl) (by kernel_rfl) (by kernel_rfl) (fun _ _ _ h => h) (by kernel_rfl) s0 (Or.inl ⟨by rfl, ?hy6⟩) ?rest6
            case hy6 => (intro w hSw; obtain ⟨e0, e1, e2, e3, e4, e5, e6⟩ := hSw; go_simp; try with_reducible rfl)
            simp only [Act.put, List.setIfInBounds_toArray, List.set_cons_zero, List.set_cons_succ]
            refine anyG_move (i := 7) (oi := { dst := some 54, op := Op.move (Operand.tmp 11), type := 3, pos := _, after := #[], guard := none }) (v := ?v7) rfl (by decide) (by kernel_rfl) (by kernel_rfl) (by kernel_rfl) (fun _ _ _ h => h) (fun _ => s0) (Or.inl ⟨by rfl, ?hy7⟩) ?rest7
            case hy7 => (intro w; go_simp; try with_reducible rfl)
            simp only [Act.put, List.setIfInBounds_toArray, List.set_cons_zero, List.set_cons_succ]
            refine anyG_move (i := 8) (oi := { dst := some 55, op := Op.move (Operand.tmp 0), type := 100, pos := _, after := #[], guard := none }) (v := ?v8) rfl (by decide) (by kernel_rfl) (by kernel_rfl) (by kernel_rfl) (fun _ _ _ h => h) (fun _ => s0) (Or.inl ⟨by rfl, ?hy8⟩) ?rest8
            case hy8 => (intro w; go_simp; try with_reducible rfl)
            simp only [Act.put, List.setIfInBounds_toArray, List.set_cons_zero, List.set_cons_succ]
            refine anyG_move (i := 9) (oi := { dst := some 56, op := Op.nilCheck (Operand.tmp 55), type := 0, pos := _, after := #[{ on := 8, ground := Ground.data }], guard := none }) (v := ?v9) rfl (by decide) (by kernel_rfl) (by kernel_rfl) (by kernel_rfl) (fun _ _ _ h => h) (fun _ => s0) (Or.inl ⟨by rfl, ?hy9⟩) ?rest9
            case hy9 => (intro w; go_simp; try with_reducible rfl)
            simp only [Act.put, List.setIfInBounds_toArray, List.set_cons_zero, List.set_cons_succ]
            refine anyG_move (i := 10) (oi := { dst := some 57, op := Op.fieldAddr 169 (Operand.tmp 56) 0, type := 0, pos := _, after := #[{ on := 9, ground := Ground.data }], guard := none }) (v := ?v10) rfl (by decide) (by kernel_rfl) (by kernel_rfl) (by kernel_rfl) (fun _ _ _ h => h) (fun _ => s0) (Or.inl ⟨by rfl, ?hy10⟩) ?rest10
            case hy10 => (intro w; go_simp; try with_reducible rfl)
            simp only [Act.put, List.setIfInBounds_toArray, List.set_cons_zero, List.set_cons_succ]
            refine anyG_load (i := 11) (oi := { dst := some 58, op := Op.load 167 (Operand.tmp 57), type := 167, pos := _, after := #[{ on := 10, ground := Ground.data }], guard := none }) (op := { dst := none, op := Op.store 26 (Operand.tmp 70) (Operand.tmp 69), type := 0, pos := _, after := #[{ on := 23, ground := Ground.data }, { on := 22, ground := Ground.data }, { on := 22, ground := Ground.chain }, { on := 0, ground := Ground.phase }, { on := 1, ground := Ground.phase }, { on := 2, ground := Ground.phase }, { on := 3, ground := Ground.phase }, { on := 4, ground := Ground.phase }, { on := 5, ground := Ground.phase }, { on := 6, ground := Ground.phase }, { on := 7, ground := Ground.phase }, { on := 8, ground := Ground.phase }, { on := 9, ground := Ground.phase }, { on := 10, ground := Ground.phase }, { on := 11, ground := Ground.phase }, { on := 12, ground := Ground.phase }, { on := 13, ground := Ground.phase }, { on := 14, ground := Ground.phase }, { on := 15, ground := Ground.phase }, { on := 16, ground := Ground.phase }, { on := 17, ground := Ground.phase }, { on := 18, ground := Ground.phase }, { on := 19, ground := Ground.phase }, { on := 20, ground := Ground.phase }, { on := 21, ground := Ground.phase }, { on := 22, ground := Ground.phase }], guard := none }) (v := ?v11) rfl rfl (by kernel_rfl) (by kernel_rfl) (by kernel_rfl) (by kernel_rfl) (fun _ _ _ h => h) (by kernel_rfl) s0 (Or.inl ⟨by rfl, ?hy11⟩) ?rest11
            case hy11 => (intro w hSw; obtain ⟨e0, e1, e2, e3, e4, e5, e6⟩ := hSw; go_simp; try with_reducible rfl)
            simp only [Act.put, List.setIfInBounds_toArray, List.set_cons_zero, List.set_cons_succ]
            refine anyG_move (i := 12) (oi := { dst := some 59, op := Op.move (Operand.tmp 1), type := 3, pos := _, after := #[], guard := none }) (v := ?v12) rfl (by decide) (by kernel_rfl) (by kernel_rfl) (by kernel_rfl) (fun _ _ _ h => h) (fun _ => s0) (Or.inl ⟨by rfl, ?hy12⟩) ?rest12
            case hy12 => (intro w; go_simp; try with_reducible rfl)
            simp only [Act.put, List.setIfInBounds_toArray, List.set_cons_zero, List.set_cons_succ]
            refine anyG_move (i := 13) (oi := { dst := some 60, op := Op.indexAddr 167 (Operand.tmp 58) (Operand.tmp 59), type := 0, pos := _, after := #[{ on := 11, ground := Ground.data }, { on := 12, ground := Ground.data }], guard := none }) (v := ?v13) rfl (by decide) (by kernel_rfl) (by kernel_rfl) (by kernel_rfl) (fun _ _ _ h => h) (fun _ => s0) (Or.inl ⟨by rfl, ?hy13⟩) ?rest13
            case hy13 => (intro w; go_simp; try with_reducible rfl)
            simp only [Act.put, List.setIfInBounds_toArray, List.set_cons_zero, List.set_cons_succ]
            refine anyG_load (i := 14) (oi := { dst := some 61, op := Op.load 170 (Operand.tmp 60), type := 170, pos := _, after := #[{ on := 13, ground := Ground.data }], guard := none }) (op := { dst := none, op := Op.store 26 (Operand.tmp 70) (Operand.tmp 69), type := 0, pos := _, after := #[{ on := 23, ground := Ground.data }, { on := 22, ground := Ground.data }, { on := 22, ground := Ground.chain }, { on := 0, ground := Ground.phase }, { on := 1, ground := Ground.phase }, { on := 2, ground := Ground.phase }, { on := 3, ground := Ground.phase }, { on := 4, ground := Ground.phase }, { on := 5, ground := Ground.phase }, { on := 6, ground := Ground.phase }, { on := 7, ground := Ground.phase }, { on := 8, ground := Ground.phase }, { on := 9, ground := Ground.phase }, { on := 10, ground := Ground.phase }, { on := 11, ground := Ground.phase }, { on := 12, ground := Ground.phase }, { on := 13, ground := Ground.phase }, { on := 14, ground := Ground.phase }, { on := 15, ground := Ground.phase }, { on := 16, ground := Ground.phase }, { on := 17, ground := Ground.phase }, { on := 18, ground := Ground.phase }, { on := 19, ground := Ground.phase }, { on := 20, ground := Ground.phase }, { on := 21, ground := Ground.phase }, { on := 22, ground := Ground.phase }], guard := none }) (v := ?v14) rfl rfl (by kernel_rfl) (by kernel_rfl) (by kernel_rfl) (by kernel_rfl) (fun _ _ _ h => h) (by kernel_rfl) s0 (Or.inl ⟨by rfl, ?hy14⟩) ?rest14
            case hy14 => (intro w hSw; obtain ⟨e0, e1, e2, e3, e4, e5, e6⟩ := hSw; go_simp; try with_reducible rfl)
            simp only [Act.put, List.setIfInBounds_toArray, List.set_cons_zero, List.set_cons_succ]
            refine anyG_move (i := 15) (oi := { dst := some 62, op := Op.move (Operand.tmp 11), type := 3, pos := _, after := #[], guard := none }) (v := ?v15) rfl (by decide) (by kernel_rfl) (by kernel_rfl) (by kernel_rfl) (fun _ _ _ h => h) (fun _ => s0) (Or.inl ⟨by rfl, ?hy15⟩) ?rest15
            case hy15 => (intro w; go_simp; try with_reducible rfl)
            simp only [Act.put, List.setIfInBounds_toArray, List.set_cons_zero, List.set_cons_succ]
            refine anyG_move (i := 16) (oi := { dst := some 63, op := Op.indexAddr 170 (Operand.tmp 61) (Operand.tmp 62), type := 0, pos := _, after := #[{ on := 14, ground := Ground.data }, { on := 15, ground := Ground.data }], guard := none }) (v := ?v16) rfl (by decide) (by kernel_rfl) (by kernel_rfl) (by kernel_rfl) (fun _ _ _ h => h) (fun _ => s0) (Or.inl ⟨by rfl, ?hy16⟩) ?rest16
            case hy16 => (intro w; go_simp; try with_reducible rfl)
            simp only [Act.put, List.setIfInBounds_toArray, List.set_cons_zero, List.set_cons_succ]
            refine anyG_load (i := 17) (oi := { dst := some 64, op := Op.load 26 (Operand.tmp 63), type := 26, pos := _, after := #[{ on := 16, ground := Ground.data }], guard := none }) (op := { dst := none, op := Op.store 26 (Operand.tmp 70) (Operand.tmp 69), type := 0, pos := _, after := #[{ on := 23, ground := Ground.data }, { on := 22, ground := Ground.data }, { on := 22, ground := Ground.chain }, { on := 0, ground := Ground.phase }, { on := 1, ground := Ground.phase }, { on := 2, ground := Ground.phase }, { on := 3, ground := Ground.phase }, { on := 4, ground := Ground.phase }, { on := 5, ground := Ground.phase }, { on := 6, ground := Ground.phase }, { on := 7, ground := Ground.phase }, { on := 8, ground := Ground.phase }, { on := 9, ground := Ground.phase }, { on := 10, ground := Ground.phase }, { on := 11, ground := Ground.phase }, { on := 12, ground := Ground.phase }, { on := 13, ground := Ground.phase }, { on := 14, ground := Ground.phase }, { on := 15, ground := Ground.phase }, { on := 16, ground := Ground.phase }, { on := 17, ground := Ground.phase }, { on := 18, ground := Ground.phase }, { on := 19, ground := Ground.phase }, { on := 20, ground := Ground.phase }, { on := 21, ground := Ground.phase }, { on := 22, ground := Ground.phase }], guard := none }) (v := ?v17) rfl rfl (by kernel_rfl) (by kernel_rfl) (by kernel_rfl) (by kernel_rfl) (fun _ _ _ h => h) (by kernel_rfl) s0 (Or.inl ⟨by rfl, ?hy17⟩) ?rest17
            case hy17 => (intro w hSw; obtain ⟨e0, e1, e2, e3, e4, e5, e6⟩ := hSw; go_simp; try with_reducible rfl)
            simp only [Act.put, List.setIfInBounds_toArray, List.set_cons_zero, List.set_cons_succ]
            refine anyG_load (i := 19) (oi := { dst := some 66, op := Op.load 42 (Operand.tmp 5), type := 42, pos := _, after := #[], guard := none }) (op := { dst := none, op := Op.store 26 (Operand.tmp 70) (Operand.tmp 69), type := 0, pos := _, after := #[{ on := 23, ground := Ground.data }, { on := 22, ground := Ground.data }, { on := 22, ground := Ground.chain }, { on := 0, ground := Ground.phase }, { on := 1, ground := Ground.phase }, { on := 2, ground := Ground.phase }, { on := 3, ground := Ground.phase }, { on := 4, ground := Ground.phase }, { on := 5, ground := Ground.phase }, { on := 6, ground := Ground.phase }, { on := 7, ground := Ground.phase }, { on := 8, ground := Ground.phase }, { on := 9, ground := Ground.phase }, { on := 10, ground := Ground.phase }, { on := 11, ground := Ground.phase }, { on := 12, ground := Ground.phase }, { on := 13, ground := Ground.phase }, { on := 14, ground := Ground.phase }, { on := 15, ground := Ground.phase }, { on := 16, ground := Ground.phase }, { on := 17, ground := Ground.phase }, { on := 18, ground := Ground.phase }, { on := 19, ground := Ground.phase }, { on := 20, ground := Ground.phase }, { on := 21, ground := Ground.phase }, { on := 22, ground := Ground.phase }], guard := none }) (v := ?v19) rfl rfl (by kernel_rfl) (by kernel_rfl) (by kernel_rfl) (by kernel_rfl) (fun _ _ _ h => h) (by kernel_rfl) s0 (Or.inl ⟨by rfl, ?hy19⟩) ?rest19
            case hy19 => (intro w hSw; obtain ⟨e0, e1, e2, e3, e4, e5, e6⟩ := hSw; go_simp; try with_reducible rfl)
            simp only [Act.put, List.setIfInBounds_toArray, List.set_cons_zero, List.set_cons_succ]
            refine anyG_one (i := 18) (o := { dst := some 65, op := Op.call { callee := Callee.value (Operand.func 112), args := #[Operand.tmp 64], argTypes := #[26] }, type := 26, pos := _, after := #[{ on := 17, ground := Ground.data }], guard := none }) (by kernel_rfl) rfl rfl (fun K' hK => ?_)
            go_simp
            refine HCLN.out.mono ?_
            rintro e w4 ⟨A1, c1, rfl, hrow, hb4⟩
            simp only []
            refine hK _ _ (fun _ => HSA.out w4 (HB4.out w4 hb4)) ?_
            clear hK K'
            try simp only [Act.put, List.setIfInBounds_toArray, List.set_cons_zero, List.set_cons_succ]
            refine anyG_one (i := 20) (o := { dst := some 67, op := Op.call { callee := Callee.value (Operand.func 34), args := #[Operand.tmp 66], argTypes := #[42] }, type := 42, pos := _, after := #[{ on := 19, ground := Ground.data }, { on := 18, ground := Ground.chain }], guard := none }) (by kernel_rfl) rfl rfl (fun K' hK => ?_)
            go_simp
            refine (HBE.out w4).mono ?_
            rintro e w5 ⟨rfl, hb5⟩
            obtain ⟨A', c', w7, m1, hrun, hb7, q0, q1, s', hT⟩ := HEND.out w4 hb4 A1 c1 hrow w5 hb5
            have HRN := hideP hrun
            have HT := hideP hT
            unfold emV emC
            simp only []
            refine hK _ _ (fun _ => HSA.out w5 (HB5.out w4 hb4 w5 hb5)) ?_
            clear hK K'
            try simp only [Act.put, List.setIfInBounds_toArray, List.set_cons_zero, List.set_cons_succ]
            refine anyG_one (i := 21) (o := { dst := some 68, op := Op.buildSlice 26 1 #[(0, Operand.tmp 67)], type := 26, pos := _, after := #[{ on := 20, ground := Ground.data }], guard := none }) (by kernel_rfl) rfl rfl (fun K' hK => ?_)
            go_simp
            refine hK _ _ (fun _ => HSA.out _ ((HB5.out w4 hb4 w5 hb5).alloc (HB5.out w4 hb4 w5 hb5).size _)) ?_
            clear hK K'
            try simp only [Act.put, List.setIfInBounds_toArray, List.set_cons_zero, List.set_cons_succ]
            refine anyG_one (i := 22) (o := { dst := some 69, op := Op.call { callee := Callee.builtin Builtin.append, args := #[Operand.tmp 65, Operand.tmp 68], argTypes := #[26, 26] }, type := 26, pos := _, after := #[{ on := 18, ground := Ground.data }, { on := 21, ground := Ground.data }, { on := 20, ground := Ground.chain }], guard := none }) (by kernel_rfl) rfl rfl (fun K' hK => ?_)
            refine Lib.wp_append_run _ _ _ _ _ rfl _ _ rfl rfl _ _ HRN.out ?_
            refine hK _ _ (fun _ => HSA.out w7 hb7) ?_
            clear hK K'
            try simp only [Act.put, List.setIfInBounds_toArray, List.set_cons_zero, List.set_cons_succ]
            refine anyG_one (i := 23) (o := { dst := some 70, op := Op.indexAddr 170 (Operand.tmp 53) (Operand.tmp 54), type := 0, pos := _, after := #[{ on := 6, ground := Ground.data }, { on := 7, ground := Ground.data }, { on := 0, ground := Ground.phase }, { on := 1, ground := Ground.phase }, { on := 2, ground := Ground.phase }, { on := 3, ground := Ground.phase }, { on := 4, ground := Ground.phase }, { on := 5, ground := Ground.phase }, { on := 6, ground := Ground.phase }, { on := 7, ground := Ground.phase }, { on := 8, ground := Ground.phase }, { on := 9, ground := Ground.phase }, { on := 10, ground := Ground.phase }, { on := 11, ground := Ground.phase }, { on := 12, ground := Ground.phase }, { on := 13, ground := Ground.phase }, { on := 14, ground := Ground.phase }, { on := 15, ground := Ground.phase }, { on := 16, ground := Ground.phase }, { on := 17, ground := Ground.phase }, { on := 18, ground := Ground.phase }, { on := 19, ground := Ground.phase }, { on := 20, ground := Ground.phase }, { on := 21, ground := Ground.phase }, { on := 22, ground := Ground.phase }], guard := none }) (by kernel_rfl) rfl rfl (fun K' hK => ?_)
            go_simp
            refine hK _ _ (fun _ => HSA.out w7 hb7) ?_
            clear hK K'
            try simp only [Act.put, List.setIfInBounds_toArray, List.set_cons_zero, List.set_cons_succ]
            refine anyG_one (i := 24) (o := { dst := none, op := Op.store 26 (Operand.tmp 70) (Operand.tmp 69), type := 0, pos := _, after := #[{ on := 23, ground := Ground.data }, { on := 22, ground := Ground.data }, { on := 22, ground := Ground.chain }, { on := 0, ground := Ground.phase }, { on := 1, ground := Ground.phase }, { on := 2, ground := Ground.phase }, { on := 3, ground := Ground.phase }, { on := 4, ground := Ground.phase }, { on := 5, ground := Ground.phase }, { on := 6, ground := Ground.phase }, { on := 7, ground := Ground.phase }, { on := 8, ground := Ground.phase }, { on := 9, ground := Ground.phase }, { on := 10, ground := Ground.phase }, { on := 11, ground := Ground.phase }, { on := 12, ground := Ground.phase }, { on := 13, ground := Ground.phase }, { on := 14, ground := Ground.phase }, { on := 15, ground := Ground.phase }, { on := 16, ground := Ground.phase }, { on := 17, ground := Ground.phase }, { on := 18, ground := Ground.phase }, { on := 19, ground := Ground.phase }, { on := 20, ground := Ground.phase }, { on := 21, ground := Ground.phase }, { on := 22, ground := Ground.phase }], guard := none }) (by kernel_rfl) rfl rfl (fun K' hK => ?_)
            go_simp
            refine hK _ _ (fun h => tf_no (by kernel_rfl) h) ?_
            clear hK K'
            try simp only [Act.put, List.setIfInBounds_toArray, List.set_cons_zero, List.set_cons_succ]
            refine anyG_done (by kernel_rfl) ?_ _
            go_wp2_with fail
            go_ret
            exact ⟨s', by rw [HQ1.out]; rfl, by rw [HQ2.out]; exact HT.out⟩
    · obtain ⟨q1, q2⟩ := addQ_bad (ct := s.ct) (i := i) hin hck
      rw [q1, q2]
      have HT := hideP (fun (w' : World) (hb : Below _ _ w') => show s.To w0 w B s w' s.ct from Rs.To.same h (b0.trans (hb.mono b0.size)))
      have d1 : (chkE (entOf ⟨D, c, d, isM, ⟨A, ca, cs, O, co, os⟩⟩) != 0) = true := by simpa using hck
      clear h h1 hx hx1 hin q1 q2 hlen hck x0 b0 hxw
      generalize chkE (entOf ⟨D, c, d, isM, ⟨A, ca, cs, O, co, os⟩⟩) = q at HK d1 ⊢
      go_enter Tryz.func52, Tryz.ntmps52
      go_wp2_with fail
      refine HH.out.mono ?_
      rintro e w' ⟨rfl, rfl⟩
      go_wp2_with fail
      refine HK.out.mono ?_
      rintro e w2 ⟨rfl, hb2⟩
      go_wp2_with fail
      go_ret
      exact ⟨s, rfl, HT.out w2 hb2⟩
  · rw [decide_eq_false hin] at HH
    obtain ⟨q1, q2⟩ := addQ_none (ct := s.ct) (i := i) (x := entOf ⟨D, c, d, isM, ⟨A, ca, cs, O, co, os⟩⟩) hin
    rw [q1, q2]
    have HT := hideP (show s.To w0 w B s _ s.ct from Rs.To.same h b0)
    clear h h1 hx hx1 hin q1 q2 hlen x0 b0 hxw
    unfold emV emC
    simp only
    go_enter Tryz.func52, Tryz.ntmps52
    go_wp2_with fail
    refine HH.out.mono ?_
    rintro e w' ⟨rfl, rfl⟩
    go_wp2_with fail
    go_ret
    exact ⟨s, rfl, HT.out⟩
end Go.Proofs.YtefdipjhjgmokaaGreatDoor
