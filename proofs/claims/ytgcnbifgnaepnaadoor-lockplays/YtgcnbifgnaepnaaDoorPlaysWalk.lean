/-
  rolaw.LockPlays: the law answers true.
-/
import Derived.Test.YtgcnbifgnaepnaaDoorPlAdd
import Derived.Test.YtgcnbifgnaepnaaDoorAnyG
import Derived.Deep.Cut
import Derived.Deep.CutBlock
import Derived.Deep.DeepCutAuto
set_option linter.unusedVariables false
set_option linter.unusedSimpArgs false
namespace Go.Proofs.YtgcnbifgnaepnaaDoor
open Go.RowKit Go.WideMaps Go.Maps

def PlInv (w1 : World) (g mb n : Nat) (i : Value) (wr : World) : Prop := ∃ t : Nat, t ≤ n ∧ i = .int .i64 t ∧ PSt w1 g mb wr

theorem isV_false {gl : List Bool} {s : Int} (h : isV gl s = false) {n : Nat} (hn : gl.length = n) : s < 0 ∨ (n : Int) ≤ s ∨ goneF gl s.toNat = true := by
  by_cases h0 : s < 0
  · exact .inl h0
  · by_cases h1 : (n : Int) ≤ s
    · exact .inr (.inl h1)
    · refine .inr (.inr ?_)
      unfold isV at h
      rw [decide_eq_true (show 0 ≤ s by omega), decide_eq_true (show s ≤ (gl.length : Int) - 1 by omega)] at h
      simpa [goneF] using h
theorem isV_true {gl : List Bool} {s : Int} (h : isV gl s = true) : ∃ k : Nat, s = k ∧ k < gl.length ∧ goneF gl k = false := by
  unfold isV at h
  rw [Bool.and_eq_true, Bool.and_eq_true, Bool.not_eq_true'] at h
  have h1 := of_decide_eq_true h.1.1
  have h2 := of_decide_eq_true h.1.2
  exact ⟨s.toNat, by omega, by omega, h.2⟩
/-- how many of the first are not gone -/
def cntR (gl : List Bool) (n : Nat) : Nat := ((List.range n).filter fun i => !goneF gl i).length
theorem cntR_succ (gl : List Bool) (n : Nat) : cntR gl (n + 1) = cntR gl n + if goneF gl n = true then 0 else 1 := by
  unfold cntR
  rw [List.range_succ, List.filter_append, List.length_append]
  congr 1
  cases h : goneF gl n <;> simp [h]
theorem cntR_le (gl : List Bool) (n : Nat) : cntR gl n ≤ n := by
  have := List.length_filter_le (fun i => !goneF gl i) (List.range n)
  rw [List.length_range] at this
  exact this
def CntInv (w : World) (gl : List Bool) (v i : Value) (wr : World) : Prop := ∃ k : Nat, k ≤ gl.length ∧ i = .int .i64 k ∧ v = .int .i64 (cntR gl k : Nat) ∧ w = wr

set_option maxHeartbeats 16000000 in
set_option maxRecDepth 100000 in
theorem plays_any (A E : Option Addr) (c ce : Nat) (cs : List Cl) (ds : List Dl) (w : World) (hA : LS w A cs) (hl : cs.length ≤ 9223372036854775807) (hE : DS w E ds) (hle : ds.length ≤ 9223372036854775807) :
    Calls Tryd.prog 3 #[.slice A cs.length c, .slice E ds.length ce] w fun e w' => e = .returned (.bool true) ∧ Below w.heap.size w w' := by
  go_enter Tryd.func3, Tryd.ntmps3
  go_wp2_with fail
  refine (new_any _).mono ?_
  rintro e wa ⟨rfl, hTa, hba, hlta⟩
  have hF := free_any w.heap.size w.heap.size 0 [] 0 wa hTa hba.size
  have hf0 : freeV [] 0 = 4 := rfl
  have HF := hideP hF
  clear hF
  go_wp2_with fail
  refine HF.out.mono ?_
  rintro e wb ⟨he, _, hKb⟩
  rw [hf0] at he
  subst he
  have hbb : Below w.heap.size w wb := hba.trans hKb.bel
  have hAb := hA.below hbb
  have hEb := hE.below hbb
  clear hTa hba hlta hKb HF hf0 hA hE
  go_wp2_with fail
  refine (new_any _).mono ?_
  rintro e w2 ⟨rfl, hT2, hb2, hlt2⟩
  have hbm := (Below.refl w2.heap.size w2).alloc (Nat.le_refl _) (.cells #[.slice none 0 0, .slice none 0 0] 31)
  have hI0 := hideP (show PlInv wb wb.heap.size w2.heap.size cs.length (.int .i64 0) (w2.alloc (.cells #[.slice none 0 0, .slice none 0 0] 31)) from
    ⟨0, Nat.zero_le _, rfl, [], [], [], hT2.below hbm, ⟨none, 0, none, 0, Box.new w2 _ _, hb2.size, OR.nil _ _ _, OR.nil _ _ _, rfl, by simp, by simp⟩, Lk.nil _, hb2.trans (hbm.mono hb2.size)⟩)
  clear hT2 hb2 hlt2 hbm
  go_wp2_with fail
  generalize wb.heap.size = g at hI0 ⊢
  generalize w2.heap.size = mb at hI0 ⊢
  go_loopw [34] (PlInv wb g mb cs.length) (fun i _ => cs.length - (intOf i).toNat)
  case atStart => exact hI0.out
  case round =>
    clear hI0
    obtain ⟨t, ht, rfl, left, dsm, gl, hTB, hMT, hLk, hbw⟩ := hrel
    by_cases htl : t < cs.length
    · have hLSr := hAb.below hbw
      obtain ⟨b, o, rfl, hbl, q1⟩ := hLSr.vs t (clV cs[t]) (by simp [htl])
      obtain ⟨hIS, hzl, hzc⟩ := hLSr.is_ _ (List.getElem_mem htl)
      clear hLSr
      generalize cs[t] = x at q1 hIS hzl hzc
      obtain ⟨Ax, cx, zs⟩ := x
      simp only [clV] at q1 hIS hzl hzc
      have g1 : (0 : Int) ≤ (t : Int) := by omega
      have g2 : (t : Int) < (cs.length : Int) := by omega
      have H1 := hideP (rat_any Ax cx zs 1 wr hIS (by omega))
      have H0 := hideP (rat_any Ax cx zs 0 wr hIS (by omega))
      clear hIS
      generalize zs.getD 1 0 = kz at H1
      generalize zs.getD 0 0 = tg at H0
      obtain ⟨wq, rfl⟩ : ∃ wq, wq = wr := ⟨_, rfl⟩
      go_wp2_with fail
      refine H1.out.mono ?_
      rintro e w3 ⟨rfl, rfl⟩
      go_wp2_with fail
      refine H0.out.mono ?_
      rintro e w3 ⟨rfl, rfl⟩
      clear H0 H1
      go_upto_block 2 with fail
      go_cut [] (PSt wb g mb)
      case first =>
        by_cases h1 : tg = 1
        · subst h1
          have hgl : gl.length = dsm.length := by obtain ⟨_, _, _, _, h⟩ := hMT; exact h.len
          have hm60 : dsm.length ≤ 60 := by obtain ⟨_, _, _, _, h⟩ := hMT; exact h.most
          have HPK := hideP (pick_any E ce ds kz wq (hEb.below hbw) hle)
          obtain ⟨Am, cm, Gm, cgm, hMT⟩ := hMT
          have hApq : ∀ b, Am.map (·.block) = some b → b < wq.heap.size := fun b hb => (World.ownsRow.lt hMT.deeds b (by rw [ob_]; exact hb)).2
          go_wp2_with fail
          refine HPK.out.mono ?_
          rintro e w4 ⟨D, cD, d, rfl, hd, hb4⟩
          have hosb : OS wb wb.heap.size D d := by
            rcases hd with rfl | ⟨x, hx, rfl, rfl⟩
            · exact OS.nil
            · exact hEb.os x hx
          have hb5 := (Below.refl w4.heap.size w4).alloc (Nat.le_refl _) (.cells #[.slice D d.length cD] 36)
          have hb45 := hb4.trans (hb5.mono hb4.size)
          have hTB5 := hTB.below hb45
          have hMT5 := hMT.below hb45
          have hbw5 := hbw.trans (hb45.mono hbw.size)
          have hbx5 := Box.new w4 36 #[.slice D d.length cD]
          have hos5 := (hosb.below hbw5).more hbw5.size
          have hApd : Am.map (·.block) ≠ some w4.heap.size := fun e => by have := hApq _ e; have := hb4.size; omega
          clear HPK hd hb4 hb5 hb45 hTB hMT hbw hApq
          go_wp2_with fail
          generalize w4.alloc (.cells #[.slice D d.length cD] 36) = w5 at hTB5 hMT5 hbw5 hbx5 hos5 ⊢
          generalize w4.heap.size = gd at hbx5 hApd ⊢
          refine (add_any g wb.heap.size dsm.length left D cD d w5 hTB5 hbw5.size hos5).mono ?_
          rintro e w6 ⟨he, hK6, hT6⟩
          have hMT6 := hMT5.kp hK6
          have hbx6 := hbx5.kp hK6 (by decide) (by decide) (by decide)
          have hbw6 := hbw5.trans hK6.bel
          have hos6 := (hosb.below hbw6).more hbw6.size
          clear hTB5 hMT5 hbx5 hbw5 hos5 hK6
          have HRD := hideP (rdeed_any D cD d w6 hos6)
          have cd6 := hbx6.cell 0 (v := .slice D d.length cD) rfl
          by_cases hcd : chkD d = 0
          · by_cases h60 : dsm.length = 60
            · have hav : addV dsm.length d = (0, 2) := by unfold addV; rw [if_pos hcd, if_neg (by omega)]
              rw [hav] at he hT6
              subst he
              have hT6' : TB w6 wb.heap.size g dsm.length left := by
                rcases hT6 with ⟨h, _⟩ | ⟨_, h⟩
                · exact absurd h (by decide)
                · exact h
              rw [hcd] at HRD
              clear hT6 hav
              go_wp2_with fail
              refine HRD.out.mono ?_
              rintro e w7 ⟨rfl, hb7⟩
              have hT7 := hT6'.below hb7
              have hM7 := hMT6.below hb7
              have hbw7 := hbw6.trans (hb7.mono hbw6.size)
              have hmx := hM7
              have cg0 := hmx.box.cell 0 (v := .slice Am dsm.length cm) rfl
              have d60 : ((dsm.length : Int) == 60) = true := by simp [h60]
              have HP := hideP (show PSt wb g mb w7 from ⟨left, dsm, gl, hT7, ⟨_, _, _, _, hmx⟩, hLk, hbw7⟩)
              clear HRD hT6' hMT6 hbw6 hb7 hT7 hmx hLk hbw7 hbx6 hos6 cd6
              go_wp2_with fail
              go_roundw
              case rel => exact ⟨t + 1, by omega, by go_num, HP.out⟩
              case measure => simp [intOf]; omega
            · have hav : addV dsm.length d = (dsm.length, 0) := by unfold addV; rw [if_pos hcd, if_pos (by omega)]
              rw [hav] at he hT6
              subst he
              obtain ⟨An, cn, hT6'⟩ : ∃ A c, TB w6 wb.heap.size g (dsm.length + 1) (left ++ [⟨dsm.length, A, c, d⟩]) := by
                rcases hT6 with ⟨_, h⟩ | ⟨h, _⟩
                · exact h
                · exact absurd rfl h
              rw [hcd] at HRD
              clear hT6 hav
              go_wp2_with fail
              refine HRD.out.mono ?_
              rintro e w7 ⟨rfl, hb7⟩
              have hT7 := hT6'.below hb7
              have hM7 := hMT6.below hb7
              have hbw7 := hbw6.trans (hb7.mono hbw6.size)
              have hbx7 := hbx6.below hb7
              have cg0 := hM7.box.cell 0 (v := .slice Am dsm.length cm) rfl
              have cg1 := hM7.box.cell 1 (v := .slice Gm gl.length cgm) rfl
              have cd7 := hbx7.cell 0 (v := .slice D d.length cD) rfl
              have d60 : ((dsm.length : Int) == 60) = false := beq_false_of_ne (by omega)
              have dnn : ((dsm.length : Int) != (dsm.length : Int)) = false := by simp
              have hgood : ∀ y ∈ dsm ++ [(⟨D, cD, d⟩ : Dl)], OS wb wb.heap.size y.D y.d ∧ chkD y.d = 0 := fun y hy => by
                rcases List.mem_append.1 hy with hy | hy
                · exact ⟨(hM7.good y hy).1.back hbw7, (hM7.good y hy).2⟩
                · rw [List.mem_singleton.1 hy]; exact ⟨hosb, hcd⟩
              have hLk' : Lk (left ++ [⟨dsm.length, An, cn, d⟩]) (ddOf (dsm ++ [(⟨D, cD, d⟩ : Dl)])) (goneF gl) := by
                have := hLk.add (by rw [ddOf_len]; unfold goneF; rw [List.getD_eq_getElem?_getD, List.getElem?_eq_none (by omega)]; rfl) An cn d
                rw [ddOf_len] at this
                rw [show ddOf (dsm ++ [(⟨D, cD, d⟩ : Dl)]) = ddOf dsm ++ [d] by simp [ddOf]]
                exact this
              have hlm := hM7.low
              have q0 : Pre wb g mb gd (left ++ [⟨dsm.length, An, cn, d⟩]) dsm gl Am cm Gm cgm ⟨D, cD, d⟩ w7.drew := Pre.below ⟨hT7, hM7, hbx7, hApd, hbw7⟩ (Below.refl _ _).drew
              have HGL := hideP hgl
              have HGOOD := hideP hgood
              clear hgl
              have HLK := hideP hLk'
              clear hgood hLk' hLk hT7 hM7 hbx7 HRD hT6' hMT6 hbw6 hb7 hbx6 hos6 cd6 hbw7 hEb hAb hosb hApd
              go_wp2_with fail
              clear cg0 cg1 cd7 d60 dnn
              refine wp_region_any (by kernel_rfl) ?_
              change wpAny _ _ _ _ _ _ _ (World.drew _)
              generalize w7.drew = v7 at q0 ⊢
              have s0 := sx_of q0.mt.box q0.bx
              refine any_of_G (S := Sx mb gd (.slice Am dsm.length cm) (.slice Gm gl.length cgm) (.slice D d.length cD)) (p := 15) _ _ _ _ ?_
              refine anyG_move (i := 0) (oi := { dst := some 85, op := Op.move (Operand.tmp 7), type := 28, pos := _, after := #[], guard := none }) (v := ?v0) rfl (by decide) (by kernel_rfl) (by kernel_rfl) (by kernel_rfl) (fun _ _ _ h => h) (fun _ => s0) (Or.inl ⟨by rfl, ?hy0⟩) ?rest0
              case hy0 => (intro w; go_simp; try with_reducible rfl)
              simp only [Act.put, List.setIfInBounds_toArray, List.set_cons_zero, List.set_cons_succ]
              refine anyG_move (i := 1) (oi := { dst := some 86, op := Op.move (Operand.tmp 7), type := 28, pos := _, after := #[{ on := 17, ground := Ground.gcOnly Departure.lateStores }], guard := none }) (v := ?v1) rfl (by decide) (by kernel_rfl) (by kernel_rfl) (by kernel_rfl) (fun _ _ _ h => h) (fun _ => s0) (Or.inl ⟨by rfl, ?hy1⟩) ?rest1
              case hy1 => (intro w; go_simp; try with_reducible rfl)
              simp only [Act.put, List.setIfInBounds_toArray, List.set_cons_zero, List.set_cons_succ]
              refine anyG_move (i := 2) (oi := { dst := some 87, op := Op.move (Operand.tmp 7), type := 28, pos := _, after := #[], guard := none }) (v := ?v2) rfl (by decide) (by kernel_rfl) (by kernel_rfl) (by kernel_rfl) (fun _ _ _ h => h) (fun _ => s0) (Or.inl ⟨by rfl, ?hy2⟩) ?rest2
              case hy2 => (intro w; go_simp; try with_reducible rfl)
              simp only [Act.put, List.setIfInBounds_toArray, List.set_cons_zero, List.set_cons_succ]
              refine anyG_move (i := 3) (oi := { dst := some 88, op := Op.nilCheck (Operand.tmp 87), type := 0, pos := _, after := #[{ on := 2, ground := Ground.data }], guard := none }) (v := ?v3) rfl (by decide) (by kernel_rfl) (by kernel_rfl) (by kernel_rfl) (fun _ _ _ h => h) (fun _ => s0) (Or.inl ⟨by rfl, ?hy3⟩) ?rest3
              case hy3 => (intro w; go_simp; try with_reducible rfl)
              simp only [Act.put, List.setIfInBounds_toArray, List.set_cons_zero, List.set_cons_succ]
              refine anyG_move (i := 4) (oi := { dst := some 89, op := Op.fieldAddr 31 (Operand.tmp 88) 0, type := 0, pos := _, after := #[{ on := 3, ground := Ground.data }], guard := none }) (v := ?v4) rfl (by decide) (by kernel_rfl) (by kernel_rfl) (by kernel_rfl) (fun _ _ _ h => h) (fun _ => s0) (Or.inl ⟨by rfl, ?hy4⟩) ?rest4
              case hy4 => (intro w; go_simp; try with_reducible rfl)
              simp only [Act.put, List.setIfInBounds_toArray, List.set_cons_zero, List.set_cons_succ]
              refine anyG_load (i := 5) (oi := { dst := some 90, op := Op.load 23 (Operand.tmp 89), type := 23, pos := _, after := #[{ on := 4, ground := Ground.data }], guard := none }) (op := { dst := some 100, op := Op.nilCheck (Operand.tmp 85), type := 0, pos := _, after := #[{ on := 0, ground := Ground.data }, { on := 0, ground := Ground.phase }, { on := 1, ground := Ground.textOnly Departure.lateStores }, { on := 2, ground := Ground.phase }, { on := 3, ground := Ground.phase }, { on := 4, ground := Ground.phase }, { on := 5, ground := Ground.phase }, { on := 6, ground := Ground.phase }, { on := 7, ground := Ground.phase }, { on := 8, ground := Ground.phase }, { on := 9, ground := Ground.textOnly Departure.lateStores }, { on := 10, ground := Ground.textOnly Departure.lateStoresUnsure }, { on := 11, ground := Ground.textOnly Departure.lateStoresUnsure }, { on := 12, ground := Ground.phase }, { on := 13, ground := Ground.textOnly Departure.lateStoresUnsure }, { on := 14, ground := Ground.phase }], guard := none }) (v := ?v5) rfl rfl (by kernel_rfl) (by kernel_rfl) (by kernel_rfl) (by kernel_rfl) (fun _ _ _ h => h) (by kernel_rfl) s0 (Or.inl ⟨by rfl, ?hy5⟩) ?rest5
              case hy5 => (intro w hSw; obtain ⟨e0, e1, e2⟩ := hSw; go_simp; try with_reducible rfl)
              simp only [Act.put, List.setIfInBounds_toArray, List.set_cons_zero, List.set_cons_succ]
              refine anyG_load (i := 6) (oi := { dst := some 91, op := Op.load 36 (Operand.tmp 11), type := 36, pos := _, after := #[], guard := none }) (op := { dst := some 100, op := Op.nilCheck (Operand.tmp 85), type := 0, pos := _, after := #[{ on := 0, ground := Ground.data }, { on := 0, ground := Ground.phase }, { on := 1, ground := Ground.textOnly Departure.lateStores }, { on := 2, ground := Ground.phase }, { on := 3, ground := Ground.phase }, { on := 4, ground := Ground.phase }, { on := 5, ground := Ground.phase }, { on := 6, ground := Ground.phase }, { on := 7, ground := Ground.phase }, { on := 8, ground := Ground.phase }, { on := 9, ground := Ground.textOnly Departure.lateStores }, { on := 10, ground := Ground.textOnly Departure.lateStoresUnsure }, { on := 11, ground := Ground.textOnly Departure.lateStoresUnsure }, { on := 12, ground := Ground.phase }, { on := 13, ground := Ground.textOnly Departure.lateStoresUnsure }, { on := 14, ground := Ground.phase }], guard := none }) (v := ?v6) rfl rfl (by kernel_rfl) (by kernel_rfl) (by kernel_rfl) (by kernel_rfl) (fun _ _ _ h => h) (by kernel_rfl) s0 (Or.inl ⟨by rfl, ?hy6⟩) ?rest6
              case hy6 => (intro w hSw; obtain ⟨e0, e1, e2⟩ := hSw; go_simp; try with_reducible rfl)
              simp only [Act.put, List.setIfInBounds_toArray, List.set_cons_zero, List.set_cons_succ]
              refine anyG_move (i := 9) (oi := { dst := some 94, op := Op.move (Operand.tmp 7), type := 28, pos := _, after := #[], guard := none }) (v := ?v9) rfl (by decide) (by kernel_rfl) (by kernel_rfl) (by kernel_rfl) (fun _ _ _ h => h) (fun _ => s0) (Or.inl ⟨by rfl, ?hy9⟩) ?rest9
              case hy9 => (intro w; go_simp; try with_reducible rfl)
              simp only [Act.put, List.setIfInBounds_toArray, List.set_cons_zero, List.set_cons_succ]
              refine anyG_move (i := 10) (oi := { dst := some 95, op := Op.nilCheck (Operand.tmp 94), type := 0, pos := _, after := #[{ on := 9, ground := Ground.data }], guard := none }) (v := ?v10) rfl (by decide) (by kernel_rfl) (by kernel_rfl) (by kernel_rfl) (fun _ _ _ h => h) (fun _ => s0) (Or.inl ⟨by rfl, ?hy10⟩) ?rest10
              case hy10 => (intro w; go_simp; try with_reducible rfl)
              simp only [Act.put, List.setIfInBounds_toArray, List.set_cons_zero, List.set_cons_succ]
              refine anyG_move (i := 11) (oi := { dst := some 96, op := Op.fieldAddr 31 (Operand.tmp 95) 1, type := 0, pos := _, after := #[{ on := 10, ground := Ground.data }], guard := none }) (v := ?v11) rfl (by decide) (by kernel_rfl) (by kernel_rfl) (by kernel_rfl) (fun _ _ _ h => h) (fun _ => s0) (Or.inl ⟨by rfl, ?hy11⟩) ?rest11
              case hy11 => (intro w; go_simp; try with_reducible rfl)
              simp only [Act.put, List.setIfInBounds_toArray, List.set_cons_zero, List.set_cons_succ]
              refine anyG_load (i := 12) (oi := { dst := some 97, op := Op.load 29 (Operand.tmp 96), type := 29, pos := _, after := #[{ on := 11, ground := Ground.data }], guard := none }) (op := { dst := some 100, op := Op.nilCheck (Operand.tmp 85), type := 0, pos := _, after := #[{ on := 0, ground := Ground.data }, { on := 0, ground := Ground.phase }, { on := 1, ground := Ground.textOnly Departure.lateStores }, { on := 2, ground := Ground.phase }, { on := 3, ground := Ground.phase }, { on := 4, ground := Ground.phase }, { on := 5, ground := Ground.phase }, { on := 6, ground := Ground.phase }, { on := 7, ground := Ground.phase }, { on := 8, ground := Ground.phase }, { on := 9, ground := Ground.textOnly Departure.lateStores }, { on := 10, ground := Ground.textOnly Departure.lateStoresUnsure }, { on := 11, ground := Ground.textOnly Departure.lateStoresUnsure }, { on := 12, ground := Ground.phase }, { on := 13, ground := Ground.textOnly Departure.lateStoresUnsure }, { on := 14, ground := Ground.phase }], guard := none }) (v := ?v12) rfl rfl (by kernel_rfl) (by kernel_rfl) (by kernel_rfl) (by kernel_rfl) (fun _ _ _ h => h) (by kernel_rfl) s0 (Or.inl ⟨by rfl, ?hy12⟩) ?rest12
              case hy12 => (intro w hSw; obtain ⟨e0, e1, e2⟩ := hSw; go_simp; try with_reducible rfl)
              simp only [Act.put, List.setIfInBounds_toArray, List.set_cons_zero, List.set_cons_succ]
              refine anyG_two (i := 7) (j := 13) (o := { dst := some 92, op := Op.buildSlice 23 1 #[(0, Operand.tmp 91)], type := 23, pos := _, after := #[{ on := 6, ground := Ground.data }], guard := none }) (q := { dst := some 98, op := Op.buildSlice 29 1 #[(0, Operand.const (Value.bool false))], type := 29, pos := _, after := #[], guard := none }) (by kernel_rfl) rfl rfl rfl rfl (fun K' hK => ?b7) (fun K' hK => ?b13)
              case' b7 =>
                have qX := q0.below ((Below.refl v7.heap.size v7).alloc (Nat.le_refl _) (.cells #[.slice D d.length cD] 36))
                have xX := Box.new v7 36 #[.slice D d.length cD]
                go_simp
                generalize v7.alloc (.cells #[.slice D d.length cD] 36) = X at qX xX ⊢
                generalize v7.heap.size = gX at xX ⊢
                refine hK _ _ (fun _ => sx_of qX.mt.box qX.bx) ?_
                clear hK K'
                try simp only [Act.put, List.setIfInBounds_toArray, List.set_cons_zero, List.set_cons_succ]
                refine anyG_two (i := 8) (j := 13) (o := { dst := some 93, op := Op.call { callee := Callee.builtin Builtin.append, args := #[Operand.tmp 90, Operand.tmp 92], argTypes := #[23, 23] }, type := 23, pos := _, after := #[{ on := 5, ground := Ground.data }, { on := 7, ground := Ground.data }], guard := none }) (q := { dst := some 98, op := Op.buildSlice 29 1 #[(0, Operand.const (Value.bool false))], type := 29, pos := _, after := #[], guard := none }) (by kernel_rfl) rfl rfl rfl rfl (fun K' hK => ?b8) (fun K' hK => ?b14)
                case' b8 =>
                  obtain ⟨A1, c1, a1, ra1, ma1, kb1⟩ := qX.grow (some ⟨gX, 0, none⟩) (VS.one_ xX)
                  refine Lib.wp_append_run _ _ _ _ _ rfl (.slice Am dsm.length cm) (.slice (some ⟨gX, 0, none⟩) 1 1) rfl rfl _ _ ra1 ?_
                  refine hK _ _ (fun _ => sx_of ma1.box ma1.bx) ?_
                  clear hK K'
                  try simp only [Act.put, List.setIfInBounds_toArray, List.set_cons_zero, List.set_cons_succ]
                  refine anyG_one (i := 13) (o := { dst := some 98, op := Op.buildSlice 29 1 #[(0, Operand.const (Value.bool false))], type := 29, pos := _, after := #[], guard := none }) (by kernel_rfl) rfl rfl (fun K' hK => ?_)
                  have mY := ma1.below ((Below.refl a1.heap.size a1).alloc (Nat.le_refl _) (.cells #[.bool false] 4))
                  have yY := Box.new a1 4 #[.bool false]
                  go_simp
                  generalize a1.alloc (.cells #[.bool false] 4) = Y at mY yY ⊢
                  generalize a1.heap.size = gY at yY ⊢
                  refine hK _ _ (fun _ => sx_of mY.box mY.bx) ?_
                  clear hK K'
                  try simp only [Act.put, List.setIfInBounds_toArray, List.set_cons_zero, List.set_cons_succ]
                  refine anyG_one (i := 14) (o := { dst := some 99, op := Op.call { callee := Callee.builtin Builtin.append, args := #[Operand.tmp 97, Operand.tmp 98], argTypes := #[29, 29] }, type := 29, pos := _, after := #[{ on := 12, ground := Ground.data }, { on := 13, ground := Ground.data }, { on := 8, ground := Ground.chain }], guard := none }) (by kernel_rfl) rfl rfl (fun K' hK => ?_)
                  obtain ⟨G1, h1, a2, ra2, xa2, ya2, hne, pa2⟩ := mY.grow HGL.out (by omega) hlm HGOOD.out HLK.out (some ⟨gY, 0, none⟩) (VS.one_ yY)
                  refine Lib.wp_append_run _ _ _ _ _ rfl (.slice Gm gl.length cgm) (.slice (some ⟨gY, 0, none⟩) 1 1) rfl rfl _ _ ra2 ?_
                  refine hK _ _ (fun _ => sx_of xa2 ya2) ?_
                  clear hK K'
                  try simp only [Act.put, List.setIfInBounds_toArray, List.set_cons_zero, List.set_cons_succ]
                  clear ra1 ma1 kb1 mY yY ra2 qX xX
                case' b14 =>
                  have qY := qX.below ((Below.refl X.heap.size X).alloc (Nat.le_refl _) (.cells #[.bool false] 4))
                  have xY := xX.alloc (.cells #[.bool false] 4)
                  have yY := Box.new X 4 #[.bool false]
                  go_simp
                  generalize X.alloc (.cells #[.bool false] 4) = Y at qY xY yY ⊢
                  generalize X.heap.size = gY at yY ⊢
                  refine hK _ _ (fun _ => sx_of qY.mt.box qY.bx) ?_
                  clear hK K'
                  try simp only [Act.put, List.setIfInBounds_toArray, List.set_cons_zero, List.set_cons_succ]
                  refine anyG_one (i := 8) (o := { dst := some 93, op := Op.call { callee := Callee.builtin Builtin.append, args := #[Operand.tmp 90, Operand.tmp 92], argTypes := #[23, 23] }, type := 23, pos := _, after := #[{ on := 5, ground := Ground.data }, { on := 7, ground := Ground.data }], guard := none }) (by kernel_rfl) rfl rfl (fun K' hK => ?_)
                  obtain ⟨A1, c1, a1, ra1, ma1, kb1⟩ := qY.grow (some ⟨gX, 0, none⟩) (VS.one_ xY)
                  refine Lib.wp_append_run _ _ _ _ _ rfl (.slice Am dsm.length cm) (.slice (some ⟨gX, 0, none⟩) 1 1) rfl rfl _ _ ra1 ?_
                  refine hK _ _ (fun _ => sx_of ma1.box ma1.bx) ?_
                  clear hK K'
                  try simp only [Act.put, List.setIfInBounds_toArray, List.set_cons_zero, List.set_cons_succ]
                  have yY1 := kb1 _ _ yY
                  refine anyG_one (i := 14) (o := { dst := some 99, op := Op.call { callee := Callee.builtin Builtin.append, args := #[Operand.tmp 97, Operand.tmp 98], argTypes := #[29, 29] }, type := 29, pos := _, after := #[{ on := 12, ground := Ground.data }, { on := 13, ground := Ground.data }, { on := 8, ground := Ground.chain }], guard := none }) (by kernel_rfl) rfl rfl (fun K' hK => ?_)
                  obtain ⟨G1, h1, a2, ra2, xa2, ya2, hne, pa2⟩ := ma1.grow HGL.out (by omega) hlm HGOOD.out HLK.out (some ⟨gY, 0, none⟩) (VS.one_ yY1)
                  refine Lib.wp_append_run _ _ _ _ _ rfl (.slice Gm gl.length cgm) (.slice (some ⟨gY, 0, none⟩) 1 1) rfl rfl _ _ ra2 ?_
                  refine hK _ _ (fun _ => sx_of xa2 ya2) ?_
                  clear hK K'
                  try simp only [Act.put, List.setIfInBounds_toArray, List.set_cons_zero, List.set_cons_succ]
                  clear ra1 ma1 kb1 qY xY yY yY1 ra2 qX xX
              case' b13 =>
                have qY := q0.below ((Below.refl v7.heap.size v7).alloc (Nat.le_refl _) (.cells #[.bool false] 4))
                have yY := Box.new v7 4 #[.bool false]
                go_simp
                generalize v7.alloc (.cells #[.bool false] 4) = Y at qY yY ⊢
                generalize v7.heap.size = gY at yY ⊢
                refine hK _ _ (fun _ => sx_of qY.mt.box qY.bx) ?_
                clear hK K'
                try simp only [Act.put, List.setIfInBounds_toArray, List.set_cons_zero, List.set_cons_succ]
                refine anyG_one (i := 7) (o := { dst := some 92, op := Op.buildSlice 23 1 #[(0, Operand.tmp 91)], type := 23, pos := _, after := #[{ on := 6, ground := Ground.data }], guard := none }) (by kernel_rfl) rfl rfl (fun K' hK => ?_)
                have qX := qY.below ((Below.refl Y.heap.size Y).alloc (Nat.le_refl _) (.cells #[.slice D d.length cD] 36))
                have yX := yY.alloc (.cells #[.slice D d.length cD] 36)
                have xX := Box.new Y 36 #[.slice D d.length cD]
                go_simp
                generalize Y.alloc (.cells #[.slice D d.length cD] 36) = X at qX yX xX ⊢
                generalize Y.heap.size = gX at xX ⊢
                refine hK _ _ (fun _ => sx_of qX.mt.box qX.bx) ?_
                clear hK K'
                try simp only [Act.put, List.setIfInBounds_toArray, List.set_cons_zero, List.set_cons_succ]
                refine anyG_one (i := 8) (o := { dst := some 93, op := Op.call { callee := Callee.builtin Builtin.append, args := #[Operand.tmp 90, Operand.tmp 92], argTypes := #[23, 23] }, type := 23, pos := _, after := #[{ on := 5, ground := Ground.data }, { on := 7, ground := Ground.data }], guard := none }) (by kernel_rfl) rfl rfl (fun K' hK => ?_)
                obtain ⟨A1, c1, a1, ra1, ma1, kb1⟩ := qX.grow (some ⟨gX, 0, none⟩) (VS.one_ xX)
                refine Lib.wp_append_run _ _ _ _ _ rfl (.slice Am dsm.length cm) (.slice (some ⟨gX, 0, none⟩) 1 1) rfl rfl _ _ ra1 ?_
                refine hK _ _ (fun _ => sx_of ma1.box ma1.bx) ?_
                clear hK K'
                try simp only [Act.put, List.setIfInBounds_toArray, List.set_cons_zero, List.set_cons_succ]
                have yY1 := kb1 _ _ yX
                refine anyG_one (i := 14) (o := { dst := some 99, op := Op.call { callee := Callee.builtin Builtin.append, args := #[Operand.tmp 97, Operand.tmp 98], argTypes := #[29, 29] }, type := 29, pos := _, after := #[{ on := 12, ground := Ground.data }, { on := 13, ground := Ground.data }, { on := 8, ground := Ground.chain }], guard := none }) (by kernel_rfl) rfl rfl (fun K' hK => ?_)
                obtain ⟨G1, h1, a2, ra2, xa2, ya2, hne, pa2⟩ := ma1.grow HGL.out (by omega) hlm HGOOD.out HLK.out (some ⟨gY, 0, none⟩) (VS.one_ yY1)
                refine Lib.wp_append_run _ _ _ _ _ rfl (.slice Gm gl.length cgm) (.slice (some ⟨gY, 0, none⟩) 1 1) rfl rfl _ _ ra2 ?_
                refine hK _ _ (fun _ => sx_of xa2 ya2) ?_
                clear hK K'
                try simp only [Act.put, List.setIfInBounds_toArray, List.set_cons_zero, List.set_cons_succ]
                clear ra1 ma1 kb1 qY yY qX yX xX yY1 ra2
              all_goals
                have s2 := sx_of xa2 ya2
                have f0 := xa2.frozen 0
                have c20 := xa2.cell 0 (v := .slice Am dsm.length cm) rfl
                have t2 := xa2.set 0 (.slice A1 (dsm.length + 1) c1)
                have c21 := t2.cell 1 (v := .slice Gm gl.length cgm) rfl
                have f1 := t2.frozen 1
                have HP2 := hideP pa2
                clear xa2 ya2 pa2 t2 q0 s0
                refine anyG_one (i := 15) (o := { dst := some 100, op := Op.nilCheck (Operand.tmp 85), type := 0, pos := _, after := #[{ on := 0, ground := Ground.data }, { on := 0, ground := Ground.phase }, { on := 1, ground := Ground.textOnly Departure.lateStores }, { on := 2, ground := Ground.phase }, { on := 3, ground := Ground.phase }, { on := 4, ground := Ground.phase }, { on := 5, ground := Ground.phase }, { on := 6, ground := Ground.phase }, { on := 7, ground := Ground.phase }, { on := 8, ground := Ground.phase }, { on := 9, ground := Ground.textOnly Departure.lateStores }, { on := 10, ground := Ground.textOnly Departure.lateStoresUnsure }, { on := 11, ground := Ground.textOnly Departure.lateStoresUnsure }, { on := 12, ground := Ground.phase }, { on := 13, ground := Ground.textOnly Departure.lateStoresUnsure }, { on := 14, ground := Ground.phase }], guard := none }) (by kernel_rfl) rfl rfl (fun K' hK => ?_)
                go_simp
                refine hK _ _ (fun _ => s2) ?_
                clear hK K'
                try simp only [Act.put, List.setIfInBounds_toArray, List.set_cons_zero, List.set_cons_succ]
                refine anyG_one (i := 16) (o := { dst := some 101, op := Op.fieldAddr 31 (Operand.tmp 100) 0, type := 0, pos := _, after := #[{ on := 15, ground := Ground.data }, { on := 0, ground := Ground.phase }, { on := 1, ground := Ground.textOnly Departure.lateStores }, { on := 2, ground := Ground.phase }, { on := 3, ground := Ground.phase }, { on := 4, ground := Ground.phase }, { on := 5, ground := Ground.phase }, { on := 6, ground := Ground.phase }, { on := 7, ground := Ground.phase }, { on := 8, ground := Ground.phase }, { on := 9, ground := Ground.textOnly Departure.lateStores }, { on := 10, ground := Ground.textOnly Departure.lateStoresUnsure }, { on := 11, ground := Ground.textOnly Departure.lateStoresUnsure }, { on := 12, ground := Ground.phase }, { on := 13, ground := Ground.textOnly Departure.lateStoresUnsure }, { on := 14, ground := Ground.phase }], guard := none }) (by kernel_rfl) rfl rfl (fun K' hK => ?_)
                go_simp
                refine hK _ _ (fun _ => s2) ?_
                clear hK K'
                try simp only [Act.put, List.setIfInBounds_toArray, List.set_cons_zero, List.set_cons_succ]
                refine anyG_one (i := 17) (o := { dst := none, op := Op.store 23 (Operand.tmp 101) (Operand.tmp 93), type := 0, pos := _, after := #[{ on := 16, ground := Ground.data }, { on := 8, ground := Ground.data }, { on := 14, ground := Ground.chain }, { on := 0, ground := Ground.phase }, { on := 1, ground := Ground.textOnly Departure.lateStores }, { on := 2, ground := Ground.phase }, { on := 3, ground := Ground.phase }, { on := 4, ground := Ground.phase }, { on := 5, ground := Ground.phase }, { on := 6, ground := Ground.phase }, { on := 7, ground := Ground.phase }, { on := 8, ground := Ground.phase }, { on := 9, ground := Ground.textOnly Departure.lateStores }, { on := 10, ground := Ground.textOnly Departure.lateStoresUnsure }, { on := 11, ground := Ground.textOnly Departure.lateStoresUnsure }, { on := 12, ground := Ground.phase }, { on := 13, ground := Ground.textOnly Departure.lateStoresUnsure }, { on := 14, ground := Ground.phase }], guard := none }) (by kernel_rfl) rfl rfl (fun K' hK => ?_)
                go_simp
                refine hK _ _ (fun h => tf_no (by kernel_rfl) h) ?_
                clear hK K'
                try simp only [Act.put, List.setIfInBounds_toArray, List.set_cons_zero, List.set_cons_succ]
                refine anyG_one (i := 18) (o := { dst := some 102, op := Op.nilCheck (Operand.tmp 86), type := 0, pos := _, after := #[{ on := 1, ground := Ground.data }, { on := 0, ground := Ground.phase }, { on := 1, ground := Ground.phase }, { on := 2, ground := Ground.phase }, { on := 3, ground := Ground.phase }, { on := 4, ground := Ground.phase }, { on := 5, ground := Ground.phase }, { on := 6, ground := Ground.phase }, { on := 7, ground := Ground.phase }, { on := 8, ground := Ground.phase }, { on := 9, ground := Ground.phase }, { on := 10, ground := Ground.phase }, { on := 11, ground := Ground.phase }, { on := 12, ground := Ground.phase }, { on := 13, ground := Ground.phase }, { on := 14, ground := Ground.phase }, { on := 15, ground := Ground.phase }, { on := 16, ground := Ground.phase }, { on := 17, ground := Ground.phase }], guard := none }) (by kernel_rfl) rfl rfl (fun K' hK => ?_)
                go_simp
                refine hK _ _ (fun h => tf_no (by kernel_rfl) h) ?_
                clear hK K'
                try simp only [Act.put, List.setIfInBounds_toArray, List.set_cons_zero, List.set_cons_succ]
                refine anyG_one (i := 19) (o := { dst := some 103, op := Op.fieldAddr 31 (Operand.tmp 102) 1, type := 0, pos := _, after := #[{ on := 18, ground := Ground.data }, { on := 0, ground := Ground.phase }, { on := 1, ground := Ground.phase }, { on := 2, ground := Ground.phase }, { on := 3, ground := Ground.phase }, { on := 4, ground := Ground.phase }, { on := 5, ground := Ground.phase }, { on := 6, ground := Ground.phase }, { on := 7, ground := Ground.phase }, { on := 8, ground := Ground.phase }, { on := 9, ground := Ground.phase }, { on := 10, ground := Ground.phase }, { on := 11, ground := Ground.phase }, { on := 12, ground := Ground.phase }, { on := 13, ground := Ground.phase }, { on := 14, ground := Ground.phase }, { on := 15, ground := Ground.phase }, { on := 16, ground := Ground.phase }, { on := 17, ground := Ground.phase }], guard := none }) (by kernel_rfl) rfl rfl (fun K' hK => ?_)
                go_simp
                refine hK _ _ (fun h => tf_no (by kernel_rfl) h) ?_
                clear hK K'
                try simp only [Act.put, List.setIfInBounds_toArray, List.set_cons_zero, List.set_cons_succ]
                refine anyG_one (i := 20) (o := { dst := none, op := Op.store 29 (Operand.tmp 103) (Operand.tmp 99), type := 0, pos := _, after := #[{ on := 19, ground := Ground.data }, { on := 14, ground := Ground.data }, { on := 17, ground := Ground.chain }, { on := 0, ground := Ground.phase }, { on := 1, ground := Ground.phase }, { on := 2, ground := Ground.phase }, { on := 3, ground := Ground.phase }, { on := 4, ground := Ground.phase }, { on := 5, ground := Ground.phase }, { on := 6, ground := Ground.phase }, { on := 7, ground := Ground.phase }, { on := 8, ground := Ground.phase }, { on := 9, ground := Ground.phase }, { on := 10, ground := Ground.phase }, { on := 11, ground := Ground.phase }, { on := 12, ground := Ground.phase }, { on := 13, ground := Ground.phase }, { on := 14, ground := Ground.phase }, { on := 15, ground := Ground.phase }, { on := 16, ground := Ground.phase }, { on := 17, ground := Ground.phase }], guard := none }) (by kernel_rfl) rfl rfl (fun K' hK => ?_)
                go_simp
                refine hK _ _ (fun h => tf_no (by kernel_rfl) h) ?_
                clear hK K'
                try simp only [Act.put, List.setIfInBounds_toArray, List.set_cons_zero, List.set_cons_succ]
                refine anyG_done (by kernel_rfl) ?_ _
                go_wp2_with fail
                go_meet
                case rel => exact HP2.out
          · have hav : addV dsm.length d = (0, chkD d) := by unfold addV; rw [if_neg hcd]
            rw [hav] at he hT6
            subst he
            have hT6' : TB w6 wb.heap.size g dsm.length left := by
              rcases hT6 with ⟨h, _⟩ | ⟨_, h⟩
              · exact absurd h hcd
              · exact h
            have dz1 : (chkD d == 0) = false := beq_false_of_ne hcd
            have dz2 : (chkD d != 0) = true := by simp [hcd]
            have dz3 : (chkD d != chkD d) = false := by simp
            clear hT6 hav
            generalize chkD d = z at HRD dz1 dz2 dz3 hcd ⊢
            go_wp2_with fail
            refine HRD.out.mono ?_
            rintro e w7 ⟨rfl, hb7⟩
            have HP := hideP (show PSt wb g mb w7 from ⟨left, dsm, gl, hT6'.below hb7, ⟨_, _, _, _, hMT6.below hb7⟩, hLk, hbw6.trans (hb7.mono hbw6.size)⟩)
            clear HRD hT6' hMT6 hbw6 hb7 hLk hbx6 hos6 cd6
            go_wp2_with fail
            go_roundw
            case rel => exact ⟨t + 1, by omega, by go_num, HP.out⟩
            case measure => simp [intOf]; omega
        · by_cases h2 : tg = 2
          · subst h2
            have hgl : gl.length = dsm.length := by obtain ⟨_, _, _, _, h⟩ := hMT; exact h.len
            have hm60 : dsm.length ≤ 60 := by obtain ⟨_, _, _, _, h⟩ := hMT; exact h.most
            have HFR := hideP (free_any g wb.heap.size dsm.length left kz wq hTB hbw.size)
            clear h1
            cases hiv : isV gl kz
            · have hfv : freeV left kz = 4 := hLk.freeV_no (by rw [ddOf_len]; exact isV_false hiv hgl)
              clear hTB
              go_wp2_with fail
              refine HFR.out.mono ?_
              rintro e w4 ⟨he, hT4, hK4⟩
              rw [hfv] at he hT4
              rw [if_neg (by decide)] at hT4
              subst he
              have hM4 := hMT.kp hK4
              have hbw4 := hbw.trans hK4.bel
              have HIS := hideP (mis_any mb wb.heap.size dsm gl kz w4 hM4.mr)
              rw [hiv] at HIS
              clear HFR hMT hbw hK4 hfv hiv
              go_wp2_with fail
              refine HIS.out.mono ?_
              rintro e w5 ⟨rfl, hb5⟩
              have HP := hideP (show PSt wb g mb w5 from ⟨left, dsm, gl, hT4.below hb5, hM4.below hb5, hLk, hbw4.trans (hb5.mono hbw4.size)⟩)
              clear HIS hT4 hM4 hLk hbw4 hb5
              go_wp2_with fail
              go_meet
              case rel => exact HP.out
            · obtain ⟨k, rfl, hk, hgk⟩ := isV_true hiv
              have hfv := hLk.freeV_ (k := k) (by rw [ddOf_len]; omega)
              rw [hgk] at hfv
              clear hTB
              go_wp2_with fail
              refine HFR.out.mono ?_
              rintro e w4 ⟨he, hT4, hK4⟩
              have hM4 := hMT.kp hK4
              have hbw4 := hbw.trans hK4.bel
              have HIS := hideP (mis_any mb wb.heap.size dsm gl (k : Int) w4 hM4.mr)
              rw [hiv] at HIS
              clear HFR hMT hbw hK4 hiv
              cases hwt : wtB (ddOf dsm) (goneF gl) k k
              · rw [hwt] at hfv
                have hf0 : freeV left (k : Int) = 0 := hfv
                rw [hf0] at he hT4
                rw [if_pos rfl] at hT4
                subst he
                clear hfv hf0
                go_wp2_with fail
                refine HIS.out.mono ?_
                rintro e w5 ⟨rfl, hb5⟩
                have hT5 := hT4.below hb5
                have hM5 := hM4.below hb5
                have hbw5 := hbw4.trans (hb5.mono hbw4.size)
                clear HIS hT4 hM4 hbw4 hb5
                have HMM := hideP (mmay_any mb wb.heap.size dsm gl k w5 hM5.mr (by omega))
                rw [hwt] at HMM
                go_wp2_with fail
                refine HMM.out.mono ?_
                rintro e w6 ⟨rfl, hb6⟩
                have hT6 := hT5.below hb6
                have hM6 := hM5.below hb6
                have hbw6 := hbw5.trans (hb6.mono hbw5.size)
                clear HMM hT5 hM5 hbw5 hb6 hwt
                obtain ⟨Am, cm, Gm, cgm, hmx⟩ := hM6
                obtain ⟨gb, rfl, hgbl, hgbs⟩ : ∃ gb, Gm = some ⟨gb, 0, none⟩ ∧ wb.heap.size ≤ gb ∧ gb < w6.heap.size := by
                  obtain ⟨gb, cap, hv, h1, h2⟩ := World.ownsRow.form hmx.gone (by simpa using (by omega : 0 < gl.length))
                  injection hv with a _ _
                  exact ⟨gb, a, h1, h2⟩
                have cg1 := hmx.box.cell 1 (v := .slice (some ⟨gb, 0, none⟩) gl.length cgm) rfl
                obtain ⟨bb, oo, eG, _, yk⟩ := hmx.gone.vs k (.bool gl[k]) (by simp [hk])
                injection eG with eG
                injection eG with e3 e4 _
                subst e3; subst e4
                rw [Nat.zero_add] at yk
                have fz := hmx.gone.frozen_ k
                have hgrow := grown_setCell w6 ⟨gb, k, none⟩ (.bool true)
                have HP := hideP (show PSt wb g mb (w6.setCell ⟨gb, k, none⟩ (.bool true)) from ⟨_, dsm, gl.set k true, hT6.grown hgrow (fun b hb => by injection hb with hb; subst hb; exact ⟨_, hmx.gone.ty_, by decide, by decide, by decide, by decide⟩), ⟨_, _, _, _, hmx.set_ hk⟩, by
                    have := hLk.free k
                    rw [show (fun i => goneF gl i || decide (i = k)) = goneF (gl.set k true) from funext fun j => by
                      unfold goneF
                      rw [getD_set_ gl hk]
                      by_cases e : j = k
                      · subst e; simp
                      · simp [e]] at this
                    exact this, hbw6.grown hgrow hbw6.size (fun b hb => by injection hb with hb; subst hb; exact hgbl)⟩)
                clear hT6 hmx hLk hbw6 hgrow hgk
                generalize gl[k] = z at yk
                have g3 : (0 : Int) ≤ (k : Int) := by omega
                have g4 : (k : Int) < (gl.length : Int) := by omega
                go_wp2_with fail
                go_meet
                case rel => exact HP.out
              · rw [hwt] at hfv
                have hf0 : freeV left (k : Int) = 6 := hfv
                rw [hf0] at he hT4
                rw [if_neg (by decide)] at hT4
                subst he
                clear hfv hf0
                go_wp2_with fail
                refine HIS.out.mono ?_
                rintro e w5 ⟨rfl, hb5⟩
                have hT5 := hT4.below hb5
                have hM5 := hM4.below hb5
                have hbw5 := hbw4.trans (hb5.mono hbw4.size)
                clear HIS hT4 hM4 hbw4 hb5
                have HMM := hideP (mmay_any mb wb.heap.size dsm gl k w5 hM5.mr (by omega))
                rw [hwt] at HMM
                go_wp2_with fail
                refine HMM.out.mono ?_
                rintro e w6 ⟨rfl, hb6⟩
                have HP := hideP (show PSt wb g mb w6 from ⟨left, dsm, gl, hT5.below hb6, hM5.below hb6, hLk, hbw5.trans (hb6.mono hbw5.size)⟩)
                clear HMM hT5 hM5 hLk hbw5 hb6 hwt
                go_wp2_with fail
                go_meet
                case rel => exact HP.out
          · have d1 : (tg == 1) = false := beq_false_of_ne h1
            have d2 : (tg == 2) = false := beq_false_of_ne h2
            have HP := hideP (show PSt wb g mb wq from ⟨left, dsm, gl, hTB, hMT, hLk, hbw⟩)
            clear hTB hMT hLk
            go_wp2_with fail
            go_meet
            case rel => exact HP.out
      case rest =>
        obtain ⟨left, dsm, gl, hTB, hMT, hLk, hbw⟩ := hcut
        have hgl : gl.length = dsm.length := by obtain ⟨_, _, _, _, h⟩ := hMT; exact h.len
        have hm60 : dsm.length ≤ 60 := by obtain ⟨_, _, _, _, h⟩ := hMT; exact h.most
        have HMY := hideP (may_any g wb.heap.size dsm.length left kz wc hTB)
        go_wp2_with fail
        refine HMY.out.mono ?_
        rintro e w4 ⟨rfl, hb4⟩
        have hTB4 := hTB.below hb4
        have hMT4 := hMT.below hb4
        have hbw4 := hbw.trans (hb4.mono hbw.size)
        clear HMY hTB hMT hbw hb4
        have HIS := hideP (mis_any mb wb.heap.size dsm gl kz w4 hMT4.mr)
        cases hiv : isV gl kz
        case' false =>
          rw [hiv] at HIS
          have hmv : mayV left kz = (false, 4) := hLk.mayV_no (by rw [ddOf_len]; exact isV_false hiv hgl)
          rw [hmv]
          clear hmv hiv
          go_wp2_with fail
          refine HIS.out.mono ?_
          rintro e w5 ⟨rfl, hb5⟩
          have hTB5 := hTB4.below hb5
          have hMT5 := hMT4.below hb5
          have hbw5 := hbw4.trans (hb5.mono hbw4.size)
          clear HIS hTB4 hMT4 hbw4 hb5
          have hMTx := hMT5
          obtain ⟨Am, cm, Gm, cgm, hmx⟩ := hMTx
          have cg1 := hmx.box.cell 1 (v := .slice Gm gl.length cgm) rfl
          have hgvs := hmx.gone.vs
          clear hmx
          go_wp2_with fail
        case' true =>
          rw [hiv] at HIS
          obtain ⟨k, rfl, hk, hgk⟩ := isV_true hiv
          have hmv : mayV left (k : Int) = (!wtB (ddOf dsm) (goneF gl) k k, 0) := hLk.mayV_ (by rw [ddOf_len]; omega) hgk
          rw [hmv]
          clear hmv hiv hgk
          generalize hwt : wtB (ddOf dsm) (goneF gl) k k = wt
          have HWT := hideP hwt
          clear hwt
          go_wp2_with fail
          refine HIS.out.mono ?_
          rintro e wi ⟨rfl, hbi⟩
          have hTBi := hTB4.below hbi
          have hMTi := hMT4.below hbi
          have hbwi := hbw4.trans (hbi.mono hbw4.size)
          clear HIS hTB4 hMT4 hbw4 hbi
          have HMM := hideP (mmay_any mb wb.heap.size dsm gl k wi hMTi.mr (by omega))
          rw [HWT.out] at HMM
          have dn : ((!wt) != (!wt)) = false := by cases wt <;> rfl
          go_wp2_with fail
          refine HMM.out.mono ?_
          rintro e w5 ⟨rfl, hb5⟩
          have hTB5 := hTBi.below hb5
          have hMT5 := hMTi.below hb5
          have hbw5 := hbwi.trans (hb5.mono hbwi.size)
          clear HMM hTBi hMTi hbwi hb5 HWT
          have hMTx := hMT5
          obtain ⟨Am, cm, Gm, cgm, hmx⟩ := hMTx
          have cg1 := hmx.box.cell 1 (v := .slice Gm gl.length cgm) rfl
          have hgvs := hmx.gone.vs
          clear hmx
          go_wp2_with fail
        all_goals
          go_loopw [18, 160] (CntInv w5 gl) (fun _ i _ => gl.length - (intOf i).toNat)
          case atStart => exact ⟨0, Nat.zero_le _, rfl, rfl, rfl⟩
          case round =>
            obtain ⟨i, hi, rfl, rfl, rfl⟩ := hrel
            have hcl := cntR_le gl i
            by_cases hil : i < gl.length
            · obtain ⟨b7, o7, rfl, hbl7, q7⟩ := hgvs i (.bool gl[i]) (by simp [hil])
              have hgi : goneF gl i = gl[i] := by simp [goneF, List.getD_eq_getElem?_getD, hil]
              have HC := hideP (cntR_succ gl i)
              rw [hgi] at HC
              clear hgi hgvs
              generalize gl[i] = z at q7 HC
              have g3 : (0 : Int) ≤ (i : Int) := by omega
              have g4 : (i : Int) < (gl.length : Int) := by omega
              clear hTB5 hMT5 hLk
              cases z
              · have HC2 : Hid (cntR gl (i + 1) = cntR gl i + 1) := HC
                go_wp2_with fail
                go_roundw
                case rel => exact ⟨i + 1, by omega, by go_num, by rw [HC2.out]; go_num, rfl⟩
                case measure => simp [intOf]; omega
              · have HC2 : Hid (cntR gl (i + 1) = cntR gl i) := HC
                go_wp2_with fail
                go_roundw
                case rel => exact ⟨i + 1, by omega, by go_num, by rw [HC2.out], rfl⟩
                case measure => simp [intOf]; omega
            · obtain rfl : i = gl.length := by omega
              have hcnt : cntR gl gl.length = left.length := by rw [hLk.len, ddOf_len, hgl]; rfl
              have hrdl : rdyL left left = mrdL dsm gl dsm.length := by rw [hLk.rdy, ddOf_len]; rfl
              rw [hcnt]
              have HRD := hideP (ready_any g wb.heap.size dsm.length left _ hTB5)
              rw [hrdl] at HRD
              have hml := mrdL_len dsm gl dsm.length
              clear hcnt hrdl hgvs cg1 hcl
              go_wp2_with fail
              refine HRD.out.mono ?_
              rintro e w6 ⟨A6, c6, rfl, hO6, hb6⟩
              have hTB6 := hTB5.below hb6
              have hMT6 := hMT5.below hb6
              have hbw6 := hbw5.trans (hb6.mono hbw5.size)
              clear HRD hTB5 hMT5 hbw5 hb6
              have HMR := hideP (mready_any mb wb.heap.size dsm gl w6 hMT6.mr)
              go_wp2_with fail
              refine HMR.out.mono ?_
              rintro e w7 ⟨A7, c7, rfl, hO7, hb7⟩
              have hTB7 := hTB6.below hb7
              have hMT7 := hMT6.below hb7
              have hbw7 := hbw6.trans (hb7.mono hbw6.size)
              have hO6b := hO6.below hb7
              clear HMR hTB6 hMT6 hbw6 hb7 hO6
              have HEQ := hideP (iequal_same A6 A7 c6 c7 (mrdL dsm gl dsm.length) w7 hO6b.vs hO7.vs (by omega))
              clear hO6b hO7
              go_wp2_with fail
              refine HEQ.out.mono ?_
              rintro e w8 ⟨rfl, hb8⟩
              have hTB8 := hTB7.below hb8
              have hMT8 := hMT7.below hb8
              have hbw8 := hbw7.trans (hb8.mono hbw7.size)
              clear HEQ hTB7 hMT7 hbw7 hb8
              have HLF := hideP (left_any g wb.heap.size dsm.length left w8 hTB8)
              go_wp2_with fail
              refine HLF.out.mono ?_
              rintro e w9 ⟨rfl, hb9⟩
              have HPS := hideP (show PSt wb g mb w9 from ⟨left, dsm, gl, hTB8.below hb9, hMT8.below hb9, hLk, hbw8.trans (hb9.mono hbw8.size)⟩)
              have dl : ((left.length : Int) != (left.length : Int)) = false := by simp
              clear HLF hTB8 hMT8 hbw8 hb9 hLk
              go_wp2_with fail
              go_roundw
              case rel => exact ⟨t + 1, by omega, by go_num, HPS.out⟩
              case measure => simp [intOf]; omega
    · clear hTB hMT hLk
      have hfin := hbb.trans (hbw.mono hbb.size)
      go_wp2_with fail
      go_ret
      exact ⟨rfl, hfin⟩
end Go.Proofs.YtgcnbifgnaepnaaDoor
