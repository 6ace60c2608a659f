/-
  text.ReadDeed: what it reads.
-/
import Derived.Test.YtmepmiokpcddbabGreatDoorCa15
import Derived.Test.YtmepmiokpcddbabGreatDoorCa8
import Derived.Test.YtmepmiokpcddbabGreatDoorCa5
import Derived.Test.YtmepmiokpcddbabGreatDoorCa4
set_option linter.unusedVariables false
set_option linter.unusedSimpArgs false
namespace Go.Proofs.YtmepmiokpcddbabGreatDoor
open Go.RowKit
open Go.Lib hiding intOf

theorem grown_set1 (w : World) (g i : Nat) (v : Value) : w.grownBy (w.setCell ⟨g, i, none⟩ v) (some g) := ⟨rfl, rfl, rfl, by simp [World.setCell], fun j _ hne => Below.heap_setCell w _ _ j (fun e => hne (by rw [e]))⟩
theorem OO.set1 {w : World} {B g i : Nat} {u : TypeId} {D : Option Addr} {c : Nat} {d : List Opr} {v : Value} (h : OO w B D c d) (ht : Ty w g u) (hne : 93 ≠ u) : OO (w.setCell ⟨g, i, none⟩ v) B D c d := World.ownsRow.kept h (grown_set1 w g i v) (own_ne h ht hne)
/-- the transaction while it is read -/
structure Rd (w : World) (gr gm gw B : Nat) (ws : Array Value) (D : Option Addr) (c : Nat) (d : List Opr) (wr : World) : Prop where
  box : Box wr gm 24 #[.slice D d.length c]
  res : Box wr gr 24 #[.slice none 0 0]
  wd : Box wr gw 9 ws
  oo : OO wr B D c d
  wB : w.heap.size ≤ B
  BB : B ≤ wr.heap.size
  ne : gm ≠ gr
  lowm : w.heap.size ≤ gm
  lowr : w.heap.size ≤ gr
  bel : Below w.heap.size w wr
section
variable {w wr w' : World} {gr gm gw B : Nat} {ws : Array Value} {D : Option Addr} {c : Nat} {d : List Opr}
theorem Rd.below (h : Rd w gr gm gw B ws D c d wr) (hb : Below wr.heap.size wr w') : Rd w gr gm gw B ws D c d w' :=
  ⟨h.box.below hb, h.res.below hb, h.wd.below hb, h.oo.below hb, h.wB, Nat.le_trans h.BB hb.size, h.ne, h.lowm, h.lowr, h.bel.trans (hb.mono h.bel.size)⟩
set_option maxRecDepth 100000 in
theorem Rd.add (h : Rd w gr gm gw B ws D c d wr) (o : Opr) (hl : d.length ≤ 5000000000) :
    ∃ D' c' a1, (Builtin.append_ #[22, 22] 22 #[.slice D d.length c, .slice (some ⟨wr.heap.size, 0, none⟩) 1 1]).run Tryz.prog (wr.alloc (.cells #[.int .i64 o.kind, .string o.key, .string o.src, .int .i64 o.n] 93)) = .ok (.slice D' (d ++ [o]).length c') a1 ∧
      Box a1 gm 24 #[.slice D d.length c] ∧ Rd w gr gm gw B ws D' c' (d ++ [o]) (a1.setCell ⟨gm, 0, none⟩ (.slice D' (d ++ [o]).length c')) := by
  obtain ⟨D', c', a1, hrun, ho1, hgr1, hbl1, _⟩ := app_op wr B 22 D c d h.oo o hl h.BB
  have hal1 := (Below.refl wr.heap.size wr).alloc (Nat.le_refl _) (.cells #[.int .i64 o.kind, .string o.key, .string o.src, .int .i64 o.n] 93)
  have h1 := h.below hal1
  have hcty : ∀ b, blk D = some b → Ty (wr.alloc (.cells #[.int .i64 o.kind, .string o.key, .string o.src, .int .i64 o.n] 93)) b 93 := fun b hb => own_ty h1.oo (by rw [ownBlock_slice]; exact hb)
  have hbx1 := h1.box.grown hgr1 fun e => absurd ((hcty _ e.symm).inj h1.box.ty) (by decide)
  have hrs1 := h1.res.grown hgr1 fun e => absurd ((hcty _ e.symm).inj h1.res.ty) (by decide)
  have hwd1 := h1.wd.grown hgr1 fun e => absurd ((hcty _ e.symm).inj h1.wd.ty) (by decide)
  have hb1 := hbl1 w.heap.size w h.wB h.bel
  have hS : B ≤ a1.heap.size := Nat.le_trans h1.BB hgr1.size
  refine ⟨D', c', a1, hrun, hbx1, ?_⟩
  have hT := hbx1.set 0 (.slice D' (d ++ [o]).length c')
  refine ⟨?_, hrs1.other h.ne _, hwd1.other (fun e => ?_) _, ho1.set1 hbx1.ty (by decide), h.wB, by simpa [World.setCell] using hS, h.ne, h.lowm, h.lowr, below_set1 hb1 h.lowm⟩
  · simpa using hT
  · have e : gm = gw := e
    subst e
    exact absurd (hbx1.ty.inj hwd1.ty) (by decide)
end
/-- what ReadDeed hands back -/
def RetRd (w : World) (l : List UInt8) (e : Ending) (w' : World) : Prop :=
  ∃ (D : Option Addr) (c : Nat) (d : List Opr), e = .returned (.tuple #[.agg #[.slice D d.length c], .int .i64 (rdD l).1]) ∧ (rdD l).2 = d ∧ OO w' w.heap.size D c d ∧ Below w.heap.size w w'
/-- while the words are read -/
def RdI (w : World) (gr gm gw B : Nat) (W : List ByteArray) (i : Value) (wr : World) : Prop :=
  ∃ (k : Nat) (D : Option Addr) (c : Nat) (d : List Opr), k ≤ W.length ∧ i = .int .i64 k ∧ Rd w gr gm gw B (W.map Value.string).toArray D c d wr ∧ prOs [] (W.map (·.data.toList)) = prOs d ((W.map (·.data.toList)).drop k) ∧ d.length ≤ k
theorem drop_word1 {W : List ByteArray} {k : Nat} (h : k < W.length) : (W.map (·.data.toList)).drop k = W[k].data.toList :: (W.map (·.data.toList)).drop (k + 1) := by
  rw [List.drop_eq_getElem_cons (by simpa using h)]; simp
theorem rdD_none {l : List UInt8} (h : prOs [] (spl 59 l) = none) : rdD l = (9, []) := by rw [rdD, h]
theorem rdD_some {l : List UInt8} {d : List Opr} (h : prOs [] (spl 59 l) = some d) : rdD l = if chkD d = 0 then (0, d) else (chkD d, []) := by rw [rdD, h]
theorem splB_small {c : UInt8} {s : ByteArray} : ∀ x ∈ splB c s, x.size ≤ s.size := by
  intro x hx
  have h1 : x.data.toList ∈ spl c s.data.toList := by rw [← splB_data]; exact List.mem_map_of_mem hx
  have key : ∀ (n : Nat) (l : List UInt8), l.length = n → ∀ y ∈ spl c l, y.length ≤ l.length := by
    intro n
    induction n using Nat.strongRecOn with
    | _ n ih =>
      intro l hl y hy
      rcases at_byte c l with hn | ⟨a, r, rfl, ha⟩
      · rw [spl_no hn] at hy; simp at hy; rw [hy]; exact Nat.le_refl _
      · rw [spl_hit ha] at hy
        rcases List.mem_cons.1 hy with rfl | hy
        · simp
        · have := ih r.length (by rw [← hl]; simp; omega) r rfl y hy
          simp; omega
  have := key _ _ rfl _ h1
  simpa using this
set_option maxHeartbeats 2000000 in
set_option maxRecDepth 100000 in
theorem rddeed_any (s : ByteArray) (w : World) (hg : Gl w) (hs : s.size < 4294967281) :
    Calls Tryz.prog 8 #[.string s] w (RetRd w s.data.toList) := by
  have b1 := ((Below.refl w.heap.size w).alloc (Nat.le_refl _) (.cells #[.slice none 0 0] 24)).alloc (by simp) (.cells #[.slice none 0 0] 24)
  have x1 := (Box.new w 24 #[.slice none 0 0]).alloc (.cells #[.slice none 0 0] 24)
  have x2 := Box.new (w.alloc (.cells #[.slice none 0 0] 24)) 24 #[.slice none 0 0]
  simp only [World.size_alloc] at x2
  have HS := hideP (split_any s 59 ((w.alloc (.cells #[.slice none 0 0] 24)).alloc (.cells #[.slice none 0 0] 24)) hs)
  have HW := hideP (splB_data 59 s)
  have hws := splB_small (c := 59) (s := s)
  have hwl : (splB 59 s).length ≤ 4294967282 := by rw [splB_len]; have := countB_le ⟨#[59]⟩ (Nat.le_refl 1) s.size s (Nat.le_refl _); omega
  generalize splB 59 s = W at HS HW hwl hws
  go_enter Tryz.func8, Tryz.ntmps8
  go_wp2_with fail
  refine HS.out.mono ?_
  rintro e w2 ⟨rfl, rfl⟩
  clear HS
  generalize (w.alloc (.cells #[.slice none 0 0] 24)).alloc (.cells #[.slice none 0 0] 24) = w1 at b1 x1 x2 ⊢
  have x3 := Box.new w1 9 (W.map Value.string).toArray
  have al := (Below.refl w1.heap.size w1).alloc (Nat.le_refl _) (.cells (W.map Value.string).toArray 9)
  have HI := hideP (show RdI w w.heap.size (w.heap.size + 1) w1.heap.size (w1.heap.size + 1) W (.int .i64 0) (w1.alloc (.cells (W.map Value.string).toArray 9)) from
    ⟨0, none, 0, [], Nat.zero_le _, rfl, ⟨x2.below al, x1.below al, x3, OO.nil _ _, by have := b1.size; omega, by simp, by omega, by omega, by omega, b1.trans (al.mono b1.size)⟩, rfl, Nat.le_refl _⟩)
  have HG := hideP hg
  have HWS := hideP hws
  generalize w1.alloc (.cells (W.map Value.string).toArray 9) = w3 at HI ⊢
  generalize w1.heap.size + 1 = B at HI
  generalize w1.heap.size = gw at HI ⊢
  generalize w.heap.size + 1 = gm at HI ⊢
  generalize hgr : w.heap.size = gr at HI ⊢
  have HR := hideP hgr
  clear x1 x2 x3 b1 al hg hgr hws
  go_wp2_with fail
  go_loopw [13] (RdI w gr gm gw B W) (fun i _ => W.length - (intOf i).toNat)
  case atStart => exact HI.out
  case round =>
    obtain ⟨k, D, c, d, hk, rfl, hM, hread, hdl⟩ := hrel
    by_cases hkl : k < W.length
    · have g1 : (k : Int) < (W.length : Int) := by omega
      have g2 : (0 : Int) ≤ (k : Int) := by omega
      have hxs := HWS.out _ (List.getElem_mem hkl)
      have c0 := hM.wd.cell k (v := .string W[k]) (by simp [hkl])
      rw [drop_word1 hkl, prOs] at hread
      generalize W[k] = x at c0 hread hxs
      have HRD := hideP hread
      clear hread
      have HX := hideP (rdop_any x wr (HG.out.below (hM.bel)) (by omega))
      go_wp2_with fail
      refine HX.out.mono ?_
      clear HX
      rintro e w5 ⟨⟨o, rfl, ho⟩, hb5⟩
      have hM5 := hM.below hb5
      clear hM hb5
      have hal := (Below.refl w5.heap.size w5).alloc (Nat.le_refl _) (.cells #[.int .i64 o.kind, .string o.key, .string o.src, .int .i64 o.n] 93)
      have hM6 := hM5.below hal
      have xo := Box.new w5 93 #[.int .i64 o.kind, .string o.key, .string o.src, .int .i64 o.n]
      have o0 := xo.cell 0 rfl
      have o1 := xo.cell 1 rfl
      have o2 := xo.cell 2 rfl
      have o3 := xo.cell 3 rfl
      clear xo hal hM5
      cases hn : prO x.data.toList with
      | none =>
        have HV := hideP (show rdD s.data.toList = (9, []) from rdD_none (by rw [← HW.out, HRD.out, hn]))
        have t0 := hM6.res.cell 0 rfl
        have t1 := hM6.res.frozen 0
        have R := hM6.res.set 0 (.slice none 0 0)
        have q0 := R.cell 0 rfl
        have HF := hideP (below_set1 (i := 0) (v := .slice none 0 0) hM6.bel hM6.lowr)
        clear R hM6 HRD ho hn
        unfold opV
        go_wp2_with fail
        exact bodyPost_ret (v := .tuple #[.agg #[.slice none 0 0], .int .i64 9]) (by simp [results, Tryz.results8, go_sem, q0]) rfl ⟨none, 0, [], by rw [HV.out]; rfl, by rw [HV.out], OO.nil _ _, HF.out⟩
      | some y =>
        have hoy := ho y hn
        subst hoy
        have HRD2 := hideP (show prOs [] (W.map (·.data.toList)) = prOs (d ++ [o]) ((W.map (·.data.toList)).drop (k + 1)) by rw [HRD.out, hn])
        have m0 := hM6.box.cell 0 rfl
        obtain ⟨D', c', a1, hrun, hbx, hM2⟩ := hM6.add o (by omega)
        simp only [World.size_alloc] at hrun
        have HRN := hideP hrun
        have m1 := hbx.cell 0 rfl
        have m2 := hbx.frozen 0
        clear hrun hbx HRD ho hn hM6
        unfold opV
        go_wp2_with (at_builtin; first | refine Lib.wpList_append_run _ rfl _ _ _ _ rfl _ _ rfl rfl _ _ HRN.out ?_)
        go_roundw
        case rel => exact ⟨k + 1, D', c', d ++ [o], by omega, by go_num, (by rw [show (d ++ [o]).length = d.length + 1 by simp] at hM2; exact hM2), HRD2.out, by simp; omega⟩
        case measure => simp [intOf]; omega
    · have hke : k = W.length := by omega
      subst hke
      rw [List.drop_of_length_le (by simp)] at hread
      have HV := hideP (rdD_some (show prOs [] (spl 59 s.data.toList) = some d by rw [← HW.out, hread]; rfl))
      clear hread
      have m0 := hM.box.cell 0 rfl
      have HQ := hideP (dcheck_any D c d wr hM.oo.os)
      go_wp2_with fail
      refine HQ.out.mono ?_
      rintro e w5 ⟨rfl, hb5⟩
      have hM5 := hM.below hb5
      by_cases hc : chkD d = 0
      · have HV2 := hideP (show rdD s.data.toList = (0, d) by rw [HV.out, if_pos hc])
        rw [hc]
        clear hc HV HQ m0
        have m0 := hM5.box.cell 0 rfl
        have t0 := hM5.res.cell 0 rfl
        have t1 := hM5.res.frozen 0
        have R := hM5.res.set 0 (.slice D d.length c)
        have q0 := R.cell 0 rfl
        have HF := hideP (And.intro ((hM5.oo.mono hM5.wB).set1 (g := gr) (i := 0) (v := .slice D d.length c) hM5.res.ty (by decide)) (below_set1 (i := 0) (v := .slice D d.length c) hM5.bel hM5.lowr))
        clear R hM5 hM
        go_wp2_with fail
        exact bodyPost_ret (v := .tuple #[.agg #[.slice D d.length c], .int .i64 0]) (by simp [results, Tryz.results8, go_sem, q0]) rfl ⟨D, c, d, by rw [HV2.out], by rw [HV2.out], HF.out.1, HF.out.2⟩
      · have HV2 := hideP (show rdD s.data.toList = (chkD d, []) by rw [HV.out, if_neg hc])
        have d1 : (chkD d != 0) = true := by simpa using hc
        clear hc HV HQ m0
        generalize chkD d = q at d1 HV2 ⊢
        have t0 := hM5.res.cell 0 rfl
        have t1 := hM5.res.frozen 0
        have R := hM5.res.set 0 (.slice none 0 0)
        have q0 := R.cell 0 rfl
        have HF := hideP (below_set1 (i := 0) (v := .slice none 0 0) hM5.bel hM5.lowr)
        clear R hM5 hM
        go_wp2_with fail
        exact bodyPost_ret (v := .tuple #[.agg #[.slice none 0 0], .int .i64 q]) (by simp [results, Tryz.results8, go_sem, q0]) rfl ⟨none, 0, [], by rw [HV2.out]; rfl, by rw [HV2.out], OO.nil _ _, HF.out⟩
end Go.Proofs.YtmepmiokpcddbabGreatDoor
