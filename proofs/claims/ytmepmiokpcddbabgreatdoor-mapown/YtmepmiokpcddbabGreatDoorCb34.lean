/-
  text.ReadMap: what it reads.
  roref.SameMap.
-/
import Derived.Test.YtmepmiokpcddbabGreatDoorCb28
import Derived.Test.YtmepmiokpcddbabGreatDoorCb3
import Derived.Test.YtmepmiokpcddbabGreatDoorCb9
import Derived.Test.YtmepmiokpcddbabGreatDoorCb2
set_option linter.unusedVariables false
set_option linter.unusedSimpArgs false
namespace Go.Proofs.YtmepmiokpcddbabGreatDoor
open Go.RowKit
open Go.Lib hiding intOf

theorem grown_trans_ {a b c : World} {r : Option Nat} {g : Nat} (h1 : a.grownBy b r) (h2 : b.grownBy c (some g)) {k : Nat} (hk : k < a.heap.size) (hr : some k ≠ r) (hg : k ≠ g) : c.heap[k]? = a.heap[k]? :=
  (h2.block k (Nat.lt_of_lt_of_le hk h1.size) (fun e => hg (by injection e))).trans (h1.block k hk hr)
/-- the map while it is read -/
structure Rm (w : World) (gr gm gw B : Nat) (ws : Array Value) (n : Mp) (wr : World) : Prop where
  box : Box wr gm 28 #[.slice n.A n.cs.length n.ca, .slice n.O n.os.length n.co]
  res : Box wr gr 28 #[.slice none 0 0, .slice none 0 0]
  wd : Box wr gw 9 ws
  mo : MO wr B n
  gB : gw < B
  wB : w.heap.size ≤ B
  BB : B ≤ wr.heap.size
  ne : gm ≠ gr
  lowm : w.heap.size ≤ gm
  lowr : w.heap.size ≤ gr
  bel : Below w.heap.size w wr
section
variable {w wr w' : World} {gr gm gw B : Nat} {ws : Array Value} {n : Mp}
theorem Rm.below (h : Rm w gr gm gw B ws n wr) (hb : Below wr.heap.size wr w') : Rm w gr gm gw B ws n w' :=
  ⟨h.box.below hb, h.res.below hb, h.wd.below hb, h.mo.below hb, h.gB, h.wB, Nat.le_trans h.BB hb.size, h.ne, h.lowm, h.lowr, h.bel.trans (hb.mono h.bel.size)⟩
set_option maxRecDepth 100000 in
/-- a cut is added -/
theorem Rm.cut (h : Rm w gr gm gw B ws n wr) (s : ByteArray) (hl : n.cs.length ≤ 5000000000) :
    ∃ A' ca' a1, (Builtin.append_ #[25, 25] 25 #[.slice n.A n.cs.length n.ca, .slice (some ⟨wr.heap.size, 0, none⟩) 1 1]).run Tryz.prog (wr.alloc (.cells #[.string s] 9)) = .ok (.slice A' (n.cs.length + 1) ca') a1 ∧
      Box a1 gm 28 #[.slice n.A n.cs.length n.ca, .slice n.O n.os.length n.co] ∧
      Rm w gr gm gw B ws ⟨A', ca', n.cs ++ [s], n.O, n.co, n.os⟩ (a1.setCell ⟨gm, 0, none⟩ (.slice A' (n.cs.length + 1) ca')) := by
  obtain ⟨A', ca', a1, hrun, hor1, hbl1, hgr1, _⟩ := app_row (P := Tryz.prog) Tryz.underlying25 strInfo rfl wr B 25 n.A n.ca _ h.mo.cuts [.string s] (by simp [Value.oneCell']) (by rw [List.length_map]; simp only [List.length_singleton]; omega) (by decide) h.BB
  have hal1 := (Below.refl wr.heap.size wr).alloc (Nat.le_refl _) (.cells #[.string s] 9)
  have h1 := h.below hal1
  have hX1 : n.cs.map Value.string ++ [Value.string s] = (n.cs ++ [s]).map Value.string := by simp
  rw [hX1] at hrun hor1
  rw [List.length_map, List.length_map, List.length_append, List.length_singleton] at hrun
  rw [List.length_map] at hgr1
  have hcty : ∀ b, (Value.slice n.A n.cs.length n.ca).ownBlock = some b → Ty (wr.alloc (.cells #[.string s] 9)) b 9 := fun b hb => own_ty h1.mo.cuts (by rw [List.length_map]; exact hb)
  have hbx1 := h1.box.grown hgr1 fun e => absurd ((hcty _ e.symm).inj h1.box.ty) (by decide)
  have hrs1 := h1.res.grown hgr1 fun e => absurd ((hcty _ e.symm).inj h1.res.ty) (by decide)
  have hwd1 := h1.wd.grown hgr1 fun e => by
    have := (World.ownsRow.lt h1.mo.cuts gw (by rw [List.length_map]; exact e.symm)).1
    have := h.gB
    omega
  have how1 : OR a1 B 3 n.O n.co (n.os.map (Value.int .i64)) := World.ownsRow.kept h1.mo.own hgr1 (by have := rows_ne h1.mo.own h1.mo.cuts (by decide); simpa using this)
  have hb1 := hbl1 w.heap.size w h.wB h.bel
  have hS : B ≤ a1.heap.size := Nat.le_trans h1.BB hgr1.size
  refine ⟨A', ca', a1, hrun, hbx1, ?_⟩
  have hT := hbx1.set 0 (.slice A' (n.cs.length + 1) ca')
  refine ⟨?_, hrs1.other h.ne _, hwd1.other (fun e => ?_) _, ⟨hor1.set hbx1.ty (by decide), how1.set hbx1.ty (by decide)⟩, h.gB, h.wB, by simpa [World.setCell] using hS, h.ne, h.lowm, h.lowr, below_set hb1 h.lowm⟩
  · simpa using hT
  · have e : gm = gw := e
    subst e
    exact absurd (hbx1.ty.inj hwd1.ty) (by decide)
set_option maxRecDepth 100000 in
/-- an owner is added -/
theorem Rm.owner (h : Rm w gr gm gw B ws n wr) (z : Int) (hl : n.os.length ≤ 5000000000) :
    ∃ O' co' a1, (Builtin.append_ #[26, 26] 26 #[.slice n.O n.os.length n.co, .slice (some ⟨wr.heap.size, 0, none⟩) 1 1]).run Tryz.prog (wr.alloc (.cells #[.int .i64 z] 3)) = .ok (.slice O' (n.os.length + 1) co') a1 ∧
      Box a1 gm 28 #[.slice n.A n.cs.length n.ca, .slice n.O n.os.length n.co] ∧
      Rm w gr gm gw B ws ⟨n.A, n.ca, n.cs, O', co', n.os ++ [z]⟩ (a1.setCell ⟨gm, 1, none⟩ (.slice O' (n.os.length + 1) co')) := by
  obtain ⟨O', co', a1, hrun, hor1, hbl1, hgr1, _⟩ := app_row (P := Tryz.prog) Tryz.underlying26 intInfo rfl wr B 26 n.O n.co _ h.mo.own [.int .i64 z] (by simp [Value.oneCell']) (by rw [List.length_map]; simp only [List.length_singleton]; omega) (by decide) h.BB
  have hal1 := (Below.refl wr.heap.size wr).alloc (Nat.le_refl _) (.cells #[.int .i64 z] 3)
  have h1 := h.below hal1
  have hX1 : n.os.map (Value.int .i64) ++ [Value.int .i64 z] = (n.os ++ [z]).map (Value.int .i64) := by simp
  rw [hX1] at hrun hor1
  rw [List.length_map, List.length_map, List.length_append, List.length_singleton] at hrun
  rw [List.length_map] at hgr1
  have hcty : ∀ b, (Value.slice n.O n.os.length n.co).ownBlock = some b → Ty (wr.alloc (.cells #[.int .i64 z] 3)) b 3 := fun b hb => own_ty h1.mo.own (by rw [List.length_map]; exact hb)
  have hbx1 := h1.box.grown hgr1 fun e => absurd ((hcty _ e.symm).inj h1.box.ty) (by decide)
  have hrs1 := h1.res.grown hgr1 fun e => absurd ((hcty _ e.symm).inj h1.res.ty) (by decide)
  have hwd1 := h1.wd.grown hgr1 fun e => absurd ((hcty _ e.symm).inj h1.wd.ty) (by decide)
  have how1 : OR a1 B 9 n.A n.ca (n.cs.map Value.string) := World.ownsRow.kept h1.mo.cuts hgr1 (by have := rows_ne h1.mo.cuts h1.mo.own (by decide); simpa using this)
  have hb1 := hbl1 w.heap.size w h.wB h.bel
  have hS : B ≤ a1.heap.size := Nat.le_trans h1.BB hgr1.size
  refine ⟨O', co', a1, hrun, hbx1, ?_⟩
  have hT := hbx1.set 1 (.slice O' (n.os.length + 1) co')
  refine ⟨?_, hrs1.other h.ne _, hwd1.other (fun e => ?_) _, ⟨how1.set hbx1.ty (by decide), hor1.set hbx1.ty (by decide)⟩, h.gB, h.wB, by simpa [World.setCell] using hS, h.ne, h.lowm, h.lowr, below_set hb1 h.lowm⟩
  · simpa using hT
  · have e : gm = gw := e
    subst e
    exact absurd (hbx1.ty.inj hwd1.ty) (by decide)
end
theorem box_two {w : World} {g : Nat} {t : TypeId} {a b : Value} (h : Box w g t #[a, b]) (x y : Value) :
    (w.cell? ⟨g, 0, none⟩ = some a ∧ (w.setCell ⟨g, 0, none⟩ x).cell? ⟨g, 1, none⟩ = some b) ∧ (w.frozen? ⟨g, 0, none⟩ = false ∧ (w.setCell ⟨g, 0, none⟩ x).frozen? ⟨g, 1, none⟩ = false) ∧
    Box ((w.setCell ⟨g, 0, none⟩ x).setCell ⟨g, 1, none⟩ y) g t #[x, y] := by
  have h1 := h.set 0 x
  exact ⟨⟨h.cell 0 rfl, h1.cell 1 rfl⟩, ⟨h.frozen 0, h1.frozen 1⟩, h1.set 1 y⟩
/-- what ReadMap hands back -/
def RetRm (w : World) (l : List UInt8) (e : Ending) (w' : World) : Prop :=
  ∃ n : Mp, e = .returned (.tuple #[.agg #[.slice n.A n.cs.length n.ca, .slice n.O n.os.length n.co], .int .i64 (rdM l).1]) ∧ (rdM l).2 = (n.cs, n.os) ∧ MO w' w.heap.size n ∧ Below w.heap.size w w'
/-- while the words are read -/
def RmI (w : World) (gr gm gw B : Nat) (W : List ByteArray) (i : Value) (wr : World) : Prop :=
  ∃ (k : Nat) (n : Mp), k ≤ W.length ∧ i = .int .i64 k ∧ Rm w gr gm gw B (W.map Value.string).toArray n wr ∧ rdW true [] [] (W.map (·.data.toList)) = rdW (decide (k % 2 = 0)) n.cs n.os ((W.map (·.data.toList)).drop k) ∧ n.cs.length ≤ k ∧ n.os.length ≤ k
theorem drop_word {W : List ByteArray} {k : Nat} (h : k < W.length) : (W.map (·.data.toList)).drop k = W[k].data.toList :: (W.map (·.data.toList)).drop (k + 1) := by
  rw [List.drop_eq_getElem_cons (by simpa using h)]; simp
theorem rdM_none {l : List UInt8} (h : rdW true [] [] (spl 58 l) = none) : rdM l = (9, [], []) := by rw [rdM, h]
theorem rdM_some {l : List UInt8} {cs : List ByteArray} {os : List Int} (h : rdW true [] [] (spl 58 l) = some (cs, os)) : rdM l = if chkM cs os = 0 then (0, cs, os) else (chkM cs os, [], []) := by rw [rdM, h]
set_option maxHeartbeats 2000000 in
set_option maxRecDepth 100000 in
theorem rdmap_any (s : ByteArray) (w : World) (hg : Gl w) (hs : s.size < 4294967281) :
    Calls Tryz.prog 9 #[.string s] w (RetRm w s.data.toList) := by
  have b1 := ((Below.refl w.heap.size w).alloc (Nat.le_refl _) (.cells #[.slice none 0 0, .slice none 0 0] 28)).alloc (by simp) (.cells #[.slice none 0 0, .slice none 0 0] 28)
  have x1 := (Box.new w 28 #[.slice none 0 0, .slice none 0 0]).alloc (.cells #[.slice none 0 0, .slice none 0 0] 28)
  have x2 := Box.new (w.alloc (.cells #[.slice none 0 0, .slice none 0 0] 28)) 28 #[.slice none 0 0, .slice none 0 0]
  simp only [World.size_alloc] at x2
  have HS := hideP (split_any s 58 ((w.alloc (.cells #[.slice none 0 0, .slice none 0 0] 28)).alloc (.cells #[.slice none 0 0, .slice none 0 0] 28)) hs)
  have HW := hideP (splB_data 58 s)
  have hwl : (splB 58 s).length ≤ 4294967282 := by rw [splB_len]; have := countB_le ⟨#[58]⟩ (Nat.le_refl 1) s.size s (Nat.le_refl _); omega
  generalize splB 58 s = W at HS HW hwl
  go_enter Tryz.func9, Tryz.ntmps9
  go_wp2_with fail
  refine HS.out.mono ?_
  rintro e w2 ⟨rfl, rfl⟩
  clear HS
  generalize (w.alloc (.cells #[.slice none 0 0, .slice none 0 0] 28)).alloc (.cells #[.slice none 0 0, .slice none 0 0] 28) = w1 at b1 x1 x2 ⊢
  have x3 := Box.new w1 9 (W.map Value.string).toArray
  have al := (Below.refl w1.heap.size w1).alloc (Nat.le_refl _) (.cells (W.map Value.string).toArray 9)
  have HI := hideP (show RmI w w.heap.size (w.heap.size + 1) w1.heap.size (w1.heap.size + 1) W (.int .i64 0) (w1.alloc (.cells (W.map Value.string).toArray 9)) from
    ⟨0, noM, Nat.zero_le _, rfl, ⟨x2.below al, x1.below al, x3, noM_mo _ _, by omega, by have := b1.size; omega, by simp, by omega, by omega, by omega, b1.trans (al.mono b1.size)⟩, rfl, Nat.le_refl _, Nat.le_refl _⟩)
  have HG := hideP hg
  have HN := hideP (show w.heap.size ≤ w.heap.size + 1 by omega)
  generalize w1.alloc (.cells (W.map Value.string).toArray 9) = w3 at HI ⊢
  generalize w1.heap.size + 1 = B at HI
  generalize w1.heap.size = gw at HI ⊢
  generalize w.heap.size + 1 = gm at HI HN ⊢
  generalize hgr : w.heap.size = gr at HI HN ⊢
  have HR := hideP hgr
  clear x1 x2 x3 b1 al hg hgr
  go_wp2_with fail
  go_loopw [13] (RmI w gr gm gw B W) (fun i _ => W.length - (intOf i).toNat)
  case atStart => exact HI.out
  case round =>
    obtain ⟨k, n, hk, rfl, hM, hread, hcl, hol⟩ := hrel
    by_cases hkl : k < W.length
    · have g1 : (k : Int) < (W.length : Int) := by omega
      have g2 : (0 : Int) ≤ (k : Int) := by omega
      have pk : IntKind.i64.wrap ((k : Int) + 1) = (k : Int) + 1 := by simp only [IntKind.wrap_i64]; omega
      have c0 := hM.wd.cell k (v := .string W[k]) (by simp [hkl])
      rw [drop_word hkl] at hread
      generalize W[k] = x at c0 hread
      by_cases hodd : k % 2 = 1
      · have r1 : (k : Int).tmod 2 = 1 := by rw [Int.tmod_eq_emod_of_nonneg (by omega)]; omega
        have d0 : decide (k % 2 = 0) = false := by simp; omega
        have d1 : decide ((k + 1) % 2 = 0) = true := by simp; omega
        rw [d0, rdW, bs_of] at hread
        have HRD := hideP hread
        clear hread hodd d0
        have m0 := hM.box.cell 0 rfl
        obtain ⟨A', ca', a1, hrun, hbx, hM2⟩ := hM.cut x (by omega)
        have HRN := hideP hrun
        have m1 := hbx.cell 0 rfl
        have m2 := hbx.frozen 0
        clear hrun hbx
        go_wp2_with (at_builtin; first | refine Lib.wpList_append_run _ rfl _ _ _ _ rfl _ _ rfl rfl _ _ HRN.out ?_)
        go_roundw
        case rel => exact ⟨k + 1, _, by omega, by go_num, hM2, by rw [d1]; exact HRD.out, by simp; omega, by simp; omega⟩
        case measure => simp [intOf]; omega
      · have r1 : (k : Int).tmod 2 = 0 := by rw [Int.tmod_eq_emod_of_nonneg (by omega)]; omega
        have d0 : decide (k % 2 = 0) = true := by simp; omega
        have d1 : decide ((k + 1) % 2 = 0) = false := by simp; omega
        rw [d0, rdW] at hread
        have HRD := hideP hread
        clear hread hodd d0
        have HX := hideP (rdnum_any x wr (HG.out.below (hM.bel)))
        go_wp2_with fail
        refine HX.out.mono ?_
        rintro e w5 ⟨⟨z, rfl, hz⟩, hb5⟩
        have hM5 := hM.below hb5
        cases hn : rdN x.data.toList with
        | none =>
          have HV := hideP (show rdM s.data.toList = (9, [], []) from rdM_none (by rw [← HW.out, HRD.out, hn]))
          obtain ⟨⟨t0, t1⟩, ⟨t2, t3⟩, R⟩ := box_two hM5.res (.slice none 0 0) (.slice none 0 0)
          have q0 := R.cell 0 rfl
          have q1 := R.cell 1 rfl
          have HF := hideP (res_set (w := w) hM5.res hM5.lowr (noM_mo _ _) hM5.bel (.slice none 0 0) (.slice none 0 0))
          clear R hM5 hM HRD hz HX
          go_wp2_with fail
          exact bodyPost_ret (v := .tuple #[.agg #[.slice none 0 0, .slice none 0 0], .int .i64 9]) (by simp [results, Tryz.results9, go_sem, q0, q1]) rfl ⟨noM, by rw [HV.out]; rfl, by rw [HV.out]; rfl, HF.out.1, HF.out.2⟩
        | some y =>
          have hzy := hz y hn
          subst hzy
          have HRD2 := hideP (show rdW true [] [] (W.map (·.data.toList)) = rdW false n.cs (n.os ++ [z]) ((W.map (·.data.toList)).drop (k + 1)) by rw [HRD.out, hn])
          have m0 := hM5.box.cell 1 rfl
          obtain ⟨O', co', a1, hrun, hbx, hM2⟩ := hM5.owner z (by omega)
          have HRN := hideP hrun
          have m1 := hbx.cell 1 rfl
          have m2 := hbx.frozen 1
          clear hrun hbx hM5 hM HRD hz HX hn
          go_wp2_with (at_builtin; first | refine Lib.wpList_append_run _ rfl _ _ _ _ rfl _ _ rfl rfl _ _ HRN.out ?_)
          go_roundw
          case rel => exact ⟨k + 1, _, by omega, by go_num, hM2, by rw [d1]; exact HRD2.out, by simp; omega, by simp; omega⟩
          case measure => simp [intOf]; omega
    · have hke : k = W.length := by omega
      subst hke
      rw [List.drop_of_length_le (by simp)] at hread
      have HV := hideP (rdM_some (show rdW true [] [] (spl 58 s.data.toList) = some (n.cs, n.os) by rw [← HW.out, hread]; cases (decide (W.length % 2 = 0)) <;> rfl))
      clear hread
      have m0 := hM.box.cell 0 rfl
      have m1 := hM.box.cell 1 rfl
      have HQ := hideP (shcheck_any n wr hM.mo.ms (by omega))
      go_wp2_with fail
      refine HQ.out.mono ?_
      rintro e w5 ⟨rfl, hb5⟩
      have hM5 := hM.below hb5
      by_cases hc : chkM n.cs n.os = 0
      · have HV2 := hideP (show rdM s.data.toList = (0, n.cs, n.os) by rw [HV.out, if_pos hc])
        rw [hc]
        clear hc HV HQ m0 m1
        have m0 := hM5.box.cell 0 rfl
        have m1 := hM5.box.cell 1 rfl
        obtain ⟨⟨t0, t1⟩, ⟨t2, t3⟩, R⟩ := box_two hM5.res (.slice n.A n.cs.length n.ca) (.slice n.O n.os.length n.co)
        have q0 := R.cell 0 rfl
        have q1 := R.cell 1 rfl
        have HF := hideP (res_set (w := w) hM5.res hM5.lowr (hM5.mo.mono hM5.wB) hM5.bel (.slice n.A n.cs.length n.ca) (.slice n.O n.os.length n.co))
        clear R hM5 hM
        go_wp2_with fail
        exact bodyPost_ret (v := .tuple #[.agg #[.slice n.A n.cs.length n.ca, .slice n.O n.os.length n.co], .int .i64 0]) (by simp [results, Tryz.results9, go_sem, q0, q1]) rfl ⟨n, by rw [HV2.out], by rw [HV2.out], HF.out.1, HF.out.2⟩
      · have HV2 := hideP (show rdM s.data.toList = (chkM n.cs n.os, [], []) by rw [HV.out, if_neg hc])
        have d1 : (chkM n.cs n.os != 0) = true := by simpa using hc
        clear hc HV HQ m0 m1
        generalize chkM n.cs n.os = q at d1 HV2 ⊢
        obtain ⟨⟨t0, t1⟩, ⟨t2, t3⟩, R⟩ := box_two hM5.res (.slice none 0 0) (.slice none 0 0)
        have q0 := R.cell 0 rfl
        have q1 := R.cell 1 rfl
        have HF := hideP (res_set (w := w) hM5.res hM5.lowr (noM_mo _ _) hM5.bel (.slice none 0 0) (.slice none 0 0))
        clear R hM5 hM
        go_wp2_with fail
        exact bodyPost_ret (v := .tuple #[.agg #[.slice none 0 0, .slice none 0 0], .int .i64 q]) (by simp [results, Tryz.results9, go_sem, q0, q1]) rfl ⟨noM, by rw [HV2.out]; rfl, by rw [HV2.out]; rfl, HF.out.1, HF.out.2⟩
end Go.Proofs.YtmepmiokpcddbabGreatDoor

set_option linter.unusedVariables false
set_option linter.unusedSimpArgs false
namespace Go.Proofs.YtmepmiokpcddbabGreatDoor
open Go.RowKit

set_option maxHeartbeats 400000 in
set_option maxRecDepth 100000 in
theorem samemap_any (a b : Mp) (w : World) (ha : MS w a) (hb : MS w b) :
    Calls Tryz.prog 10 #[.agg #[.slice a.A a.cs.length a.ca, .slice a.O a.os.length a.co], .agg #[.slice b.A b.cs.length b.ca, .slice b.O b.os.length b.co]] w fun e w' => e = .returned (.bool (decide (a.cs = b.cs) && decide (a.os = b.os))) ∧ Below w.heap.size w w' := by
  have b0 := ((Below.refl w.heap.size w).alloc (Nat.le_refl _) (.cells #[.slice a.A a.cs.length a.ca, .slice a.O a.os.length a.co] 28)).alloc (by simp) (.cells #[.slice b.A b.cs.length b.ca, .slice b.O b.os.length b.co] 28)
  have ha0 := ha.below b0
  have hb0 := hb.below b0
  have l1 := ha.lc
  have l2 := hb.lc
  have l3 := ha.lo
  have l4 := hb.lo
  have m1 := ha.mc
  have m2 := hb.mc
  have m3 := ha.mo
  have m4 := hb.mo
  unfold maxLen at m1 m2 m3 m4
  clear ha hb
  obtain ⟨Aa, ca, cs, Oa, co, os⟩ := a
  obtain ⟨Ab, cb, ds, Ob, cp, ps⟩ := b
  simp only at ha0 hb0 b0 l1 l2 l3 l4 m1 m2 m3 m4 ⊢
  have x0 : ((w.alloc (.cells #[.slice Aa cs.length ca, .slice Oa os.length co] 28)).alloc (.cells #[.slice Ab ds.length cb, .slice Ob ps.length cp] 28)).cell? ⟨w.heap.size, 1, none⟩ = some (.slice Oa os.length co) := by simp
  have x1 : ((w.alloc (.cells #[.slice Aa cs.length ca, .slice Oa os.length co] 28)).alloc (.cells #[.slice Ab ds.length cb, .slice Ob ps.length cp] 28)).cell? ⟨w.heap.size + 1, 1, none⟩ = some (.slice Ob ps.length cp) := by simp
  have hlt : w.heap.size + 1 < ((w.alloc (.cells #[.slice Aa cs.length ca, .slice Oa os.length co] 28)).alloc (.cells #[.slice Ab ds.length cb, .slice Ob ps.length cp] 28)).heap.size := by simp
  go_enter Tryz.func10, Tryz.ntmps10
  go_wp2_with fail
  generalize (w.alloc (.cells #[.slice Aa cs.length ca, .slice Oa os.length co] 28)).alloc (.cells #[.slice Ab ds.length cb, .slice Ob ps.length cp] 28) = w1 at b0 ha0 hb0 x0 x1 hlt ⊢
  have b1 := b0.size
  generalize hg : w.heap.size = g at x0 x1 hlt ⊢
  clear hg
  refine (sequal_any Aa Ab ca cb cs ds w1 ha0.cuts hb0.cuts (by omega) (by omega)).mono ?_
  rintro e w2 ⟨rfl, hb2⟩
  have hb3 := b0.trans (hb2.mono b0.size)
  have y0 := (hb2.cell (p := ⟨g, 1, none⟩) (show g < _ by omega)).trans x0
  have y1 := (hb2.cell (p := ⟨g + 1, 1, none⟩) hlt).trans x1
  have o0 := ha0.own.below hb2
  have o1 := hb0.own.below hb2
  have HQ := hideP (ieq_any Oa Ob co cp os ps w2 o0 o1 (by omega) (by omega))
  clear ha0 hb0 x0 x1 hlt o0 o1
  generalize hp1 : decide (cs = ds) = p1 at ⊢
  generalize hp2 : decide (os = ps) = p2 at HQ
  have HP1 := hideP hp1
  have HP2 := hideP hp2
  clear hp1 hp2
  cases p1
  · go_wp2_with fail
    go_ret
    exact ⟨ret_bool (by rw [HP1.out]; rfl), hb3⟩
  · go_wp2_with fail
    refine HQ.out.mono ?_
    rintro e w3 ⟨rfl, hb4⟩
    have hb5 := hb3.trans (hb4.mono (Nat.le_trans b0.size hb2.size))
    go_wp2_with fail
    go_ret
    exact ⟨ret_bool (by rw [HP1.out, HP2.out]; rfl), hb5⟩
end Go.Proofs.YtmepmiokpcddbabGreatDoor
