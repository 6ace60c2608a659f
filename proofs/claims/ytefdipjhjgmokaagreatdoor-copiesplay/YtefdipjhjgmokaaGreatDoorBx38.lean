/-
  The document's Close.
  The document's NewMerge.
  (*merge.Merge).Waits.
  The document's Waits.
  How long a log is, and how few operations its transactions have.
-/
import Derived.Test.YtefdipjhjgmokaaGreatDoorBx28
import Derived.Test.YtefdipjhjgmokaaGreatDoorBx13
import Derived.Test.YtefdipjhjgmokaaGreatDoorBx20
import Derived.Test.YtefdipjhjgmokaaGreatDoorBx6
import Derived.Test.YtefdipjhjgmokaaGreatDoorBx1
set_option linter.unusedVariables false
set_option linter.unusedSimpArgs false
namespace Go.Proofs.YtefdipjhjgmokaaGreatDoor
open Go.RowKit

set_option maxHeartbeats 2000000 in
set_option maxRecDepth 100000 in
theorem rclose_any (s : Rs) (w0 : World) (B : Nat) (i : Int) (w : World) (h : s.Ok w0 w B) :
    Calls Tryz.prog 53 #[.pointer (some ⟨s.g, 0, none⟩), .int .i64 i] w fun e w' => ∃ s', e = .returned (.tuple #[.int .i64 (closeN s.ct i), .int .i64 (closeQ s.ct i)]) ∧ s.To w0 w B s' w' (closeC s.ct i) := by
  have HH := hideP (ris_any s w0 B i w h)
  have hlen : s.ct.length = s.ins.length := by simp [Rs.ct, ctM]
  by_cases hin : 0 ≤ i ∧ i < (s.ct.length : Int)
  · rw [decide_eq_true hin] at HH
    obtain ⟨n, rfl⟩ : ∃ n : Nat, i = n := ⟨i.toNat, by omega⟩
    have hn : n < s.ins.length := by omega
    obtain ⟨x, hx⟩ : ∃ x, s.ins[n]? = some x := ⟨_, List.getElem?_eq_getElem hn⟩
    obtain ⟨k, hk⟩ := h.rg.pos hx
    have hxb := h.gm.bs n x hx
    have hcx : s.ct[n]? = some (ctI x) := by simp [Rs.ct, ctM, hx]
    have hcl : (ctI x).length = x.bs.length := by simp [ctI]
    have c0 := h.rg.box.cell 0 (v := .slice s.AI s.ins.length s.cI) rfl
    obtain ⟨gi, hAI, p0⟩ := h.rg.cell_ hx
    have g1 : (0 : Int) ≤ (n : Int) := by omega
    have g2 : (n : Int) < (s.ins.length : Int) := by omega
    by_cases hfull : 61 ≤ x.bs.length
    · obtain ⟨q1, q2, q3⟩ := closeQ_full (b := ctI x) hcx (by omega)
      rw [q1, q2, q3]
      have HT := hideP (Rs.To.same h (Below.refl _ _))
      have d1 : (60 : Int) < (x.bs.length : Int) := by omega
      rw [hAI] at c0
      clear h hin q1 q2 q3 hcx hlen hk hcl
      go_enter Tryz.func53, Tryz.ntmps53
      go_wp2_with fail
      refine HH.out.mono ?_
      rintro e w' ⟨rfl, rfl⟩
      go_wp2_with fail
      go_ret2
      exact ⟨s, rfl, HT.out⟩
    · obtain ⟨q1, q2, q3⟩ := closeQ_ok (b := ctI x) hcx (by omega)
      rw [q1, q2, q3, hcl]
      have d1 : ¬ (60 : Int) < (x.bs.length : Int) := by omega
      have bd := (Below.refl w.heap.size w).drew
      obtain ⟨A', c', w2, gi', hrun, hAI', c1, fz, hRG, hFr, hF⟩ := (h.rg.below bd).close hx (h.below bd).size (by omega) 170
      rw [hAI] at hAI'
      injection hAI' with e
      injection e with e
      subst e
      have hG2 := h.gm.close hx (by omega) A' c'
      have hct : ctM (s.ins.set n ⟨A', c', x.bs ++ [bt0]⟩) = closeM s.ct n := ct_close hx A' c'
      have hct2 : totM (ctM (s.ins.set n ⟨A', c', x.bs ++ [bt0]⟩)) = totM (ctM s.ins) := by rw [ct_close hx, tot_close (b := ctI x) (by simp [ctM, hx])]
      have hbe : Below w0.heap.size w0 (w2.setCell ⟨gi, n, none⟩ (.slice A' (x.bs ++ [bt0]).length c')) := hFr.below (fun q hq => Nat.le_trans h.lb (h.lo hq).1) (Nat.le_trans h.lb h.size) (h.be.trans (bd.mono h.be.size))
      have HT := hideP (show s.To w0 w B ⟨s.g, s.AI, s.cI, s.ins.set n ⟨A', c', x.bs ++ [bt0]⟩⟩ (w2.setCell ⟨gi, n, none⟩ (.slice A' (x.bs ++ [bt0]).length c')) (closeM s.ct n) from
        ⟨rfl, ⟨hRG, by simp only; rw [hct2]; exact hG2, hbe, h.lb⟩, hct, (Fr.of_below bd).comp hFr, hF⟩)
      have al := (Below.refl w.heap.size w).alloc (Nat.le_refl _) (.cells #[.slice none 0 0] 26)
      have c0a := (h.rg.below al).box.cell 0 (v := .slice s.AI s.ins.length s.cI) rfl
      obtain ⟨_, e, p0a⟩ := (h.rg.below al).cell_ hx
      rw [hAI] at e
      injection e with e
      injection e with e
      subst e
      have c03 := hRG.box.cell 0 (v := .slice s.AI (s.ins.set n ⟨A', c', x.bs ++ [bt0]⟩).length s.cI) rfl
      have c02 : w2.cell? ⟨s.g, 0, none⟩ = some (.slice s.AI s.ins.length s.cI) := by
        have hne : s.g ≠ gi := fun e => by
          have t1 := hRG.box.ty
          have t2 := own_ty hRG.row (b := gi) (by rw [hAI]; rfl)
          exact absurd (t1.inj (show Ty _ s.g 170 by rw [e]; exact t2)) (by decide)
        have := c03
        rw [List.length_set] at this
        rw [← this]
        exact (World.cell?_of_block (Below.heap_setCell w2 _ _ _ (fun e => hne e))).symm
      replace hrun : (Builtin.append_ #[170, 170] 170 #[.slice x.A x.bs.length x.c, .slice (some ⟨w.heap.size, 0, none⟩) 1 1]).run Tryz.prog (w.alloc (.cells #[.slice none 0 0] 26)).drew = .ok (.slice A' (x.bs ++ [bt0]).length c') w2 := hrun
      have HRN := hideP hrun
      unfold inV at c1
      rw [hAI] at c0 c0a c02
      clear h hin q1 q2 q3 hcx hlen hcl hRG hFr hF hG2 hct hct2 bd al hrun hk hAI hbe c03
      generalize (x.bs ++ [bt0]).length = m2 at HRN HT
      generalize x.bs.length = m1 at HRN c1 p0 p0a hxb d1 hfull ⊢
      generalize x.A = xA at HRN c1 p0 p0a
      generalize x.c = xc at HRN c1 p0 p0a
      go_enter Tryz.func53, Tryz.ntmps53
      go_wp2_with fail
      refine HH.out.mono ?_
      rintro e w' ⟨rfl, rfl⟩
      go_wp2_with fail
      go_region_law (refine step_append_runM _ rfl _ _ _ _ rfl _ _ rfl rfl _ _ HRN.out ?_)
      all_goals
        go_wp2_with fail
        go_ret2
        exact ⟨_, rfl, HT.out⟩
  · rw [decide_eq_false hin] at HH
    obtain ⟨q1, q2, q3⟩ := closeQ_none (ct := s.ct) (i := i) hin
    rw [q1, q2, q3]
    have HT := hideP (Rs.To.same h (Below.refl _ _))
    clear h hin q1 q2 q3 hlen
    go_enter Tryz.func53, Tryz.ntmps53
    go_wp2_with fail
    refine HH.out.mono ?_
    rintro e w' ⟨rfl, rfl⟩
    go_wp2_with fail
    go_ret2
    exact ⟨s, rfl, HT.out⟩
end Go.Proofs.YtefdipjhjgmokaaGreatDoor

set_option linter.unusedVariables false
set_option linter.unusedSimpArgs false
namespace Go.Proofs.YtefdipjhjgmokaaGreatDoor
open Go.RowKit

theorem enrrInfo : (Tryz.prog.info? 170).map (fun i => (i.zero, i.size, i.bytes)) = some (some (.slice none 0 0), 1, 24) := by kernel_rfl
/-- while the inputs are made -/
structure RnM (w : World) (g : Nat) (AI : Option Addr) (cI : Nat) (rows : List In) (wr : World) : Prop where
  box : Box wr g 169 #[.slice AI rows.length cI]
  low : w.heap.size ≤ g
  row : OR wr w.heap.size 170 AI cI (rows.map inV)
  inp : ∀ x ∈ rows, x.bs = [bt0] ∧ OR wr w.heap.size 26 x.A x.c [.slice none 0 0]
  ap : rows.Pairwise fun x y => blk x.A ≠ blk y.A
  be : Below w.heap.size w wr
/-- one input more -/
theorem RnM.step {w wr : World} {g cI : Nat} {AI : Option Addr} {rows : List In} (h : RnM w g AI cI rows wr) (hl : rows.length ≤ 100) :
    ∃ A' c' w2, (Builtin.append_ #[167, 167] 167 #[.slice AI rows.length cI, .slice (some ⟨wr.heap.size + 1, 0, none⟩) 1 1]).run Tryz.prog ((wr.alloc (.cells #[.slice none 0 0] 26)).alloc (.cells #[.slice (some ⟨wr.heap.size, 0, none⟩) 1 1] 170)) = .ok (.slice A' (rows.length + 1) c') w2 ∧
      w2.cell? ⟨g, 0, none⟩ = some (.slice AI rows.length cI) ∧ w2.frozen? ⟨g, 0, none⟩ = false ∧
      RnM w g A' c' (rows ++ [⟨some ⟨wr.heap.size, 0, none⟩, 1, [bt0]⟩]) (w2.setCell ⟨g, 0, none⟩ (.slice A' (rows.length + 1) c')) := by
  have al := (Below.refl wr.heap.size wr).alloc (Nat.le_refl _) (.cells #[.slice none 0 0] 26)
  have hbx := h.box.below al
  have hrow := h.row.below al
  have hnew := OR.of_boxM (Box.new wr 26 #[.slice none 0 0]) h.be.size
  obtain ⟨A', c', w2, hrun, hOR, hbel, hgr, _⟩ := app_row (P := Tryz.prog) Tryz.underlying167 enrrInfo rfl (wr.alloc (.cells #[.slice none 0 0] 26)) w.heap.size 167 AI cI _ hrow [.slice (some ⟨wr.heap.size, 0, none⟩) 1 1] (by simp [Value.oneCell']) (by simp; omega) (by decide) (by have := h.be.size; simp; omega)
  rw [show rows.map inV ++ [.slice (some ⟨wr.heap.size, 0, none⟩) 1 1] = (rows ++ [(⟨some ⟨wr.heap.size, 0, none⟩, 1, [bt0]⟩ : In)]).map inV by simp [inV]] at hrun hOR
  rw [List.length_map, List.length_map, List.length_append, List.length_singleton, World.size_alloc] at hrun
  have al2 := (Below.refl (wr.alloc (.cells #[.slice none 0 0] 26)).heap.size (wr.alloc (.cells #[.slice none 0 0] 26))).alloc (Nat.le_refl _) (.cells #[.slice (some ⟨wr.heap.size, 0, none⟩) 1 1] 170)
  have hrow2 := hrow.below al2
  have hty : ∀ q, (Value.slice AI (rows.map inV).length cI).ownBlock = some q → Ty _ q 170 := fun q hq => own_ty hrow2 hq
  have hbx2 := (hbx.below al2).grown hgr (fun e => absurd ((hbx.below al2).ty.inj (hty g e.symm)) (by decide))
  have gs := grown_set w2 g 0 (.slice A' (rows.length + 1) c')
  have b2 : Below w.heap.size w w2 := hbel _ _ (Nat.le_refl _) (h.be.trans (al.mono h.be.size))
  have hset := hbx2.set 0 (.slice A' (rows.length + 1) c')
  refine ⟨A', c', w2, hrun, hbx2.cell 0 rfl, hbx2.frozen 0, ?_, h.low, ?_, fun x hx => ?_, ?_, b2.setCell (p := ⟨g, 0, none⟩) h.low _⟩
  · rw [List.length_append, List.length_singleton]; exact hset
  · exact own_keep hOR gs fun q hq => by injection hq with hq; subst hq; exact ⟨_, hbx2.ty, by decide⟩
  · have key : ∀ {A : Option Addr} {c : Nat}, OR (wr.alloc (.cells #[.slice none 0 0] 26)) w.heap.size 26 A c [.slice none 0 0] → OR (w2.setCell ⟨g, 0, none⟩ (.slice A' (rows.length + 1) c')) w.heap.size 26 A c [.slice none 0 0] := fun hh =>
      own_keep (own_keep (hh.below al2) hgr fun q hq => ⟨_, hty q hq, by decide⟩) gs fun q hq => by injection hq with hq; subst hq; exact ⟨_, hbx2.ty, by decide⟩
    rcases List.mem_append.1 hx with hx | hx
    · exact ⟨(h.inp x hx).1, key ((h.inp x hx).2.below al)⟩
    · rw [List.mem_singleton] at hx
      subst hx
      exact ⟨rfl, key hnew⟩
  · rw [List.pairwise_append]
    refine ⟨h.ap, List.pairwise_singleton _ _, fun x hx y hy e => ?_⟩
    rw [List.mem_singleton] at hy
    subst hy
    have := (World.ownsRow.lt (h.inp x hx).2 wr.heap.size (by rw [ownBlock_slice, e]; rfl)).2
    omega
theorem tot_zero {α : Type} (n : Nat) : totM (List.replicate n [([] : List α)]) = 0 := by
  induction n with
  | zero => rfl
  | succ n ih => simp only [totM, List.replicate_succ, List.map_cons, List.sum_cons] at ih ⊢; rw [ih]; rfl
/-- all inputs are made -/
theorem RnM.done {w wr : World} {g cI n : Nat} {AI : Option Addr} {rows : List In} (h : RnM w g AI cI rows wr) (hl : rows.length = n) (h1 : 1 ≤ n) (h4 : n ≤ 4) (w0 : World) (hbe : Below w0.heap.size w0 w) :
    (⟨g, AI, cI, rows⟩ : Rs).Ok w0 wr w.heap.size ∧ ctM rows = List.replicate n [[]] := by
  have hat : ∀ {i : Nat} {x : In}, rows[i]? = some x → x.bs = [bt0] ∧ OR wr w.heap.size 26 x.A x.c [.slice none 0 0] := fun hi => h.inp _ (List.mem_of_getElem? hi)
  have hb1 : ∀ {i k : Nat} {x : In} {b : Bt}, rows[i]? = some x → x.bs[k]? = some b → b = bt0 := fun hi hk => by
    rw [(hat hi).1] at hk
    have := List.mem_of_getElem? hk
    simpa using this
  have hct : ctM rows = List.replicate n [[]] := by
    rw [← hl]
    refine List.eq_replicate_iff.2 ⟨by simp [ctM], fun b hb => ?_⟩
    obtain ⟨x, hx, rfl⟩ := List.mem_map.1 hb
    unfold ctI
    rw [(h.inp x hx).1]; rfl
  refine ⟨⟨⟨h.box, h.low, h.row, fun i x hi => ?_, fun i x hi e => ?_, fun i x k b hi hk => ?_, fun i j x y hi hj e => ?_⟩, ⟨fun e => ?_, by simp only; omega, fun i x hi => ?_, rfl, by simp only; rw [hct, tot_zero]; omega⟩, hbe.trans (h.be.mono hbe.size), hbe.size⟩, hct⟩
  · rw [(hat hi).1]; exact (hat hi).2
  · rw [(hat hi).1] at e; cases e
  · rw [hb1 hi hk]; exact ER.nil _ _ _
  · rcases Nat.lt_trichotomy i j with hlt | rfl | hgt
    · obtain ⟨hi', rfl⟩ := List.getElem?_eq_some_iff.1 hi
      obtain ⟨hj', rfl⟩ := List.getElem?_eq_some_iff.1 hj
      exact absurd e (List.pairwise_iff_getElem.1 h.ap i j hi' hj' hlt)
    · rfl
    · obtain ⟨hi', rfl⟩ := List.getElem?_eq_some_iff.1 hi
      obtain ⟨hj', rfl⟩ := List.getElem?_eq_some_iff.1 hj
      exact absurd e.symm (List.pairwise_iff_getElem.1 h.ap j i hj' hi' hgt)
  · simp only at e; rw [e] at hl; simp at hl; omega
  · simp only at hi; rw [(hat hi).1]; simp
def RnI (w : World) (g n : Nat) (i : Value) (wr : World) : Prop := ∃ (AI : Option Addr) (cI : Nat) (rows : List In), rows.length ≤ n ∧ i = .int .i64 (rows.length : Nat) ∧ RnM w g AI cI rows wr
/-- it is handed back -/
def RetRn (w0 w : World) (n : Nat) (e : Ending) (w' : World) : Prop := ∃ s : Rs, e = .returned (.pointer (some ⟨s.g, 0, none⟩)) ∧ s.Ok w0 w' w.heap.size ∧ s.ct = List.replicate n [[]] ∧ Below w.heap.size w w'
set_option maxHeartbeats 1000000 in
set_option maxRecDepth 100000 in
theorem rnew_any (n : Nat) (w0 w : World) (h1 : 1 ≤ n) (h4 : n ≤ 4) (hbe : Below w0.heap.size w0 w) :
    Calls Tryz.prog 48 #[.int .i64 (n : Int)] w (RetRn w0 w n) := by
  have al := (Below.refl w.heap.size w).alloc (Nat.le_refl _) (.cells #[.slice none 0 0] 169)
  have HN := hideP (show RnI w w.heap.size n (.int .i64 0) (w.alloc (.cells #[.slice none 0 0] 169)) from ⟨none, 0, [], Nat.zero_le _, rfl, Box.new _ _ _, Nat.le_refl _, OR.nil _ _ _, by simp, .nil, al⟩)
  have HB := hideP (And.intro h1 h4)
  have HBE := hideP hbe
  clear al hbe h1
  go_enter Tryz.func48, Tryz.ntmps48
  go_wp2_with fail
  generalize hg : w.heap.size = g at HN ⊢
  have HG := hideP hg
  clear hg
  go_loopw [7] (RnI w g n) (fun i _ => n - (intOf i).toNat)
  case atStart => exact HN.out
  case round =>
    clear HN
    obtain ⟨AI, cI, rows, hr4, rfl, hN⟩ := hrel
    by_cases hlt : rows.length < n
    · obtain ⟨A', c', w2, hrun, k0, f0, hS⟩ := hN.step (by omega)
      have c0 := hN.box.cell 0 (v := .slice AI rows.length cI) rfl
      have HS := hideP (show RnI w g n (.int .i64 ((rows.length + 1 : Nat) : Int)) _ from ⟨A', c', _, by simp; omega, by simp, hS⟩)
      have HRN := hideP hrun
      have hl2 := hr4
      clear hN hS hrun
      generalize rows.length = k at HRN k0 f0 c0 HS hlt hl2 ⊢
      go_wp2_with (at_builtin; refine Lib.wpList_append_run _ rfl _ _ _ _ rfl _ _ rfl rfl _ _ HRN.out ?_)
      go_roundw
      case rel => exact (show (Value.int .i64 ((k : Int) + 1)) = .int .i64 ((k + 1 : Nat) : Int) from by go_num) ▸ HS.out
      case measure => simp [intOf]; omega
    · have hrn : rows.length = n := by omega
      obtain ⟨hS, hct⟩ := hN.done hrn HB.out.1 HB.out.2 w0 HBE.out
      have HF := hideP (show RetRn w0 w n (.returned (.pointer (some ⟨g, 0, none⟩))) wr from ⟨_, rfl, hS, hct, hN.be⟩)
      clear hN hS hct hrn
      go_wp2_with fail
      go_ret
      exact HF.out
end Go.Proofs.YtefdipjhjgmokaaGreatDoor

set_option linter.unusedVariables false
set_option linter.unusedSimpArgs false
namespace Go.Proofs.YtefdipjhjgmokaaGreatDoor
open Go.RowKit

/-- the first of the inputs that are waited for -/
def waitK (cl : List Nat) (r k : Nat) : List Nat := (List.range k).filter fun i => decide (cl[i]? = some r)
theorem waitK_step (cl : List Nat) (r k q : Nat) (h : cl[k]? = some q) : waitK cl r (k + 1) = if q = r then waitK cl r k ++ [k] else waitK cl r k := by
  unfold waitK
  rw [List.range_succ, List.filter_append]
  by_cases e : q = r
  · subst e; simp [h]
  · rw [if_neg e]
    have : (decide (cl[k]? = some r)) = false := by rw [h]; simpa using e
    simp [this]
theorem waitK_len (cl : List Nat) (r k : Nat) : (waitK cl r k).length ≤ k := by
  have := List.length_filter_le (fun i => decide (cl[i]? = some r)) (List.range k)
  rw [List.length_range] at this
  exact this
/-- what Waits hands back -/
def RetWt (w : World) (l : List Nat) (e : Ending) (w' : World) : Prop := ∃ A c, e = .returned (.slice A l.length c) ∧ OR w' w.heap.size 3 A c (nV l) ∧ Below w.heap.size w w'
def WtI (w : World) (cl : List Nat) (r n : Nat) (s i : Value) (wr : World) : Prop :=
  ∃ (k : Nat) (A : Option Addr) (c : Nat), k ≤ n ∧ i = .int .i64 k ∧ s = .slice A (waitK cl r k).length c ∧ OR wr w.heap.size 3 A c (nV (waitK cl r k)) ∧ Below w.heap.size w wr
set_option maxHeartbeats 2000000 in
set_option maxRecDepth 100000 in
theorem mwaits_any (B g : Nat) (tx : Tx) (AI : Option Addr) (cI : Nat) (ins : List In) (added : Nat) (w : World) (h : MG w B g tx AI cI ins added) (hG : Gm ins added) :
    Calls Tryz.prog 38 #[.pointer (some ⟨g, 0, none⟩)] w (RetWt w (waitM (ctM ins))) := by
  have c0 := h.c0
  have HR := hideP (mrounds_any B g tx AI cI ins added w h hG)
  have HEND := hideP (show waitK (cloL (ctM ins)) (rndM (ctM ins)) ins.length = waitM (ctM ins) by unfold waitK waitM; rw [show (ctM ins).length = ins.length by simp [ctM]])
  have HST := hideP (fun r => show waitK (cloL (ctM ins)) r 0 = [] from rfl)
  have HCE := hideP (fun (wr : World) (hb : Below w.heap.size w wr) (k : Nat) (hk : k < ins.length) => show ∃ (gi : Nat) (A : Option Addr) (n c q : Nat), AI = some ⟨gi, 0, none⟩ ∧ wr.cell? ⟨gi, k, none⟩ = some (.slice A n c) ∧ n = q + 1 ∧ n ≤ 61 ∧ (cloL (ctM ins))[k]? = some q from by
    obtain ⟨x, hx⟩ : ∃ x, ins[k]? = some x := ⟨_, List.getElem?_eq_getElem hk⟩
    obtain ⟨gi, e, hc⟩ := (h.below hb).cell_ hx
    obtain ⟨q, hq⟩ := h.pos hx
    exact ⟨gi, _, _, _, q, e, hc, hq, hG.bs _ x hx, by rw [clo_ct, List.getElem?_map, hx]; simp [hq]⟩)
  have hfew := hG.few
  generalize cloL (ctM ins) = cl at HEND HST HCE
  generalize rndM (ctM ins) = rr at HR HEND
  generalize waitM (ctM ins) = wt at HEND ⊢
  clear h hG
  go_enter Tryz.func38, Tryz.ntmps38
  go_wp2_with fail
  refine HR.out.mono ?_
  rintro e w' ⟨rfl, rfl⟩
  clear HR
  go_wp2_with fail
  go_loopw [4, 14] (WtI w cl rr ins.length) (fun _ i _ => ins.length - (intOf i).toNat)
  case atStart => exact ⟨0, none, 0, Nat.zero_le _, rfl, rfl, OR.nil _ _ _, Below.refl _ _⟩
  case round =>
    obtain ⟨k, A, c, hk, rfl, rfl, hor, hb⟩ := hrel
    by_cases hlt : k < ins.length
    · obtain ⟨gi, A1, n1, c1, q, rfl, hc, hq, hn, hcl⟩ := HCE.out wr hb k hlt
      have HC := hideP (fun W => closed_any A1 n1 c1 q hq (by omega) W)
      have HSTEP := hideP (waitK_step cl rr k q hcl)
      have hwl := waitK_len cl rr k
      have g2 : (0 : Int) ≤ (k : Int) := by omega
      have g3 : (k : Int) < (ins.length : Int) := by omega
      clear c0 hcl hq
      by_cases e : q = rr
      · subst e
        obtain ⟨A', c', w2, hrun, hor2, hbel, _, _⟩ := app_row (P := Tryz.prog) Tryz.underlying22 intInfo rfl wr w.heap.size 22 A c _ hor [.int .i64 (k : Int)] (by simp [Value.oneCell']) (by simp [nV]; omega) (by decide) hb.size
        have b2 := hbel _ _ (Nat.le_refl _) hb
        rw [show nV (waitK cl q k) ++ [.int .i64 (k : Int)] = nV (waitK cl q (k + 1)) by rw [HSTEP.out, if_pos rfl]; simp [nV]] at hrun hor2
        rw [nV_length, nV_length] at hrun
        have HR := hideP hrun
        have HREL := hideP (fun (i : Value) (hi : i = .int .i64 ((k + 1 : Nat) : Int)) => show WtI w cl q ins.length (.slice A' (waitK cl q (k + 1)).length c') i w2 from ⟨k + 1, A', c', by omega, hi, rfl, hor2, b2⟩)
        clear hrun hor hb hor2 b2
        generalize waitK cl q (k + 1) = l2 at HR HREL HSTEP
        generalize waitK cl q k = l1 at HR HSTEP hwl ⊢
        go_wp2_with fail
        refine (HC.out _).mono ?_
        rintro e w' ⟨rfl, rfl⟩
        go_wp2_with (at_builtin; refine Lib.wpList_append_run _ rfl _ _ _ _ rfl _ _ rfl rfl _ _ HR.out ?_)
        go_roundw
        case rel => exact HREL.out _ (by go_num)
        case measure => simp [intOf]; omega
      · have HE := hideP (show waitK cl rr (k + 1) = waitK cl rr k by rw [HSTEP.out, if_neg e])
        have d1 : ((q : Int) == (rr : Int)) = false := by simp; omega
        clear HSTEP
        go_wp2_with fail
        refine (HC.out _).mono ?_
        rintro e w' ⟨rfl, rfl⟩
        go_wp2_with fail
        go_roundw
        case rel => exact ⟨k + 1, A, c, by omega, by go_num, by rw [HE.out], by rw [HE.out]; exact hor, hb⟩
        case measure => simp [intOf]; omega
    · obtain rfl : k = ins.length := by omega
      rw [HEND.out] at hor ⊢
      go_wp2_with fail
      go_ret
      exact ⟨A, c, rfl, hor, hb⟩
end Go.Proofs.YtefdipjhjgmokaaGreatDoor

set_option linter.unusedVariables false
set_option linter.unusedSimpArgs false
namespace Go.Proofs.YtefdipjhjgmokaaGreatDoor
open Go.RowKit

set_option maxHeartbeats 2000000 in
set_option maxRecDepth 100000 in
theorem rwaits_any (s : Rs) (w0 : World) (B : Nat) (w : World) (h : s.Ok w0 w B) :
    Calls Tryz.prog 59 #[.pointer (some ⟨s.g, 0, none⟩)] w (RetWt w (waitM s.ct)) := by
  have HR := hideP (fun (W : World) (hb : Below w.heap.size w W) => rrounds_any s w0 B W (h.below hb))
  have HC0 := hideP (fun (W : World) (hb : Below w.heap.size w W) => (h.below hb).rg.box.cell 0 (v := .slice s.AI s.ins.length s.cI) rfl)
  have HEND := hideP (show waitK (cloL s.ct) (rndM s.ct) s.ins.length = waitM s.ct by unfold waitK waitM Rs.ct; rw [show (ctM s.ins).length = s.ins.length by simp [ctM]])
  have HCE := hideP (fun (wr : World) (hb : Below w.heap.size w wr) (k : Nat) (hk : k < s.ins.length) => show ∃ (gi : Nat) (A : Option Addr) (n c q : Nat), s.AI = some ⟨gi, 0, none⟩ ∧ wr.cell? ⟨gi, k, none⟩ = some (.slice A n c) ∧ n = q + 1 ∧ n ≤ 61 ∧ (cloL s.ct)[k]? = some q ∧ rndM s.ct ≤ q from by
    obtain ⟨x, hx⟩ : ∃ x, s.ins[k]? = some x := ⟨_, List.getElem?_eq_getElem hk⟩
    obtain ⟨gi, e, hc⟩ := (h.below hb).rg.cell_ hx
    obtain ⟨q, hq⟩ := h.rg.pos hx
    have hle := rnd_le (ctM s.ins) (b := ctI x) (List.mem_map_of_mem (List.mem_of_getElem? hx))
    have hl : (ctI x).length = x.bs.length := by simp [ctI]
    exact ⟨gi, _, _, _, q, e, hc, hq, h.gm.bs _ x hx, by unfold Rs.ct; rw [clo_ct, List.getElem?_map, hx]; simp [hq], by unfold Rs.ct; omega⟩)
  have c0 := h.rg.box.cell 0 (v := .slice s.AI s.ins.length s.cI) rfl
  have hfew := h.gm.few
  generalize cloL s.ct = cl at HEND HCE
  generalize rndM s.ct = rr at HR HEND HCE
  generalize waitM s.ct = wt at HEND ⊢
  clear h
  go_enter Tryz.func59, Tryz.ntmps59
  go_wp2_with fail
  go_loopw [3, 11] (WtI w cl rr s.ins.length) (fun _ i _ => s.ins.length - (intOf i).toNat)
  case atStart => exact ⟨0, none, 0, Nat.zero_le _, rfl, rfl, OR.nil _ _ _, Below.refl _ _⟩
  case round =>
    clear c0
    obtain ⟨k, A, c, hk, rfl, rfl, hor, hb⟩ := hrel
    by_cases hlt : k < s.ins.length
    · obtain ⟨gi, A1, n1, c1, q, hAI, hc, hq, hn, hcl, hle⟩ := HCE.out wr hb k hlt
      have HRr := hideP (HR.out wr hb)
      have HSTEP := hideP (waitK_step cl rr k q hcl)
      have hwl := waitK_len cl rr k
      have g2 : (0 : Int) ≤ (k : Int) := by omega
      have g3 : (k : Int) < (s.ins.length : Int) := by omega
      have pw : IntKind.i64.wrap ((n1 : Int) - 1) = (q : Int) := by simp only [IntKind.wrap_i64]; omega
      rw [hAI]
      clear hcl hq
      by_cases e : q = rr
      · subst e
        obtain ⟨A', c', w2, hrun, hor2, hbel, _, _⟩ := app_row (P := Tryz.prog) Tryz.underlying22 intInfo rfl wr w.heap.size 22 A c _ hor [.int .i64 (k : Int)] (by simp [Value.oneCell']) (by simp [nV]; omega) (by decide) hb.size
        have b2 := hbel _ _ (Nat.le_refl _) hb
        rw [show nV (waitK cl q k) ++ [.int .i64 (k : Int)] = nV (waitK cl q (k + 1)) by rw [HSTEP.out, if_pos rfl]; simp [nV]] at hrun hor2
        rw [nV_length, nV_length] at hrun
        have HRN := hideP hrun
        have HREL := hideP (fun (i : Value) (hi : i = .int .i64 ((k + 1 : Nat) : Int)) => show WtI w cl q s.ins.length (.slice A' (waitK cl q (k + 1)).length c') i w2 from ⟨k + 1, A', c', by omega, hi, rfl, hor2, b2⟩)
        have d1 : (q : Int) ≤ (q : Int) := by omega
        clear hrun hor hb hor2 b2 hAI hle
        generalize waitK cl q (k + 1) = l2 at HRN HREL HSTEP
        generalize waitK cl q k = l1 at HRN HSTEP hwl ⊢
        go_wp2_with fail
        refine HRr.out.mono ?_
        rintro e w' ⟨rfl, rfl⟩
        go_wp2_with (at_builtin; refine Lib.wpList_append_run _ rfl _ _ _ _ rfl _ _ rfl rfl _ _ HRN.out ?_)
        go_roundw
        case rel => exact HREL.out _ (by go_num)
        case measure => simp [intOf]; omega
      · have HE := hideP (show waitK cl rr (k + 1) = waitK cl rr k by rw [HSTEP.out, if_neg e])
        have d1 : ¬ (q : Int) ≤ (rr : Int) := by omega
        clear HSTEP hAI
        go_wp2_with fail
        refine HRr.out.mono ?_
        rintro e w' ⟨rfl, rfl⟩
        go_wp2_with fail
        go_roundw
        case rel => exact ⟨k + 1, A, c, by omega, by go_num, by rw [HE.out], by rw [HE.out]; exact hor, hb⟩
        case measure => simp [intOf]; omega
    · obtain rfl : k = s.ins.length := by omega
      rw [HEND.out] at hor ⊢
      go_wp2_with fail
      go_ret
      exact ⟨A, c, rfl, hor, hb⟩
end Go.Proofs.YtefdipjhjgmokaaGreatDoor

set_option linter.unusedVariables false
set_option linter.unusedSimpArgs false
namespace Go.Proofs.YtefdipjhjgmokaaGreatDoor
open Go.RowKit

theorem sum_le1 {β : Type} (l : List β) (f g : β → Nat) (h : ∀ x ∈ l, f x ≤ g x) : (l.map f).sum ≤ (l.map g).sum := by
  induction l with
  | nil => exact Nat.le_refl _
  | cons a l ih =>
    have h1 := h a (by simp)
    have h2 := ih fun x hx => h x (by simp [hx])
    simp; omega
theorem log_len1 {α : Type} (ct : List (List (List α))) : (logM ct).length ≤ 60 * totM ct := by
  have h : ∀ R, (logUp ct R).length ≤ R * totM ct := fun R => by
    induction R with
    | zero => simp [logUp]
    | succ R ih =>
      rw [logUp_succ, List.length_append, Nat.succ_mul]
      have : (roundL ct R).length ≤ totM ct := by
        unfold roundL totM
        rw [List.length_flatten, List.map_map]
        refine sum_le1 ct _ _ fun b _ => ?_
        simp only [Function.comp_apply]
        cases e : b[R]? with
        | none => simp
        | some l => exact mem_sum (List.mem_map_of_mem (List.mem_of_getElem? e))
      omega
  exact Nat.le_trans (h _) (Nat.mul_le_mul_right _ (rnd_60 ct))
theorem log_fewM {s : Ms} {w : World} {B : Nat} {ct : List (List (List Ent))} (h : s.Ok w B) (hc : s.ct = ct) {xs : List Em} (he : xs.map entOf = logM ct) : ∀ x ∈ xs, x.d.length < 4611686018427387904 := fun x hx => by
  have h1 : entOf x ∈ logM s.ct := by rw [hc, ← he]; exact List.mem_map_of_mem hx
  unfold logM logUp at h1
  obtain ⟨l, hl, h1⟩ := List.mem_flatten.1 h1
  obtain ⟨r, _, rfl⟩ := List.mem_map.1 hl
  unfold roundL at h1
  obtain ⟨l, hl, h1⟩ := List.mem_flatten.1 h1
  obtain ⟨b, hb, rfl⟩ := List.mem_map.1 hl
  cases e2 : b[r]? with
  | none => rw [e2] at h1; simp at h1
  | some l =>
    rw [e2] at h1
    obtain ⟨xi, hxi, rfl⟩ := List.mem_map.1 hb
    have hlm := List.mem_of_getElem? e2
    obtain ⟨t, ht, rfl⟩ := List.mem_map.1 hlm
    obtain ⟨y, hy, hye⟩ := List.mem_map.1 h1
    obtain ⟨i, hi⟩ := List.mem_iff_getElem?.1 hxi
    obtain ⟨k, hk⟩ := List.mem_iff_getElem?.1 ht
    obtain ⟨c1, c2⟩ := h.mg.good i xi k t hi hk y hy
    rw [hye] at c1 c2
    obtain ⟨D, c, d, isM, m⟩ := x
    cases isM
    · have := (chkD_zero.1 (show chkD d = 0 from c1)).2.1
      simp only; omega
    · have : ([] : List Opr) = d := congrArg Ent.d c2
      simp only; rw [← this]; simp
end Go.Proofs.YtefdipjhjgmokaaGreatDoor
