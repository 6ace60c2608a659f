/-
  (*roref.Copies).Is1, Step and Take.
  roref.BareEntry.
  The document's Add: how much is held, and what is written (no body of the program in it).
-/
import Derived.Test.YtefdipjhjgmokaaGreatDoorBx33
import Derived.Test.YtefdipjhjgmokaaGreatDoorBx28
import Derived.Test.YtefdipjhjgmokaaGreatDoorBx2
import Derived.WalkKit
import Derived.WalkSpells
import Derived.WalkLawsBesides
import Derived.Test.YtefdipjhjgmokaaGreatDoorBx16
import Derived.Test.YtefdipjhjgmokaaGreatDoorBx30
set_option linter.unusedVariables false
set_option linter.unusedSimpArgs false
namespace Go.Proofs.YtefdipjhjgmokaaGreatDoor
open Go.RowKit

/-- the states of the replicas -/
def Rc.st (c : Rc) : List Sr := c.dn.map fun k => playR c.r0 ((logM c.r.ct).take k)
/-- no replica has done more than there is -/
structure Rc.Le (c : Rc) : Prop where
  le : ∀ k ∈ c.dn, k ≤ (logM c.r.ct).length
  ck : ∀ e ∈ logM c.r.ct, chkE e = 0
  lm : (logM c.r.ct).length ≤ 3600
theorem Rc.st_len (c : Rc) (i : Nat) (k : Nat) (hk : k ≤ (logM c.r.ct).length) : (playR c.r0 ((logM c.r.ct).take k)).bs.length = k := by
  rw [playR_len, List.length_take, Nat.min_eq_left hk]; simp [Rc.r0]
set_option maxRecDepth 100000 in
theorem rcis_any (c : Rc) (w0 : World) (B : Nat) (i : Int) (w : World) (h : c.Ok w0 w B) (hl : c.dn.length ≤ 1000000) :
    Calls Tryz.prog 61 #[.pointer (some ⟨c.gc, 0, none⟩), .int .i64 i] w fun e w' => e = .returned (.bool (decide (0 ≤ i ∧ i < (c.dn.length : Int)))) ∧ w = w' := by
  have c0 := h.box.cell 4 (v := .slice c.AD c.dn.length c.cD) rfl
  generalize c.dn.length = n at c0 hl ⊢
  have HE := hideP (show (decide (0 ≤ i) && decide (i ≤ (n : Int) - 1)) = decide (0 ≤ i ∧ i < (n : Int)) by
    by_cases h1 : 0 ≤ i <;> by_cases h2 : i < (n : Int)
    all_goals simp [h1, h2] <;> omega)
  have pw : IntKind.i64.wrap ((n : Int) - 1) = (n : Int) - 1 := by simp only [IntKind.wrap_i64]; omega
  clear h
  generalize decide (0 ≤ i ∧ i < (n : Int)) = d at HE ⊢
  go_enter Tryz.func61, Tryz.ntmps61
  go_wp2_with fail
  refine (rwithin_any _ _ _ _).mono ?_
  rintro e w' ⟨rfl, rfl⟩
  rw [HE.out]
  go_wp2_with fail
  go_ret
  exact ⟨rfl, rfl⟩
/-- what Step hands back -/
def RetRs (w0 w : World) (B : Nat) (c : Rc) (b : Bool) (q : Int) (st' : List Sr) (e : Ending) (w' : World) : Prop :=
  ∃ c' : Rc, e = .returned (.tuple #[.bool b, .int .i64 q]) ∧ c.To w0 w B c' w' c.r.ct c'.dn ∧ c'.st = st' ∧ c'.Le ∧ c'.dn.length = c.dn.length
theorem Rc.st_get (c : Rc) {i k : Nat} (h : c.dn[i]? = some k) : c.st[i]? = some (playR c.r0 ((logM c.r.ct).take k)) := by simp [Rc.st, h]
theorem Rc.st_set (c : Rc) {i k : Nat} : (Rc.mk c.r c.gc c.m c.mb c.n c.l c.AD c.cD (c.dn.set i k)).st = c.st.set i (playR c.r0 ((logM c.r.ct).take k)) := by
  unfold Rc.st
  rw [List.map_set]
  rfl
theorem Rc.Le.set_ {c : Rc} (h : c.Le) {i k : Nat} (hk : k ≤ (logM c.r.ct).length) : (Rc.mk c.r c.gc c.m c.mb c.n c.l c.AD c.cD (c.dn.set i k)).Le :=
  ⟨fun j hj => by
    rcases List.mem_or_eq_of_mem_set (show j ∈ c.dn.set i k from hj) with hj | rfl
    · exact h.le j hj
    · exact hk, h.ck, h.lm⟩
set_option maxHeartbeats 4000000 in
set_option maxRecDepth 100000 in
theorem rcstep_any (c : Rc) (w0 : World) (B : Nat) (i : Int) (w : World) (h : c.Ok w0 w B) (hl : c.Le) (hd : c.dn.length ≤ 1000000) :
    Calls Tryz.prog 54 #[.pointer (some ⟨c.gc, 0, none⟩), .int .i64 i] w (RetRs w0 w B c (cpB (logM c.r.ct) c.st i) (cpQ (logM c.r.ct) c.st i) (cpS (logM c.r.ct) c.st i)) := by
  have hsl : c.st.length = c.dn.length := by simp [Rc.st]
  have HI := hideP (rcis_any c w0 B i w h hd)
  by_cases hin : 0 ≤ i ∧ i < (c.dn.length : Int)
  · obtain ⟨n, rfl⟩ : ∃ n : Nat, i = n := ⟨i.toNat, by omega⟩
    have hn : n < c.dn.length := by omega
    rw [decide_eq_true hin] at HI
    obtain ⟨k, hk⟩ : ∃ k, c.dn[n]? = some k := ⟨_, List.getElem?_eq_getElem hn⟩
    obtain ⟨hn', hkn⟩ := List.getElem?_eq_some_iff.1 hk
    have hkl := hl.le k (List.mem_of_getElem? hk)
    have hst := c.st_get hk
    have hbl := c.st_len n k hkl
    obtain ⟨gd, hAD, _, hcd, _⟩ := h.set_ hn 0
    rw [hkn] at hcd
    have hgl : gd < w.heap.size := cell_lt hcd
    have HC := hideP (fun (W : World) (hb : Below w.heap.size w W) => show (W.cell? ⟨c.gc, 0, none⟩ = some (.pointer (some ⟨c.r.g, 0, none⟩)) ∧ W.cell? ⟨c.gc, 4, none⟩ = some (.slice (some ⟨gd, 0, none⟩) c.dn.length c.cD)) ∧ W.cell? ⟨gd, n, none⟩ = some (.int .i64 (k : Int)) from by
      have hx := (h.below hb).box
      exact ⟨⟨hx.cell 0 rfl, by rw [← hAD]; exact hx.cell 4 rfl⟩, (hb.cell hgl).trans hcd⟩)
    have hwd := (Below.refl w.heap.size w).drew
    have HL := hideP (rlog_any c.r w0 B w.drew (h.ro.below hwd))
    have k1 := HC.out w.drew hwd
    have g1 : (0 : Int) ≤ (n : Int) := by omega
    have g2 : (n : Int) < (c.dn.length : Int) := by omega
    have HWAIT := hideP (fun (hle : (logM c.r.ct).length ≤ k) (W : World) (hb : Below w.heap.size w W) => show RetRs w0 w B c (cpB (logM c.r.ct) c.st (n : Int)) (cpQ (logM c.r.ct) c.st (n : Int)) (cpS (logM c.r.ct) c.st (n : Int)) (.returned (.tuple #[.bool false, .int .i64 6])) W from by
      obtain ⟨e1, e2, e3⟩ := cp_wait hst (by rw [hbl]; exact hle)
      exact ⟨c, by rw [e1, e2], Rc.To.same h hb, e3.symm, hl, rfl⟩)
    have HGO := hideP (fun (hlt : k < (logM c.r.ct).length) (W : World) (hb : Below w.heap.size w W) =>
      show W.frozen? ⟨gd, n, none⟩ = false ∧ Calls Tryz.prog 62 #[.pointer (some ⟨c.gc, 0, none⟩), .int .i64 (n : Int)] (W.setCell ⟨gd, n, none⟩ (.int .i64 ((k + 1 : Nat) : Int))) (RetRnw w0 (W.setCell ⟨gd, n, none⟩ (.int .i64 ((k + 1 : Nat) : Int))) (playR c.r0 ((logM c.r.ct).take (k + 1)))) ∧
        (playR c.r0 ((logM c.r.ct).take (k + 1))).bs.length = k + 1 ∧ (playR c.r0 ((logM c.r.ct).take (k + 1))).bs[k]? = some (cpB (logM c.r.ct) c.st (n : Int)) ∧
        ∀ W2, Below (W.setCell ⟨gd, n, none⟩ (.int .i64 ((k + 1 : Nat) : Int))).heap.size (W.setCell ⟨gd, n, none⟩ (.int .i64 ((k + 1 : Nat) : Int))) W2 → RetRs w0 w B c (cpB (logM c.r.ct) c.st (n : Int)) (cpQ (logM c.r.ct) c.st (n : Int)) (cpS (logM c.r.ct) c.st (n : Int)) (.returned (.tuple #[.bool (cpB (logM c.r.ct) c.st (n : Int)), .int .i64 0])) W2 from by
      obtain ⟨gd', e, fz, _, T⟩ := (h.below hb).set_ hn (k + 1)
      rw [hAD] at e; injection e with e; injection e with e _ _
      subst e
      obtain ⟨e1, e2, e3⟩ := cp_go (x := (logM c.r.ct)[k]) hst (by rw [hbl]; exact List.getElem?_eq_getElem hlt)
      have hp := playR_take c.r0 _ k hlt
      have hle2 : (Rc.mk c.r c.gc c.m c.mb c.n c.l c.AD c.cD (c.dn.set n (k + 1))).Le := hl.set_ hlt
      refine ⟨fz, rnow_any ⟨c.r, c.gc, c.m, c.mb, c.n, c.l, c.AD, c.cD, c.dn.set n (k + 1)⟩ w0 B n (k + 1) _ T.ok (by rw [List.getElem?_set, if_pos rfl, if_pos hn]) hlt hl.ck hl.lm, c.st_len n (k + 1) hlt, ?_, fun W2 hb2 => ⟨_, by rw [e1], (T.post hb2).pre hb, ?_, hle2, by simp⟩⟩
      · rw [hp, stepR_bs, List.getElem?_append_right (by rw [hbl]; exact Nat.le_refl _), hbl, Nat.sub_self, e2]; rfl
      · rw [c.st_set, e3, hp])
    generalize (playR c.r0 ((logM c.r.ct).take (k + 1))) = s1 at HGO
    generalize cpB (logM c.r.ct) c.st (n : Int) = cb at HWAIT HGO ⊢
    generalize cpQ (logM c.r.ct) c.st (n : Int) = cq at HWAIT HGO ⊢
    generalize cpS (logM c.r.ct) c.st (n : Int) = cs at HWAIT HGO ⊢
    have hlm := hl.lm
    generalize logM c.r.ct = es at HL HWAIT HGO hkl hlm
    have hbw := Below.refl w.heap.size w
    have hgc : ∀ W, Below w.heap.size w W → Below w.heap.size w W.drew := fun W hb => hb.drew
    generalize c.r.g = g at HC HL k1
    generalize hdl : c.dn.length = dl at HC k1 g2
    generalize hgc2 : c.gc = gc at HC HI HGO k1 ⊢
    clear hst hbl hk hkn hn' hn hin hAD hcd hgl hsl hdl hgc2 hgc hl h hd
    go_enter Tryz.func54, Tryz.ntmps54
    go_wp2_with fail
    refine HI.out.mono ?_
    rintro e w' ⟨rfl, rfl⟩
    clear HI
    go_wp2_with fail
    go_region_held3 (fun W => (W.cell? ⟨gc, 0, none⟩ = some (.pointer (some ⟨g, 0, none⟩)) ∧ W.cell? ⟨gc, 4, none⟩ = some (.slice (some ⟨gd, 0, none⟩) dl c.cD)) ∧ W.cell? ⟨gd, n, none⟩ = some (.int .i64 (k : Int))) (with_reducible first | exact k2 | exact k1) (
      (go_at_call 60
       refine HL.out.mono ?_
       rintro e w4 ⟨A, cA, xs, rfl, hxs, hER, hb4⟩
       have b4 := hwd.trans (hb4.mono hwd.size)
       have k2 := HC.out w4 b4))
    all_goals
      have hxl : xs.length = es.length := by rw [← hxs, List.length_map]
      by_cases hle : es.length ≤ k
      · have HF := hideP (HWAIT.out hle w4 b4)
        have d1 : (xs.length : Int) ≤ (k : Int) := by omega
        clear hxs hER hb4 hxl HGO HWAIT hle
        go_wp2_with fail
        go_ret2
        exact HF.out
      · obtain ⟨fz, hnw, hsl, hsb, hfin⟩ := HGO.out (by omega) w4 b4
        have HNW := hideP hnw
        have HFN := hideP hfin
        have HSB := hideP (And.intro hsl hsb)
        have d1 : ¬ (xs.length : Int) ≤ (k : Int) := by omega
        have pw : IntKind.i64.wrap ((k : Int) + 1) = ((k + 1 : Nat) : Int) := by simp only [IntKind.wrap_i64]; omega
        obtain ⟨⟨q0, q1⟩, q2⟩ := k2
        clear hxs hER hb4 hxl HGO HWAIT hle hnw hfin hsl hsb k1
        go_wp2_with fail
        refine HNW.out.mono ?_
        clear HNW
        rintro e w6 ⟨bm, nn, m, A2, cA2, rfl, -, -, -, -, -, hob, hb6⟩
        have al := (Below.refl w6.heap.size w6).alloc (Nat.le_refl _) (.cells #[.slice m.A m.cs.length m.ca, .slice m.O m.os.length m.co] 34)
        obtain ⟨b2, o2, hA2, hbl2, q3⟩ := (hob.vs.below al) k (.bool cb) (by rw [List.getElem?_map, HSB.out.2]; rfl)
        have HF := hideP (HFN.out _ (hb6.trans (al.mono hb6.size)))
        have hs1 := HSB.out.1
        subst hA2
        have pw2 : IntKind.i64.wrap (((k + 1 : Nat) : Int) - 1) = (k : Int) := by simp only [IntKind.wrap_i64]; omega
        have g3 : (0 : Int) ≤ (k : Int) := by omega
        have g4 : (k : Int) < ((k + 1 : Nat) : Int) := by omega
        rw [hs1]
        generalize ((k + 1 : Nat) : Int) = kk at pw2 g4 HFN ⊢
        clear hob al hb6 HFN HSB hs1 q0 q1 q2 fz
        go_wp2_with fail
        go_ret2
        exact HF.out
  · rw [decide_eq_false hin] at HI
    obtain ⟨e1, e2, e3⟩ := cp_none (log := logM c.r.ct) (st := c.st) (i := i) (by rw [hsl]; exact hin)
    have HF := hideP (show RetRs w0 w B c (cpB (logM c.r.ct) c.st i) (cpQ (logM c.r.ct) c.st i) (cpS (logM c.r.ct) c.st i) (.returned (.tuple #[.bool false, .int .i64 4])) w from ⟨c, by rw [e1, e2], Rc.To.same h (Below.refl _ _), e3.symm, hl, rfl⟩)
    clear e1 e2 e3 hin h hl hsl
    go_enter Tryz.func54, Tryz.ntmps54
    go_wp2_with fail
    refine HI.out.mono ?_
    rintro e w' ⟨rfl, rfl⟩
    clear HI
    go_wp2_with fail
    go_ret2
    exact HF.out
/-- what Take hands back -/
def RetRt (w0 w : World) (B : Nat) (c : Rc) (q : Int) (st' : List Sr) (e : Ending) (w' : World) : Prop :=
  ∃ c' : Rc, e = .returned (.int .i64 q) ∧ c.To w0 w B c' w' c.r.ct c'.dn ∧ c'.st = st' ∧ c'.Le ∧ c'.dn.length = c.dn.length
theorem RetRt.drew {w0 w w' : World} {B : Nat} {c : Rc} {q : Int} {st' : List Sr} {e : Ending} (h : RetRt w0 w B c q st' e w') : RetRt w0 w B c q st' e w'.drew := by
  obtain ⟨c', h1, h2, h3⟩ := h
  exact ⟨c', h1, h2.post (Below.refl _ _).drew, h3⟩
set_option maxHeartbeats 4000000 in
set_option maxRecDepth 100000 in
theorem rctake_any (c : Rc) (w0 : World) (B : Nat) (i j : Int) (w : World) (h : c.Ok w0 w B) (hl : c.Le) (hd : c.dn.length ≤ 1000000) :
    Calls Tryz.prog 55 #[.pointer (some ⟨c.gc, 0, none⟩), .int .i64 i, .int .i64 j] w (RetRt w0 w B c (ctQ c.st i j) (ctS c.st i j)) := by
  have hsl : c.st.length = c.dn.length := by simp [Rc.st]
  have HI := hideP (rcis_any c w0 B i w h hd)
  have HJ := hideP (rcis_any c w0 B j w h hd)
  by_cases hin : (0 ≤ i ∧ i < (c.dn.length : Int)) ∧ (0 ≤ j ∧ j < (c.dn.length : Int))
  · rw [decide_eq_true hin.1] at HI
    rw [decide_eq_true hin.2] at HJ
    obtain ⟨n, rfl⟩ : ∃ n : Nat, i = n := ⟨i.toNat, by omega⟩
    obtain ⟨m, rfl⟩ : ∃ n : Nat, j = n := ⟨j.toNat, by omega⟩
    have hn : n < c.dn.length := by omega
    have hm : m < c.dn.length := by omega
    obtain ⟨k, hk⟩ : ∃ k, c.dn[n]? = some k := ⟨_, List.getElem?_eq_getElem hn⟩
    obtain ⟨t, ht⟩ : ∃ k, c.dn[m]? = some k := ⟨_, List.getElem?_eq_getElem hm⟩
    have hkl := hl.le k (List.mem_of_getElem? hk)
    have htl := hl.le t (List.mem_of_getElem? ht)
    have hst := c.st_get hk
    have htt := c.st_get ht
    have hbl := c.st_len n k hkl
    have htb := c.st_len m t htl
    obtain ⟨_, hkn⟩ := List.getElem?_eq_some_iff.1 hk
    obtain ⟨_, htn⟩ := List.getElem?_eq_some_iff.1 ht
    obtain ⟨gd, hAD, fz, hcd, T⟩ := h.set_ hn t
    obtain ⟨gd', e, _, hcm, _⟩ := h.set_ hm t
    rw [hAD] at e; injection e with e; injection e with e _ _
    subst e
    rw [hkn] at hcd
    rw [htn] at hcm
    have c4 : w.cell? ⟨c.gc, 4, none⟩ = some (.slice (some ⟨gd, 0, none⟩) c.dn.length c.cD) := by rw [← hAD]; exact h.box.cell 4 rfl
    have g1 : (0 : Int) ≤ (n : Int) := by omega
    have g2 : (n : Int) < (c.dn.length : Int) := by omega
    have g3 : (0 : Int) ≤ (m : Int) := by omega
    have g4 : (m : Int) < (c.dn.length : Int) := by omega
    by_cases hlt : t < k
    · obtain ⟨e1, e2⟩ := ct_wait hst htt (by rw [hbl, htb]; exact hlt)
      have HF := hideP (show RetRt w0 w B c (ctQ c.st (n : Int) (m : Int)) (ctS c.st (n : Int) (m : Int)) (.returned (.int .i64 6)) w from ⟨c, by rw [e1], Rc.To.same h (Below.refl _ _), e2.symm, hl, rfl⟩)
      have d1 : (t : Int) < (k : Int) := by omega
      generalize c.dn.length = dl at c4 g2 g4
      clear e1 e2 hin h hl hsl hk ht hkl htl hst htt hbl htb hkn htn hAD T fz hn hm hlt hd
      go_enter Tryz.func55, Tryz.ntmps55
      go_wp2_with fail
      refine HI.out.mono ?_
      rintro e w' ⟨rfl, rfl⟩
      go_wp2_with fail
      refine HJ.out.mono ?_
      rintro e w' ⟨rfl, rfl⟩
      clear HI HJ
      go_wp2_with fail
      go_region
      all_goals
        go_wp2_with fail
        go_ret
        exact HF.out.drew
    · obtain ⟨e1, e2⟩ := ct_go hst htt (by rw [hbl, htb]; omega)
      have HF := hideP (show RetRt w0 w B c (ctQ c.st (n : Int) (m : Int)) (ctS c.st (n : Int) (m : Int)) (.returned (.int .i64 0)) (w.setCell ⟨gd, n, none⟩ (.int .i64 (t : Int))) from ⟨_, by rw [e1], T, by rw [c.st_set, e2], hl.set_ htl, by simp⟩)
      have d1 : ¬ (t : Int) < (k : Int) := by omega
      generalize c.dn.length = dl at c4 g2 g4
      clear e1 e2 hin h hl hsl hk ht hkl htl hst htt hbl htb hkn htn hAD T hn hm hlt hd
      go_enter Tryz.func55, Tryz.ntmps55
      go_wp2_with fail
      refine HI.out.mono ?_
      rintro e w' ⟨rfl, rfl⟩
      go_wp2_with fail
      refine HJ.out.mono ?_
      rintro e w' ⟨rfl, rfl⟩
      clear HI HJ
      go_wp2_with fail
      go_region
      all_goals
        go_wp2_with fail
        go_region
        all_goals
          go_wp2_with fail
          go_ret
          exact HF.out.drew.drew
  · obtain ⟨e1, e2⟩ := ct_none (st := c.st) (i := i) (k := j) (by rw [hsl]; exact hin)
    have HF := hideP (show RetRt w0 w B c (ctQ c.st i j) (ctS c.st i j) (.returned (.int .i64 4)) w from ⟨c, by rw [e1], Rc.To.same h (Below.refl _ _), e2.symm, hl, rfl⟩)
    by_cases h1 : 0 ≤ i ∧ i < (c.dn.length : Int)
    · rw [decide_eq_true h1] at HI
      rw [decide_eq_false fun e => hin ⟨h1, e⟩] at HJ
      clear e1 e2 hin h hl hsl h1
      go_enter Tryz.func55, Tryz.ntmps55
      go_wp2_with fail
      refine HI.out.mono ?_
      rintro e w' ⟨rfl, rfl⟩
      go_wp2_with fail
      refine HJ.out.mono ?_
      rintro e w' ⟨rfl, rfl⟩
      clear HI HJ
      go_wp2_with fail
      go_ret
      exact HF.out
    · rw [decide_eq_false h1] at HI
      clear e1 e2 hin h hl hsl h1
      go_enter Tryz.func55, Tryz.ntmps55
      go_wp2_with fail
      refine HI.out.mono ?_
      rintro e w' ⟨rfl, rfl⟩
      clear HI HJ
      go_wp2_with fail
      go_ret
      exact HF.out
end Go.Proofs.YtefdipjhjgmokaaGreatDoor

set_option linter.unusedVariables false
set_option linter.unusedSimpArgs false
namespace Go.Proofs.YtefdipjhjgmokaaGreatDoor
open Go.RowKit

/-- without what is not so -/
def beM (x : Em) : Em := if x.isM then ⟨none, 0, [], true, x.m⟩ else ⟨x.D, x.c, x.d, false, noM⟩
theorem ES.bare {w : World} {x : Em} (h : ES w x) : ES w (beM x) := by
  unfold beM
  split
  · exact ⟨OS.nil, h.map, by simp⟩
  · exact ⟨h.ops, (noM_mo w 0).ms, h.bd⟩
set_option maxHeartbeats 1000000 in
set_option maxRecDepth 100000 in
theorem bareent_any (x : Em) (w : World) :
    Calls Tryz.prog 34 #[emV x] w fun e w' => e = .returned (emV (beM x)) ∧ Below w.heap.size w w' := by
  have b0 := ((Below.refl w.heap.size w).alloc (Nat.le_refl _) (.cells (emC x) 42)).alloc (by simp) (.cells #[.slice none 0 0, .bool false, .slice none 0 0, .slice none 0 0] 42)
  have x0 := (Box.new w 42 (emC x)).alloc (.cells #[.slice none 0 0, .bool false, .slice none 0 0, .slice none 0 0] 42)
  have x1 := Box.new (w.alloc (.cells (emC x) 42)) 42 #[.slice none 0 0, .bool false, .slice none 0 0, .slice none 0 0]
  simp only [World.size_alloc] at x1
  obtain ⟨D, c, d, isM, ⟨A, ca, cs, O, co, os⟩⟩ := x
  unfold emV
  unfold emC at b0 x0 x1 ⊢
  simp only at b0 x0 x1 ⊢
  have c0 := x0.cell 0 (v := .slice D d.length c) rfl
  have c1 := x0.cell 1 (v := .bool isM) rfl
  have c2 := x0.cell 2 (v := .slice A cs.length ca) rfl
  have c3 := x0.cell 3 (v := .slice O os.length co) rfl
  cases isM
  · have R := Box.new (w.alloc (.cells #[.slice D d.length c, .bool false, .slice A cs.length ca, .slice O os.length co] 42)) 42 #[.slice D d.length c, .bool false, .slice none 0 0, .slice none 0 0]
    simp only [World.size_alloc] at R
    have r0 := R.cell 0 rfl
    have r1 := R.cell 1 rfl
    have r2 := R.cell 2 rfl
    have r3 := R.cell 3 rfl
    have HF := hideP (((Below.refl w.heap.size w).alloc (Nat.le_refl _) (.cells #[.slice D d.length c, .bool false, .slice A cs.length ca, .slice O os.length co] 42)).alloc (by simp) (.cells #[.slice D d.length c, .bool false, .slice none 0 0, .slice none 0 0] 42))
    clear R x0 x1 b0
    go_enter Tryz.func34, Tryz.ntmps34
    go_wp2_with fail
    exact bodyPost_ret (v := .agg #[.slice D d.length c, .bool false, .slice none 0 0, .slice none 0 0]) (by simp [results, Tryz.results34, go_sem, r0, r1, r2, r3]) rfl ⟨rfl, HF.out⟩
  · have R := Box.new (w.alloc (.cells #[.slice D d.length c, .bool true, .slice A cs.length ca, .slice O os.length co] 42)) 42 #[.slice none 0 0, .bool true, .slice A cs.length ca, .slice O os.length co]
    simp only [World.size_alloc] at R
    have r0 := R.cell 0 rfl
    have r1 := R.cell 1 rfl
    have r2 := R.cell 2 rfl
    have r3 := R.cell 3 rfl
    have HF := hideP (((Below.refl w.heap.size w).alloc (Nat.le_refl _) (.cells #[.slice D d.length c, .bool true, .slice A cs.length ca, .slice O os.length co] 42)).alloc (by simp) (.cells #[.slice none 0 0, .bool true, .slice A cs.length ca, .slice O os.length co] 42))
    clear R x0 x1 b0
    go_enter Tryz.func34, Tryz.ntmps34
    go_wp2_with fail
    exact bodyPost_ret (v := .agg #[.slice none 0 0, .bool true, .slice A cs.length ca, .slice O os.length co]) (by simp [results, Tryz.results34, go_sem, r0, r1, r2, r3]) rfl ⟨rfl, HF.out⟩
end Go.Proofs.YtefdipjhjgmokaaGreatDoor

set_option linter.unusedVariables false
set_option linter.unusedSimpArgs false
namespace Go.Proofs.YtefdipjhjgmokaaGreatDoor
open Go.RowKit

theorem ent_be (x : Em) : entOf (beM x) = dropE (entOf x) := by
  obtain ⟨D, c, d, isM, m⟩ := x
  cases isM <;> rfl
/-- how much the first inputs hold -/
def totK (ct : List (List (List Ent))) (k : Nat) : Nat := ((ct.take k).map totB).sum
theorem totK_next {ct : List (List (List Ent))} {k : Nat} {b : List (List Ent)} (h : ct[k]? = some b) : totK ct (k + 1) = totK ct k + totB b := by
  obtain ⟨hk, rfl⟩ := List.getElem?_eq_some_iff.1 h
  unfold totK
  rw [List.take_succ_eq_append_getElem hk, List.map_append, List.sum_append]
  simp
theorem totK_all (ct : List (List (List Ent))) : totK ct ct.length = totM ct := by unfold totK; rw [List.take_length]; rfl
theorem totB_le {ct : List (List (List Ent))} {k : Nat} {b : List (List Ent)} (h : ct[k]? = some b) : totB b ≤ totM ct := mem_sum (List.mem_map_of_mem (f := totB) (List.mem_of_getElem? h))
theorem totK_le (ct : List (List (List Ent))) (k : Nat) : totK ct k ≤ totM ct := by
  have e : totM ct = ((ct.take k ++ ct.drop k).map totB).sum := by rw [List.take_append_drop]; rfl
  rw [List.map_append, List.sum_append] at e
  unfold totK
  omega
/-- an input's batches, as slices -/
def elOf (x : In) : List El := x.bs.map fun b => ⟨b.A, b.c, b.es⟩
theorem elOf_len (x : In) : (catE (elOf x)).length = totB (ctI x) := by
  unfold elOf catE totB ctI
  rw [List.length_flatMap, List.map_map, List.map_map]
  congr 1
  refine List.map_congr_left fun b _ => ?_
  simp
set_option maxRecDepth 100000 in
/-- append of one entry that lies elsewhere onto a row of the call's own -/
theorem app_one (w : World) (base : Nat) (ty : TypeId) (A : Option Addr) (c : Nat) (l : List Em) (hown : w.ownsRow base 42 4 (.slice A l.length c) l.length (emCells l)) (x : Em) (hl : l.length ≤ 1000000000000) (hbase : base ≤ w.heap.size) :
    ∃ A' c' w', (Builtin.append_ #[26, 26] ty #[.slice A l.length c, .slice (some ⟨w.heap.size, 0, none⟩) 1 1]).run Tryz.prog (w.alloc (.cells (emC x) 42)) = .ok (.slice A' (l ++ [x]).length c') w' ∧ w'.ownsRow base 42 4 (.slice A' (l ++ [x]).length c') (l ++ [x]).length (emCells (l ++ [x])) ∧
      (∀ B a, B ≤ base → Below B a w → Below B a w') := by
  obtain ⟨i0, hi, hz0, hz1, hz2⟩ := info_parts entInfo
  rw [← emCells_one]
  have hc : ∀ j u, (emCells [x])[j]? = some u → (w.alloc (.cells (emCells [x]).toArray 42)).cell? ((⟨w.heap.size, 0, none⟩ : Addr).add j) = some u := by
    intro j u hu
    rw [Addr.add_lit]
    simp only [World.cell?]
    rw [heap_alloc_new]
    simp [hu]
  have hown' : (w.alloc (.cells (emCells [x]).toArray 42)).ownsRow base 42 4 (.slice A l.length c) l.length (emCells l) := World.ownsRow.alloc hown _
  obtain ⟨v', w', hrun, h2, h3, _, h5⟩ := run_append_own_at (P := Tryz.prog) (w.alloc (.cells (emCells [x]).toArray 42)) base 26 ty 42 i0 _ 4 80 Tryz.underlying26 hi hz0 hz1 hz2 rfl (by decide) _ l.length (emCells l) hown' ⟨w.heap.size, 0, none⟩ 1 1 (emCells [x]) (by simp [emCells]) hc
    (by intro u hu; simp [emCells] at hu; rcases hu with rfl | rfl | rfl | rfl <;> rfl) (by unfold maxLen; omega) (by omega) (by simp; omega)
  rw [← emCells_append, show l.length + 1 = (l ++ [x]).length by simp] at h2
  obtain ⟨A', c', rfl⟩ := erow_parts h2
  refine ⟨A', c', w', hrun, h2, fun B a hB hb => ?_⟩
  have hb' := hb.alloc (Nat.le_trans hB hbase) (.cells (emCells [x]).toArray 42)
  exact hb'.grown h3 (by simp; omega) fun k hk => Nat.le_trans hB (World.ownsRow.lt hown' k hk).1
theorem Gm.radd {ins : List In} {i k : Nat} {x : In} {b : Bt} (h : Gm ins (totM (ctM ins))) (hi : ins[i]? = some x) (hk : x.bs[k]? = some b) (hkl : k = x.bs.length - 1) (ha : totM (ctM ins) < 60) (A : Option Addr) (c : Nat) (y : Em) : Gm (ins.set i ⟨x.A, x.c, x.bs.set k ⟨A, c, b.es ++ [y]⟩⟩) (totM (ctM (ins.set i ⟨x.A, x.c, x.bs.set k ⟨A, c, b.es ++ [y]⟩⟩))) := by
  have h2 := h.add hi hk hkl ha A c y
  have e := h2.cnt
  rw [← e]
  exact h2
/-- what Add writes at its end -/
theorem radd_end {s : Rs} {w0 wr w5 : World} {B n k : Nat} {x : Em} {xi : In} {b : Bt} {A1 : Option Addr} {c1 : Nat} (h : s.Ok w0 wr B) (hx : ES w0 x) (hi : s.ins[n]? = some xi) (hk : xi.bs[k]? = some b) (hkl : k = xi.bs.length - 1) (ha : totM s.ct < 60)
    (hb5 : Below wr.heap.size wr w5) (hrow : w5.ownsRow wr.heap.size 42 4 (.slice A1 b.es.length c1) b.es.length (emCells b.es)) :
    ∃ A' c' w7 m1 gx, xi.A = some ⟨gx, 0, none⟩ ∧ (Builtin.append_ #[26, 26] 26 #[.slice A1 b.es.length c1, .slice (some ⟨w5.heap.size, 0, none⟩) 1 1]).run Tryz.prog (w5.alloc (.cells (emC (beM x)) 42)) = .ok (.slice A' m1 c') w7 ∧ Below wr.heap.size wr w7 ∧
      w7.cell? ⟨gx, k, none⟩ = some (.slice b.A b.es.length b.c) ∧ w7.frozen? ⟨gx, k, none⟩ = false ∧ ∃ s', s.To w0 wr B s' (w7.setCell ⟨gx, k, none⟩ (.slice A' m1 c')) (addM s.ct n (dropE (entOf x))) := by
  have hes := h.gm.es hi hk
  obtain ⟨A', c', w7, hrun, hr7, hbel⟩ := app_one w5 wr.heap.size 26 A1 c1 b.es hrow (beM x) (by omega) hb5.size
  have hb7 : Below wr.heap.size wr w7 := hbel _ _ (Nat.le_refl _) hb5
  have h7 := h.below hb7
  have hnew : ER w0 w7 B A' c' (b.es ++ [beM x]) := ⟨own_mono hr7 h.size, fun y hy => by
    rcases List.mem_append.1 hy with hy | hy
    · exact (h.rg.bat n xi k b hi hk).es y hy
    · rw [List.mem_singleton] at hy; subst hy; exact hx.bare⟩
  obtain ⟨gx, hA, q0, q1, hRG, hFr, hF⟩ := h7.rg.add hi hk A' c' (beM x) hnew
  have hG := h.gm.radd hi hk hkl (by unfold Rs.ct at ha; exact ha) A' c' (beM x)
  have hct : ctM (s.ins.set n ⟨xi.A, xi.c, xi.bs.set k ⟨A', c', b.es ++ [beM x]⟩⟩) = addM s.ct n (dropE (entOf x)) := by rw [← ent_be]; exact ct_add hi hk hkl A' c' (beM x)
  refine ⟨A', c', w7, _, gx, hA, hrun, hb7, q0, q1, ⟨s.g, s.AI, s.cI, s.ins.set n ⟨xi.A, xi.c, xi.bs.set k ⟨A', c', b.es ++ [beM x]⟩⟩⟩, rfl, ⟨hRG, hG, hFr.below (fun q hq => Nat.le_trans h.lb (h7.lo hq).1) (Nat.le_trans h.lb h7.size) h7.be, h.lb⟩, hct, (Fr.of_below hb7).comp hFr, fun q hq => (hF q hq).imp id fun e => ?_⟩
  exact (World.ownsRow.lt hr7 q (bo _ _ e)).1
/-- what the last statement reads -/
def SA (g gi gx gb n k : Nat) (v0 v1 v2 a0 a1 a2 a3 : Value) (W : World) : Prop :=
  W.cell? ⟨g, 0, none⟩ = some v0 ∧ W.cell? ⟨gi, n, none⟩ = some v1 ∧ W.cell? ⟨gx, k, none⟩ = some v2 ∧ W.cell? ⟨gb, 0, none⟩ = some a0 ∧ W.cell? ⟨gb, 1, none⟩ = some a1 ∧ W.cell? ⟨gb, 2, none⟩ = some a2 ∧ W.cell? ⟨gb, 3, none⟩ = some a3
end Go.Proofs.YtefdipjhjgmokaaGreatDoor
