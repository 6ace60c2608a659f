/-
  The document's Merge as a state; Is and Rounds.
  (*merge.Merge).Close.
  A box of four cells that is written (no program in it).
  An entry's box is written (no body of the program in it).
-/
import Derived.Test.YtcjfkbponikadaaDoorBp10
import Derived.Test.YtcjfkbponikadaaDoorBp11
import Derived.Lib.MinMax
import Derived.Deep.RegionLaw
import Derived.Test.YtcjfkbponikadaaDoorBp2
import Derived.Test.YtcjfkbponikadaaDoorBp3
set_option linter.unusedVariables false
set_option linter.unusedSimpArgs false
namespace Go.Proofs.YtcjfkbponikadaaDoor
open Go.RowKit

/-- the document's Merge: where it lies -/
structure Rs where
  g : Nat
  AI : Option Addr
  cI : Nat
  ins : List In
def Rs.F (s : Rs) (k : Nat) : Prop := CF s.g s.AI s.ins k
def Rs.ct (s : Rs) : List (List (List Ent)) := ctM s.ins
structure Rs.Ok (s : Rs) (w0 w : World) (B : Nat) : Prop where
  rg : RG w0 w B s.g s.AI s.cI s.ins
  gm : Gm s.ins (totM (ctM s.ins))
  be : Below w0.heap.size w0 w
  lb : w0.heap.size ≤ B
/-- a step of it -/
structure Rs.To (s : Rs) (w0 w : World) (B : Nat) (s' : Rs) (w' : World) (ct' : List (List (List Ent))) : Prop where
  g : s'.g = s.g
  ok : s'.Ok w0 w' B
  ct : s'.ct = ct'
  fr : Fr s.F w w'
  F : ∀ k, s'.F k → s.F k ∨ w.heap.size ≤ k
section
variable {s s' s2 : Rs} {w0 w w1 w' : World} {B B' : Nat} {ct' ct2 : List (List (List Ent))}
theorem Rs.Ok.below (h : s.Ok w0 w B) (hb : Below w.heap.size w w') : s.Ok w0 w' B := ⟨h.rg.below hb, h.gm, h.be.trans (hb.mono h.be.size), h.lb⟩
theorem Rs.Ok.lo (h : s.Ok w0 w B) {k : Nat} (hk : s.F k) : B ≤ k ∧ k < w.heap.size := (h.rg.cf_ty hk).2
theorem Rs.Ok.size (h : s.Ok w0 w B) : B ≤ w.heap.size := by have := h.rg.low; have := h.rg.box.lt; omega
theorem Rs.Ok.fr {F : Nat → Prop} (h : s.Ok w0 w B) (hf : Fr F w w') (hd : ∀ q, s.F q → ¬ F q) (hF : ∀ q, F q → w0.heap.size ≤ q) : s.Ok w0 w' B := ⟨h.rg.fr hf hd, h.gm, hf.below hF h.be.size h.be, h.lb⟩
theorem Rs.To.same (h : s.Ok w0 w B) (hb : Below w.heap.size w w') : s.To w0 w B s w' s.ct := ⟨rfl, h.below hb, rfl, .of_below hb, fun _ => .inl⟩
theorem Rs.To.post (h : s.To w0 w B s' w1 ct') (hb : Below w1.heap.size w1 w') : s.To w0 w B s' w' ct' := ⟨h.g, h.ok.below hb, h.ct, h.fr.comp (.of_below hb), h.F⟩
theorem Rs.To.pre (h : s.To w0 w1 B s' w' ct') (hb : Below w.heap.size w w1) : s.To w0 w B s' w' ct' := ⟨h.g, h.ok, h.ct, (Fr.of_below hb).comp h.fr, fun k hk => (h.F k hk).imp id fun e => Nat.le_trans hb.size e⟩
theorem Rs.Ok.off (h : s.Ok w0 w B) {t : TypeId} (h1 : t ≠ 58) (h2 : t ≠ 59) (h3 : t ≠ 23) (h4 : t ≠ 41) : Off s.F w t := h.rg.off h1 h2 h3 h4
theorem Rs.To.below_ {a : World} {B0 : Nat} (h : s.To w0 w B s' w' ct') (ho : s.Ok w0 w B) (hB : B0 ≤ B) (hb : Below B0 a w) : Below B0 a w' := h.fr.below (fun k hk => Nat.le_trans hB (ho.lo hk).1) (Nat.le_trans hB ho.size) hb
end
set_option maxRecDepth 100000 in
theorem ris_any (s : Rs) (w0 : World) (B : Nat) (i : Int) (w : World) (h : s.Ok w0 w B) :
    Calls Tryd.prog 25 #[.pointer (some ⟨s.g, 0, none⟩), .int .i64 i] w fun e w' => e = .returned (.bool (decide (0 ≤ i ∧ i < (s.ct.length : Int)))) ∧ w = w' := by
  have c0 := h.rg.box.cell 0 (v := .slice s.AI s.ins.length s.cI) rfl
  have hlen : s.ct.length = s.ins.length := by simp [Rs.ct, ctM]
  have hf := h.gm.few
  have HE := hideP (show (decide (0 ≤ i) && decide (i ≤ (s.ins.length : Int) - 1)) = decide (0 ≤ i ∧ i < (s.ct.length : Int)) by
    rw [hlen]
    by_cases h1 : 0 ≤ i <;> by_cases h2 : i < (s.ins.length : Int)
    all_goals simp [h1, h2] <;> omega)
  have pw : IntKind.i64.wrap ((s.ins.length : Int) - 1) = (s.ins.length : Int) - 1 := by simp only [IntKind.wrap_i64]; omega
  clear h hlen
  generalize decide (0 ≤ i ∧ i < (s.ct.length : Int)) = d at HE ⊢
  go_enter Tryd.func25, Tryd.ntmps25
  go_wp2_with fail
  refine (rwithin_any _ _ _ _).mono ?_
  rintro e w' ⟨rfl, rfl⟩
  rw [HE.out]
  go_wp2_with fail
  go_ret
  exact ⟨rfl, rfl⟩
theorem cl_le {ins : List In} {k q : Nat} (h : (cloL (ctM ins))[k]? = some q) : k < ins.length := by
  have := (List.getElem?_eq_some_iff.1 h).1
  rw [clo_ct, List.length_map] at this
  exact this
set_option maxHeartbeats 1000000 in
set_option maxRecDepth 100000 in
theorem rrounds_any (s : Rs) (w0 : World) (B : Nat) (w : World) (h : s.Ok w0 w B) :
    Calls Tryd.prog 15 #[.pointer (some ⟨s.g, 0, none⟩)] w fun e w' => e = .returned (.int .i64 (rndM s.ct : Nat)) ∧ w = w' := by
  have c0 := h.rg.box.cell 0 (v := .slice s.AI s.ins.length s.cI) rfl
  have HEND := hideP (show ((cloL s.ct).take s.ins.length).foldl min 60 = rndM s.ct by
    unfold rndM Rs.ct; rw [List.take_of_length_le (by rw [clo_ct, List.length_map]; exact Nat.le_refl _)])
  have HCE := hideP (fun (k : Nat) (hk : k < s.ins.length) => show ∃ (gi : Nat) (A : Option Addr) (n c q : Nat), s.AI = some ⟨gi, 0, none⟩ ∧ w.cell? ⟨gi, k, none⟩ = some (.slice A n c) ∧ n = q + 1 ∧ n ≤ 61 ∧ ((cloL s.ct).take (k + 1)).foldl min 60 = min (((cloL s.ct).take k).foldl min 60) q from by
    obtain ⟨x, hx⟩ : ∃ x, s.ins[k]? = some x := ⟨_, List.getElem?_eq_getElem hk⟩
    obtain ⟨gi, e, hc⟩ := h.rg.cell_ hx
    obtain ⟨q, hq⟩ := h.rg.pos hx
    have hcl : (cloL s.ct)[k]? = some q := by unfold Rs.ct; rw [clo_ct, List.getElem?_map, hx]; simp [hq]
    refine ⟨gi, _, _, _, q, e, hc, hq, h.gm.bs _ x hx, ?_⟩
    have hl : k < (cloL s.ct).length := (List.getElem?_eq_some_iff.1 hcl).1
    rw [List.take_succ_eq_append_getElem hl, List.foldl_append]
    rw [List.getElem?_eq_getElem hl] at hcl
    injection hcl with hcl
    rw [hcl]
    rfl)
  have hfew := h.gm.few
  generalize cloL s.ct = cl at HEND HCE
  generalize rndM s.ct = rr at HEND ⊢
  clear h
  go_enter Tryd.func15, Tryd.ntmps15
  go_wp2_with fail
  go_loop [3, 11] (fun v i => ∃ k : Nat, k ≤ s.ins.length ∧ i = .int .i64 k ∧ v = .int .i64 ((cl.take k).foldl min 60 : Nat)) (fun _ i => s.ins.length - (intOf i).toNat)
  case atStart => exact ⟨0, Nat.zero_le _, rfl, rfl⟩
  case round =>
    obtain ⟨k, hk, rfl, rfl⟩ := hrel
    by_cases hlt : k < s.ins.length
    · obtain ⟨gi, A, n, c, q, hAI, hc, hq, hn, hst⟩ := HCE.out k hlt
      rw [hAI] at c0 ⊢
      have HS := hideP hst
      have pw : IntKind.i64.wrap ((n : Int) - 1) = (q : Int) := by simp only [IntKind.wrap_i64]; omega
      clear hst hq hAI
      generalize (cl.take k).foldl min 60 = z at HS ⊢
      have g2 : (0 : Int) ≤ (k : Int) := by omega
      have g3 : (k : Int) < (s.ins.length : Int) := by omega
      go_wp2_with fail
      go_round
      case rel => exact ⟨k + 1, by omega, by go_num, by rw [HS.out]; congr 1; omega⟩
      case measure => simp [intOf]; omega
    · obtain rfl : k = s.ins.length := by omega
      rw [HEND.out]
      go_wp2_with fail
      go_ret
      exact ⟨rfl, rfl⟩
end Go.Proofs.YtcjfkbponikadaaDoor

set_option linter.unusedVariables false
set_option linter.unusedSimpArgs false
namespace Go.Proofs.YtcjfkbponikadaaDoor
open Go.RowKit

theorem step_append_runM {P : Program} (w : World) {ops : Array Oper} {o : Oper} {a : Act} {K : Act → World → Prop} {Q : Exit → Act → World → Prop} {E : Prop} (hgd : o.guard = none) (s x : Operand) (t tn : TypeId)
    (ho : o.op = .call { callee := .builtin .append, args := #[s, x], argTypes := #[t, tn] }) (vs vx : Value) (hs : a.eval s = vs) (hx : a.eval x = vx)
    (v' : Value) (w' : World) (hr : (Builtin.append_ #[t, tn] o.type #[vs, vx]).run P w = .ok v' w') (h : K (a.put o.dst v') w') :
    if Region.wanted o (yielded ops a.tmps) = true then Oper.wp P o a w K Q else E := by
  have hw : Region.wanted o (yielded ops a.tmps) = true := by simp [Region.wanted, hgd]
  rw [if_pos hw]
  exact Lib.wp_append_run w s x t tn ho vs vx hs hx v' w' hr h
theorem Gm.close {ins : List In} {added i : Nat} {x : In} (h : Gm ins added) (hi : ins[i]? = some x) (hl : x.bs.length ≤ 60) (A : Option Addr) (c : Nat) : Gm (ins.set i ⟨A, c, x.bs ++ [bt0]⟩) added :=
  ⟨fun e => h.ne (by have := congrArg List.length e; simp at this; exact this), by simpa using h.few, fun j z hz => by
    rw [List.getElem?_set] at hz
    by_cases e : i = j
    · subst e
      rw [if_pos rfl, if_pos (List.getElem?_eq_some_iff.1 hi).1] at hz
      injection hz with hz
      subst hz
      simp; omega
    · rw [if_neg e] at hz; exact h.bs j z hz, by rw [ct_close hi, tot_close (b := ctI x) (by simp [ctM, hi])]; exact h.cnt, h.most⟩
set_option maxHeartbeats 2000000 in
set_option maxRecDepth 100000 in
theorem mclose_any (s : Ms) (B : Nat) (i : Int) (w : World) (h : s.Ok w B) :
    Calls Tryd.prog 12 #[.pointer (some ⟨s.g, 0, none⟩), .int .i64 i] w fun e w' => ∃ s', e = .returned (.tuple #[.int .i64 (closeN s.ct i), .int .i64 (closeQ s.ct i)]) ∧ s.To w B s' w' (closeC s.ct i) := by
  have HH := hideP (has_any B s.g s.AI s.cI s.ins s.added i w h.mg)
  have hlen : s.ct.length = s.ins.length := by simp [Ms.ct, ctM]
  by_cases hin : 0 ≤ i ∧ i < (s.ins.length : Int)
  · rw [decide_eq_true hin] at HH
    obtain ⟨n, rfl⟩ : ∃ n : Nat, i = n := ⟨i.toNat, by omega⟩
    have hn : n < s.ins.length := by omega
    obtain ⟨x, hx⟩ : ∃ x, s.ins[n]? = some x := ⟨_, List.getElem?_eq_getElem hn⟩
    obtain ⟨k, hk⟩ := h.mg.pos hx
    have hxb := h.gm.bs n x hx
    have hcx : s.ct[n]? = some (ctI x) := by simp [Ms.ct, ctM, hx]
    have hcl : (ctI x).length = x.bs.length := by simp [ctI]
    have c0 := h.mg.box.cell 0 (v := .slice s.AI s.ins.length s.cI) rfl
    obtain ⟨gi, hAI, p0⟩ := h.mg.cell_ hx
    have HC := hideP (fun W => closed_any x.A x.bs.length x.c k hk (by omega) W)
    have g1 : (0 : Int) ≤ (n : Int) := by omega
    have g2 : (n : Int) < (s.ins.length : Int) := by omega
    by_cases hfull : 60 ≤ k
    · obtain ⟨q1, q2, q3⟩ := closeQ_full (b := ctI x) hcx (by omega)
      rw [q1, q2, q3]
      have HT := hideP (Ms.To.same h (Below.refl _ _))
      have d1 : (60 : Int) ≤ (k : Int) := by omega
      rw [hAI] at c0
      clear h hin q1 q2 q3 hcx hlen hk hcl
      go_enter Tryd.func12, Tryd.ntmps12
      go_wp2_with fail
      refine HH.out.mono ?_
      rintro e w' ⟨rfl, rfl⟩
      go_wp2_with fail
      refine (HC.out _).mono ?_
      rintro e w' ⟨rfl, rfl⟩
      go_wp2_with fail
      go_ret2
      exact ⟨s, rfl, HT.out⟩
    · obtain ⟨q1, q2, q3⟩ := closeQ_ok (b := ctI x) hcx (by omega)
      rw [q1, q2, q3, hcl]
      have d1 : ¬ (60 : Int) ≤ (k : Int) := by omega
      have bd := (Below.refl w.heap.size w).drew
      obtain ⟨A', c', w2, gi', hrun, hAI', c1, fz, hMG, hFr, hF⟩ := (h.mg.below bd).close hx (h.below bd).size (by omega) 55
      rw [hAI] at hAI'
      injection hAI' with e
      injection e with e
      subst e
      have hG2 := h.gm.close hx (by omega) A' c'
      have hct : ctM (s.ins.set n ⟨A', c', x.bs ++ [bt0]⟩) = closeM s.ct n := ct_close hx A' c'
      have HT := hideP (show s.To w B ⟨s.g, s.AI, s.cI, s.ins.set n ⟨A', c', x.bs ++ [bt0]⟩, s.added⟩ (w2.setCell ⟨gi, n, none⟩ (.slice A' (x.bs ++ [bt0]).length c')) (closeM s.ct n) from
        ⟨rfl, ⟨hMG, hG2⟩, hct, (Fr.of_below bd).comp hFr, hF⟩)
      have al := (Below.refl w.heap.size w).alloc (Nat.le_refl _) (.cells #[.slice none 0 0] 64)
      have c0a := (h.mg.below al).box.cell 0 (v := .slice s.AI s.ins.length s.cI) rfl
      obtain ⟨_, e, p0a⟩ := (h.mg.below al).cell_ hx
      rw [hAI] at e
      injection e with e
      injection e with e
      subst e
      have c03 := hMG.box.cell 0 (v := .slice s.AI (s.ins.set n ⟨A', c', x.bs ++ [bt0]⟩).length s.cI) rfl
      have hx3 : (s.ins.set n ⟨A', c', x.bs ++ [bt0]⟩)[n]? = some ⟨A', c', x.bs ++ [bt0]⟩ := by rw [List.getElem?_set, if_pos rfl, if_pos hn]
      obtain ⟨_, e, p03⟩ := hMG.cell_ hx3
      rw [hAI] at e
      injection e with e
      injection e with e
      subst e
      have c02 : w2.cell? ⟨s.g, 0, none⟩ = some (.slice s.AI s.ins.length s.cI) := by
        have hne : s.g ≠ gi := fun e => by
          have h2 : gi < w2.heap.size := World.block_lt_of_cell? w2 _ c1
          have t1 := hMG.box.ty
          have t2 := own_ty hMG.row (b := gi) (by rw [hAI]; rfl)
          exact absurd (t1.inj (show Ty _ s.g 55 by rw [e]; exact t2)) (by decide)
        have := c03
        rw [List.length_set] at this
        rw [← this]
        exact (World.cell?_of_block (Below.heap_setCell w2 _ _ _ (fun e => hne e))).symm
      rw [List.length_set] at c03
      have hl2 : (x.bs ++ [bt0]).length = x.bs.length + 1 := by simp
      have HC2 := hideP (fun W => closed_any A' (x.bs ++ [bt0]).length c' x.bs.length hl2 (by rw [hl2]; omega) W)
      replace hrun : (Builtin.append_ #[55, 55] 55 #[.slice x.A x.bs.length x.c, .slice (some ⟨w.heap.size, 0, none⟩) 1 1]).run Tryd.prog (w.alloc (.cells #[.slice none 0 0] 64)).drew = .ok (.slice A' (x.bs ++ [bt0]).length c') w2 := hrun
      have HR := hideP hrun
      unfold inV at c1
      rw [hAI] at c0 c0a c02 c03
      clear h hin q1 q2 q3 hcx hlen hcl hMG hFr hF hG2 hct bd al hrun hx3 hk hAI hl2
      generalize (x.bs ++ [bt0]).length = m2 at HR HC2 HT c02 c03 p03
      generalize x.bs.length = m1 at HR HC2 c1 p0 p0a HC hxb ⊢
      generalize x.A = xA at HR c1 p0 p0a HC
      generalize x.c = xc at HR c1 p0 p0a HC
      go_enter Tryd.func12, Tryd.ntmps12
      go_wp2_with fail
      refine HH.out.mono ?_
      rintro e w' ⟨rfl, rfl⟩
      go_wp2_with fail
      refine (HC.out _).mono ?_
      rintro e w' ⟨rfl, rfl⟩
      go_wp2_with fail
      go_region_law (refine step_append_runM _ rfl _ _ _ _ rfl _ _ rfl rfl _ _ HR.out ?_)
      all_goals
        go_wp2_with fail
        refine (HC2.out _).mono ?_
        rintro e w' ⟨rfl, rfl⟩
        go_wp2_with fail
        go_ret2
        exact ⟨_, rfl, HT.out⟩
  · rw [decide_eq_false hin] at HH
    obtain ⟨q1, q2, q3⟩ := closeQ_none (ct := s.ct) (i := i) (by rw [hlen]; exact hin)
    rw [q1, q2, q3]
    have HT := hideP (Ms.To.same h (Below.refl _ _))
    clear h hin q1 q2 q3 hlen
    go_enter Tryd.func12, Tryd.ntmps12
    go_wp2_with fail
    refine HH.out.mono ?_
    rintro e w' ⟨rfl, rfl⟩
    go_wp2_with fail
    go_ret2
    exact ⟨s, rfl, HT.out⟩
end Go.Proofs.YtcjfkbponikadaaDoor

set_option linter.unusedVariables false
set_option linter.unusedSimpArgs false
namespace Go.Proofs.YtcjfkbponikadaaDoor
open Go.RowKit

theorem box_four {w : World} {g : Nat} {t : TypeId} {a b c d : Value} (h : Box w g t #[a, b, c, d]) (x y z u : Value) :
    (w.cell? ⟨g, 0, none⟩ = some a ∧ (w.setCell ⟨g, 0, none⟩ x).cell? ⟨g, 1, none⟩ = some b ∧ ((w.setCell ⟨g, 0, none⟩ x).setCell ⟨g, 1, none⟩ y).cell? ⟨g, 2, none⟩ = some c ∧ (((w.setCell ⟨g, 0, none⟩ x).setCell ⟨g, 1, none⟩ y).setCell ⟨g, 2, none⟩ z).cell? ⟨g, 3, none⟩ = some d) ∧
    (w.frozen? ⟨g, 0, none⟩ = false ∧ (w.setCell ⟨g, 0, none⟩ x).frozen? ⟨g, 1, none⟩ = false ∧ ((w.setCell ⟨g, 0, none⟩ x).setCell ⟨g, 1, none⟩ y).frozen? ⟨g, 2, none⟩ = false ∧ (((w.setCell ⟨g, 0, none⟩ x).setCell ⟨g, 1, none⟩ y).setCell ⟨g, 2, none⟩ z).frozen? ⟨g, 3, none⟩ = false) ∧
    Box ((((w.setCell ⟨g, 0, none⟩ x).setCell ⟨g, 1, none⟩ y).setCell ⟨g, 2, none⟩ z).setCell ⟨g, 3, none⟩ u) g t #[x, y, z, u] := by
  have h1 := h.set 0 x
  have h2 := h1.set 1 y
  have h3 := h2.set 2 z
  have h4 := h3.set 3 u
  exact ⟨⟨h.cell 0 rfl, h1.cell 1 rfl, h2.cell 2 rfl, h3.cell 3 rfl⟩, ⟨h.frozen 0, h1.frozen 1, h2.frozen 2, h3.frozen 3⟩, h4⟩
theorem below_set1 {a w : World} {g i : Nat} {v : Value} (h : Below a.heap.size a w) (hg : a.heap.size ≤ g) : Below a.heap.size a (w.setCell ⟨g, i, none⟩ v) :=
  h.grown (row := some g) ⟨rfl, rfl, rfl, by simp [World.setCell], fun i _ hne => Below.heap_setCell w _ _ i (fun e => hne (by rw [e]))⟩ h.size (fun b hb => by injection hb with hb; subst hb; exact hg)
theorem below_four {a w : World} {g : Nat} (h : Below a.heap.size a w) (hg : a.heap.size ≤ g) (x y z u : Value) : Below a.heap.size a ((((w.setCell ⟨g, 0, none⟩ x).setCell ⟨g, 1, none⟩ y).setCell ⟨g, 2, none⟩ z).setCell ⟨g, 3, none⟩ u) :=
  below_set1 (below_set1 (below_set1 (below_set1 h hg) hg) hg) hg
end Go.Proofs.YtcjfkbponikadaaDoor

set_option linter.unusedVariables false
set_option linter.unusedSimpArgs false
namespace Go.Proofs.YtcjfkbponikadaaDoor
open Go.RowKit

theorem EO.set {w : World} {B g i : Nat} {x : Em} {v : Value} (h : EO w B x) (ht : Ty w g 41) : EO (w.setCell ⟨g, i, none⟩ v) B x :=
  ⟨World.ownsRow.kept h.ops (grown_set w g i v) (own_ne h.ops ht (by decide)), ⟨h.map.cuts.set ht (by decide), h.map.own.set ht (by decide)⟩⟩
/-- the result's box is written -/
theorem eo_four {w wr : World} {g : Nat} {a b c d : Value} {x : Em} (hr : Box wr g 41 #[a, b, c, d]) (hl : w.heap.size ≤ g) (hn : EO wr w.heap.size x) (hb : Below w.heap.size w wr) (p q r s : Value) :
    EO ((((wr.setCell ⟨g, 0, none⟩ p).setCell ⟨g, 1, none⟩ q).setCell ⟨g, 2, none⟩ r).setCell ⟨g, 3, none⟩ s) w.heap.size x ∧ Below w.heap.size w ((((wr.setCell ⟨g, 0, none⟩ p).setCell ⟨g, 1, none⟩ q).setCell ⟨g, 2, none⟩ r).setCell ⟨g, 3, none⟩ s) := by
  have h1 := hr.set 0 p
  have h2 := h1.set 1 q
  have h3 := h2.set 2 r
  exact ⟨(((hn.set hr.ty).set h1.ty).set h2.ty).set h3.ty, below_four hb hl p q r s⟩
end Go.Proofs.YtcjfkbponikadaaDoor
