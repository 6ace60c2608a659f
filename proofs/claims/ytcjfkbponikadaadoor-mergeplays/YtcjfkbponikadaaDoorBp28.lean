/-
  The document's Log.
  rolaw.at, and what pick picks.
  rolaw.pick at entries.
  slices.Equal of operations, and roref.SameDeed.
-/
import Derived.Test.YtcjfkbponikadaaDoorBp12
import Derived.Test.YtcjfkbponikadaaDoorBp27
import Derived.Test.YtcjfkbponikadaaDoorBp18
import Derived.Test.YtcjfkbponikadaaDoorBp2
import Derived.Test.YtcjfkbponikadaaDoorBp3
import Derived.Test.YtcjfkbponikadaaDoorBp22
import Derived.Test.YtcjfkbponikadaaDoorBp4
import Derived.Laws.StructEq
import Derived.WalkKit
import Derived.WalkSpells
import Derived.WalkLawsBesides
import Derived.Deep.QuietTactic
import Derived.BigQuiet
set_option linter.unusedVariables false
set_option linter.unusedSimpArgs false
namespace Go.Proofs.YtcjfkbponikadaaDoor
open Go.RowKit

/-- while the log is gathered -/
structure RlH (w0 w : World) (ct : List (List (List Ent))) (r k : Nat) (A : Option Addr) (c : Nat) (xs : List Em) (wr : World) : Prop where
  er : ER w0 wr w.heap.size A c xs
  eq : xs.map entOf = lgP ct r k 0
  len : xs.length ≤ rM r k 0
  be : Below w.heap.size w wr
/-- what the document's Log hands back -/
def RetRl (w0 w : World) (l : List Ent) (e : Ending) (w' : World) : Prop := ∃ A c xs, e = .returned (.slice A xs.length c) ∧ xs.map entOf = l ∧ ER w0 w' w.heap.size A c xs ∧ Below w.heap.size w w'
theorem lgP_all (ct : List (List (List Ent))) (r k : Nat) (b : List (List Ent)) (l : List Ent) (hb : ct[k]? = some b) (hl : b[r]? = some l) : lgP ct r (k + 1) 0 = lgP ct r k 0 ++ l := by
  rw [← lgP_row ct r k b l hb hl]
  unfold lgP
  rw [hb]
  simp [hl]
def RlI1 (w0 w : World) (ct : List (List (List Ent))) (n : Nat) (s i : Value) (wr : World) : Prop :=
  ∃ (r : Nat) (A : Option Addr) (c : Nat) (xs : List Em), r ≤ n ∧ i = .int .i64 r ∧ s = .slice A xs.length c ∧ RlH w0 w ct r 0 A c xs wr
def RlI2 (w0 w : World) (ct : List (List (List Ent))) (r n : Nat) (s i : Value) (wr : World) : Prop :=
  ∃ (k : Nat) (A : Option Addr) (c : Nat) (xs : List Em), k ≤ n ∧ i = .int .i64 k ∧ s = .slice A xs.length c ∧ RlH w0 w ct r k A c xs wr
set_option maxHeartbeats 4000000 in
set_option maxRecDepth 100000 in
theorem rlog_any (s : Rs) (w0 : World) (B : Nat) (w : World) (h : s.Ok w0 w B) :
    Calls Tryd.prog 19 #[.pointer (some ⟨s.g, 0, none⟩)] w (RetRl w0 w (logM s.ct)) := by
  have HR := hideP (rrounds_any s w0 B w h)
  have hr60 := rnd_60 s.ct
  have hfew := h.gm.few
  have HST := hideP (lgP_start s.ct)
  have HEND := hideP (lgP_end s.ct)
  have HLC := hideP (show s.ct.length = s.ins.length by simp [Rs.ct, ctM])
  have HROW := hideP (fun (wr : World) (hb : Below w.heap.size w wr) (k r : Nat) (hk : k < s.ins.length) (hr : r < rndM s.ct) => show ∃ (gi gx : Nat) (n c : Nat) (b : Bt) (e : List (List Ent)), s.AI = some ⟨gi, 0, none⟩ ∧ wr.cell? ⟨gi, k, none⟩ = some (.slice (some ⟨gx, 0, none⟩) n c) ∧ r < n ∧ wr.cell? ⟨gx, r, none⟩ = some (.slice b.A b.es.length b.c) ∧ b.es.length ≤ 60 ∧ EL wr b.A b.es ∧ (∀ x ∈ b.es, ES w0 x) ∧ s.ct[k]? = some e ∧ e[r]? = some (b.es.map entOf) from by
    obtain ⟨x, hx⟩ : ∃ x, s.ins[k]? = some x := ⟨_, List.getElem?_eq_getElem hk⟩
    have hW := h.below hb
    obtain ⟨gi, e, hc⟩ := hW.rg.cell_ hx
    have hle := rnd_le (ctM s.ins) (b := ctI x) (List.mem_map_of_mem (List.mem_of_getElem? hx))
    have hl : (ctI x).length = x.bs.length := by simp [ctI]
    have hr' : r < rndM (ctM s.ins) := hr
    obtain ⟨b, hbk⟩ : ∃ b, x.bs[r]? = some b := ⟨_, List.getElem?_eq_getElem (by omega)⟩
    obtain ⟨gx, hxA, hcb⟩ := hW.rg.bcell hx hbk
    have hER := hW.rg.bat k x r b hx hbk
    refine ⟨gi, gx, _, _, b, ctI x, e, by rw [hxA] at hc; exact hc, (List.getElem?_eq_some_iff.1 hbk).1, hcb, ?_, hER.el hW.be, hER.es, by simp [Rs.ct, ctM, hx], by simp [ctI, hbk]⟩
    exact h.gm.es hx hbk)
  have HC0 := hideP (fun (wr : World) (hb : Below w.heap.size w wr) => (h.below hb).rg.box.cell 0 (v := .slice s.AI s.ins.length s.cI) rfl)
  generalize s.ct = ct at HR hr60 HST HEND HLC HROW ⊢
  generalize hrr : rndM ct = rr at HR hr60 HROW
  rw [hrr] at HEND
  generalize logM ct = lg at HEND ⊢
  clear h hrr
  go_enter Tryd.func19, Tryd.ntmps19
  go_wp2_with fail
  refine HR.out.mono ?_
  rintro e w' ⟨rfl, rfl⟩
  clear HR
  go_wp2_with fail
  go_loopw [3, 9] (RlI1 w0 w ct rr) (fun _ i _ => rr - (intOf i).toNat)
  case atStart => exact ⟨0, none, 0, [], Nat.zero_le _, rfl, rfl, ER.nil _ _ _, by rw [HST.out]; rfl, by simp, Below.refl _ _⟩
  case round =>
    obtain ⟨r, A, c, xs, hr, rfl, rfl, hH⟩ := hrel
    by_cases hlt : r < rr
    · have c0 := HC0.out wr hH.be
      have g1 : (r : Int) < (rr : Int) := by omega
      go_wp2_with fail
      go_loopw [3, 17] (RlI2 w0 w ct r s.ins.length) (fun _ i _ => s.ins.length - (intOf i).toNat)
      case atStart => exact ⟨0, A, c, xs, Nat.zero_le _, rfl, rfl, hH⟩
      case round =>
        clear hH c0
        obtain ⟨k, A, c, xs, hk, rfl, rfl, hH⟩ := hrel
        by_cases hlk : k < s.ins.length
        · obtain ⟨gi, gx, n, ci, b, e, hAI, p0, hrn, p1, hb60, hel, hes, hct, hcr⟩ := HROW.out wr hH.be k r hlk hlt
          have hlen := hH.len
          have hsm := rM_small (r := r) (k := k) (j := 0) (by omega) (by omega) (by omega)
          obtain ⟨v', w1, hrun, hown', hg', _⟩ := app_ents wr w.heap.size 23 _ xs hH.er.row b.A b.c b.es hel (by omega) hH.be.size
          obtain ⟨A', c', rfl⟩ := erow_parts hown'
          have hb1 : Below w.heap.size w w1 := hH.be.grown hg' hH.be.size (fun j hj => (World.ownsRow.lt hH.er.row j hj).1)
          have hH2 : RlH w0 w ct r (k + 1) A' c' (xs ++ b.es) w1 := ⟨⟨hown', fun x hx => (List.mem_append.1 hx).elim (hH.er.es x) (hes x)⟩, by rw [lgP_all ct r k e _ hct hcr, ← hH.eq, List.map_append], by
            have h1 := rM_row r k (j := b.es.length) hb60
            unfold rM at *
            rw [List.length_append]
            omega, hb1⟩
          have HRN := hideP hrun
          have g2 : (0 : Int) ≤ (k : Int) := by omega
          have g3 : (k : Int) < (s.ins.length : Int) := by omega
          have g4 : (0 : Int) ≤ (r : Int) := by omega
          have g5 : (r : Int) < (n : Int) := by omega
          rw [hAI]
          clear hrun hown' hg' hb1 hH hel hes hct hcr hAI
          generalize xs ++ b.es = ys at HRN hH2
          go_wp2_with (at_builtin; refine Lib.wpList_append_run _ rfl _ _ _ _ rfl _ _ rfl rfl _ _ HRN.out ?_)
          go_roundw
          case rel => exact ⟨k + 1, A', c', ys, by omega, by go_num, rfl, hH2⟩
          case measure => simp [intOf]; omega
        · have hke : k = ct.length := by rw [HLC.out]; omega
          have hH2 : RlH w0 w ct (r + 1) 0 A c xs wr := ⟨hH.er, by subst hke; rw [← lgP_round]; exact hH.eq, Nat.le_trans hH.len (rM_round r (by omega)), hH.be⟩
          go_wp2_with fail
          go_roundw
          case rel => exact ⟨r + 1, A, c, xs, by omega, by go_num, rfl, hH2⟩
          case measure => simp [intOf]; omega
    · obtain rfl : r = rr := by omega
      go_wp2_with fail
      go_ret
      exact ⟨A, c, xs, rfl, by rw [hH.eq, HEND.out], hH.er, hH.be⟩
end Go.Proofs.YtcjfkbponikadaaDoor

set_option linter.unusedVariables false
set_option linter.unusedSimpArgs false
namespace Go.Proofs.YtcjfkbponikadaaDoor
open Go.RowKit

theorem cell_alloc_ {w : World} {b o : Nat} {v : Value} (hb : b < w.heap.size) (hc : w.cell? ⟨b, o, none⟩ = some v) (x : Obj) : (w.alloc x).cell? ⟨b, o, none⟩ = some v := (((Below.refl w.heap.size w).alloc (Nat.le_refl _) x).cell hb).trans hc
/-- one row of a slice of slices of ints -/
structure Cl where
  A : Option Addr
  c : Nat
  zs : List Int
def clV (x : Cl) : Value := .slice x.A x.zs.length x.c
/-- a slice of slices of ints -/
structure LS (w : World) (A : Option Addr) (cs : List Cl) : Prop where
  vs : VS w A (cs.map clV)
  is_ : ∀ x ∈ cs, IS w x.A x.zs ∧ x.zs.length ≤ x.c ∧ x.c ≤ 9223372036854775807
theorem LS.below {w w' : World} {A : Option Addr} {cs : List Cl} (h : LS w A cs) (hb : Below w.heap.size w w') : LS w' A cs := ⟨h.vs.below hb, fun x hx => ⟨(h.is_ x hx).1.below hb, (h.is_ x hx).2⟩⟩

set_option maxHeartbeats 400000 in
set_option maxRecDepth 100000 in
theorem rat_any (A : Option Addr) (c : Nat) (zs : List Int) (i : Nat) (w : World) (hA : IS w A zs) (hl : zs.length ≤ 9223372036854775807) :
    Calls Tryd.prog 8 #[.slice A zs.length c, .int .i64 (i : Int)] w fun e w' => e = .returned (.int .i64 (zs.getD i 0)) ∧ w = w' := by
  by_cases h : i < zs.length
  · obtain ⟨b, o, rfl, hbl, q1⟩ := hA i _ (List.getElem?_eq_getElem h)
    have HV := hideP (show zs.getD i 0 = zs[i] by simp [List.getD_eq_getElem?_getD, h])
    generalize zs[i] = z at q1 HV
    have g1 : (i : Int) < (zs.length : Int) := by omega
    have g2 : (0 : Int) ≤ (i : Int) := by omega
    clear hA
    go_enter Tryd.func8, Tryd.ntmps8
    go_wp2_with fail
    go_ret
    exact ⟨ret_int HV.out.symm, rfl⟩
  · have HV := hideP (show zs.getD i 0 = 0 by simp [List.getD_eq_getElem?_getD, h])
    have g1 : ¬ (i : Int) < (zs.length : Int) := by omega
    clear hA
    go_enter Tryd.func8, Tryd.ntmps8
    go_wp2_with fail
    go_ret
    exact ⟨by first | exact ret_int HV.out.symm | exact ret_int rfl | rfl, rfl⟩

theorem pick_ix (k : Int) (n : Nat) (h : 1 ≤ n) (h2 : n ≤ 9223372036854775807) : ∃ j : Nat, j < n ∧ wrap64 ((IntKind.u64.wrap k).tmod (n : Int)) = (j : Int) := by
  have h0 : 0 ≤ IntKind.u64.wrap k := by simp [IntKind.wrap_u64]; omega
  have h1 := Int.tmod_lt_of_pos (IntKind.u64.wrap k) (show (0 : Int) < n by omega)
  have h3 := Int.tmod_nonneg (n : Int) h0
  refine ⟨((IntKind.u64.wrap k).tmod n).toNat, by omega, ?_⟩
  unfold wrap64
  omega
end Go.Proofs.YtcjfkbponikadaaDoor

set_option linter.unusedVariables false
set_option linter.unusedSimpArgs false
namespace Go.Proofs.YtcjfkbponikadaaDoor
open Go.RowKit

/-- an entry is handed back -/
def RetPe (w : World) (xs : List Em) (e : Ending) (w' : World) : Prop := ∃ x : Em, e = .returned (emV x) ∧ (x = em0 ∨ x ∈ xs) ∧ Below w.heap.size w w'
set_option maxHeartbeats 1000000 in
set_option maxRecDepth 100000 in
theorem pickE_any (A : Option Addr) (c : Nat) (xs : List Em) (k : Int) (w : World) (hA : EL w A xs) (hl : xs.length ≤ 9223372036854775807) :
    Calls Tryd.prog 9 #[.slice A xs.length c, .int .i64 k] w (RetPe w xs) := by
  by_cases h : xs.length = 0
  · have g1 : ((xs.length : Int) == 0) = true := by simp [h]
    clear hA
    go_enter Tryd.func9, Tryd.ntmps9
    go_wp2_with fail
    have hb := ((Below.refl w.heap.size w).alloc (Nat.le_refl _) (.cells #[.slice none 0 0, .bool false, .slice none 0 0, .slice none 0 0] 41)).alloc (by simp) (.cells #[.slice none 0 0, .bool false, .slice none 0 0, .slice none 0 0] 41)
    have x := (Box.new w 41 #[.slice none 0 0, .bool false, .slice none 0 0, .slice none 0 0]).alloc (.cells #[.slice none 0 0, .bool false, .slice none 0 0, .slice none 0 0] 41)
    have q0 := x.cell 0 (v := .slice none 0 0) rfl
    have q1 := x.cell 1 (v := .bool false) rfl
    have q2 := x.cell 2 (v := .slice none 0 0) rfl
    have q3 := x.cell 3 (v := .slice none 0 0) rfl
    refine bodyPost_ret (v := emV em0) (by simp [results, Tryd.results9, go_sem, q0, q1, q2, q3, emV, emC, em0, noM]) rfl ?_
    exact ⟨em0, rfl, .inl rfl, hb⟩
  · have g1 : ((xs.length : Int) == 0) = false := by simp [h]
    obtain ⟨j, hj, hjk⟩ := pick_ix k xs.length (by omega) hl
    obtain ⟨b, o, rfl, hbl, q0, q1, q2, q3⟩ := hA.cells j _ (List.getElem?_eq_getElem hj)
    have hmem := List.getElem_mem hj
    generalize xs[j] = m at q0 q1 q2 q3 hmem
    have hb := ((Below.refl w.heap.size w).alloc (Nat.le_refl _) (.cells (emC m) 41)).alloc (by simp) (.cells #[.slice none 0 0, .bool false, .slice none 0 0, .slice none 0 0] 41)
    have x := (Box.new w 41 (emC m)).alloc (.cells #[.slice none 0 0, .bool false, .slice none 0 0, .slice none 0 0] 41)
    have r0 := x.cell 0 (v := .slice m.D m.d.length m.c) rfl
    have r1 := x.cell 1 (v := .bool m.isM) rfl
    have r2 := x.cell 2 (v := .slice m.m.A m.m.cs.length m.m.ca) rfl
    have r3 := x.cell 3 (v := .slice m.m.O m.m.os.length m.m.co) rfl
    have HM := hideP hmem
    unfold emC at hb r0 r1 r2 r3
    clear hA hmem x
    go_enter Tryd.func9, Tryd.ntmps9
    go_wp2_with fail
    refine bodyPost_ret (v := emV m) (by simp [results, Tryd.results9, go_sem, r0, r1, r2, r3, emV, emC]) rfl ?_
    exact ⟨m, rfl, .inr HM.out, hb⟩
end Go.Proofs.YtcjfkbponikadaaDoor

set_option linter.unusedVariables false
set_option linter.unusedSimpArgs false
namespace Go.Proofs.YtcjfkbponikadaaDoor
open Go.RowKit

noncomputable def sameB (a b : List Opr) : Bool := @decide (a = b) (Classical.propDecidable _)
theorem sameB_true {a b : List Opr} (h : a = b) : sameB a b = true := by unfold sameB; exact @decide_eq_true _ (Classical.propDecidable _) h
theorem sameB_false {a b : List Opr} (h : a ≠ b) : sameB a b = false := by unfold sameB; exact @decide_eq_false _ (Classical.propDecidable _) h
def opEq (p q : Opr) : Bool := p.kind == q.kind && (p.key.toList == q.key.toList && (p.src.toList == q.src.toList && p.n == q.n))
theorem opB_ext {a b : ByteArray} (h : a.data.toList = b.data.toList) : a = b := by
  cases a with | mk a => cases b with | mk b => simp at h; rw [h]
theorem opEq_iff {p q : Opr} : opEq p q = true ↔ p = q := by
  obtain ⟨a, b, c, d⟩ := p
  obtain ⟨a', b', c', d'⟩ := q
  simp only [opEq, Bool.and_eq_true, beq_iff_eq, Opr.mk.injEq]
  constructor
  · rintro ⟨h1, h2, h3, h4⟩
    rw [ByteArray.toList_eq, ByteArray.toList_eq] at h2 h3
    exact ⟨h1, opB_ext h2, opB_ext h3, h4⟩
  · rintro ⟨h1, h2, h3, h4⟩
    exact ⟨h1, by rw [h2], by rw [h3], h4⟩
theorem run_neq_ops (p q : Opr) (w : World) : (binOp .neq 76 (.agg #[.int .i64 p.kind, .string p.key, .string p.src, .int .i64 p.n]) (.agg #[.int .i64 q.kind, .string q.key, .string q.src, .int .i64 q.n])).run Tryd.prog w = .ok (.bool (!opEq p q)) w := by
  have u3 := Tryd.underlying3
  have u9 := Tryd.underlying9
  have a3 := Tryd.isAgg3
  have z3 := Tryd.sizeOf3
  have a9 := Tryd.isAgg9
  have z9 := Tryd.sizeOf9
  have hS : Tryd.prog.underlying 76 = some (.struct (Tryd.prog.fieldsOf 76)) := by kernel_rfl
  have hp : Tryd.prog.stoodInHeld 76 = false := by kernel_rfl
  rw [run_neq_struct, show (10000 : Nat) = 9999 + 1 from rfl, run_equalIn_agg w 9999 76 _ _ hS hp]
  simp only [Program.fieldsOf, Tryd.underlying76]
  unfold opEq
  generalize hx1 : (p.kind == q.kind) = x1
  generalize hx2 : (p.key.toList == q.key.toList) = x2
  generalize hx3 : (p.src.toList == q.src.toList) = x3
  generalize hx4 : (p.n == q.n) = x4
  cases x1 <;> cases x2 <;> cases x3 <;> cases x4 <;> go_simp <;> simp [hx1, hx2, hx3, hx4]
theorem guard_ops (x y : Operand) (xs ys : Array Value) (w : World) : (eqGuard .neq 76 x y (.agg xs) (.agg ys)).run Tryd.prog w = .ok () w := run_eqGuard_agg w .neq 76 x y xs ys (by kernel_rfl)
set_option maxHeartbeats 1000000 in
set_option maxRecDepth 100000 in
theorem equalO_any (A1 A2 : Option Addr) (c1 c2 : Nat) (l m : List Opr) (w : World) (h1 : OS w w.heap.size A1 l) (h2 : OS w w.heap.size A2 m) (hl : l.length < 4611686018427387904) :
    Calls Tryd.prog 41 #[.slice A1 l.length c1, .slice A2 m.length c2] w fun e w' => e = .returned (.bool (sameB l m)) ∧ Below w.heap.size w w' := by
  by_cases hlm : l.length = m.length
  · have d0 : ((l.length : Int) != (m.length : Int)) = false := by simp; omega
    have HLM := hideP hlm
    clear hlm
    go_enter Tryd.func41, Tryd.ntmps41
    go_wp2_with fail
    go_loopw [13] (fun i wr => ∃ k : Nat, k ≤ l.length ∧ i = .int .i64 k ∧ l.take k = m.take k ∧ Below w.heap.size w wr) (fun i _ => l.length - (intOf i).toNat)
    case atStart => exact ⟨0, Nat.zero_le _, rfl, rfl, Below.refl _ _⟩
    case round =>
      obtain ⟨k, hk, rfl, heq, hb⟩ := hrel
      have HEQ := hideP heq
      clear heq
      by_cases hlt : k < l.length
      · have hltm : k < m.length := by rw [← HLM.out]; exact hlt
        obtain ⟨b, o, rfl, hbl, q1, q2, q3, q4⟩ := h1.below hb k _ (List.getElem?_eq_getElem hlt)
        obtain ⟨b', o', rfl, hbl', q5, q6, q7, q8⟩ := h2.below hb k _ (List.getElem?_eq_getElem hltm)
        clear h1 h2
        have HS := hideP (fun (h : l[k] = m[k]) => show l.take (k + 1) = m.take (k + 1) by rw [List.take_succ_eq_append_getElem hlt, List.take_succ_eq_append_getElem hltm, HEQ.out, h])
        have HD := hideP (fun (h : l[k] ≠ m[k]) => show l ≠ m from fun e => h (by subst e; rfl))
        generalize l[k] = p at q1 q2 q3 q4 HS HD
        generalize m[k] = r at q5 q6 q7 q8 HS HD
        have g1 : (0 : Int) ≤ (k : Int) := by omega
        have g2 : (k : Int) < (l.length : Int) := by omega
        have g3 : (k : Int) < (m.length : Int) := by omega
        have n1 := run_neq_ops p r
        have n2 := guard_ops
        cases he : opEq p r
        · have HN := hideP (HD.out fun e => by rw [opEq_iff.2 e] at he; cases he)
          rw [he] at n1
          clear he
          go_wp2_with fail
          go_quiet (fail)
          go_wp2_with fail
          go_ret
          exact ⟨by rw [sameB_false HN.out]; rfl, ⟨hb.os, hb.tape, hb.output, hb.size, hb.block⟩⟩
        · have HN := hideP (HS.out (opEq_iff.1 he))
          rw [he] at n1
          clear he
          go_wp2_with fail
          go_quiet (fail)
          go_wp2_with fail
          go_roundw
          case rel => exact ⟨k + 1, by omega, by go_num, HN.out, ⟨hb.os, hb.tape, hb.output, hb.size, hb.block⟩⟩
          case measure => simp [intOf]; omega
      · have HE := hideP (show l = m by
          have := HEQ.out
          rwa [List.take_of_length_le (by omega), List.take_of_length_le (by have := HLM.out; omega)] at this)
        go_wp2_with fail
        go_ret
        exact ⟨by rw [sameB_true HE.out]; rfl, hb⟩
  · have d0 : ((l.length : Int) != (m.length : Int)) = true := by simp; omega
    have HE := hideP (show l ≠ m from fun e => hlm (by rw [e]))
    clear hlm
    go_enter Tryd.func41, Tryd.ntmps41
    go_wp2_with fail
    go_ret
    exact ⟨by rw [sameB_false HE.out]; rfl, Below.refl _ _⟩
set_option maxHeartbeats 1000000 in
set_option maxRecDepth 100000 in
theorem samedeed_any (D1 D2 : Option Addr) (k1 k2 : Nat) (a b : List Opr) (w : World) (ha : OS w w.heap.size D1 a) (hb : OS w w.heap.size D2 b) (hl : a.length < 4611686018427387904) :
    Calls Tryd.prog 30 #[.agg #[.slice D1 a.length k1], .agg #[.slice D2 b.length k2]] w fun e w' => e = .returned (.bool (sameB a b)) ∧ Below w.heap.size w w' := by
  have h0 := ((Below.refl w.heap.size w).alloc (Nat.le_refl _) (.cells #[.slice D1 a.length k1] 36)).alloc (by simp) (.cells #[.slice D2 b.length k2] 36)
  have HQ := hideP (equalO_any D1 D2 k1 k2 a b _ (ha.go h0) (hb.go h0) hl)
  go_enter Tryd.func30, Tryd.ntmps30
  go_wp2_with fail
  refine HQ.out.mono ?_
  clear HQ
  generalize (w.alloc (.cells #[.slice D1 a.length k1] 36)).alloc (.cells #[.slice D2 b.length k2] 36) = w1 at h0 ⊢
  rintro e w2 ⟨rfl, hb2⟩
  have hb3 := h0.trans (hb2.mono h0.size)
  generalize hq : sameB a b = q at ⊢
  have HQ := hideP hq
  clear hq
  go_wp2_with fail
  go_ret
  exact ⟨by rw [HQ.out]; rfl, hb3⟩
end Go.Proofs.YtcjfkbponikadaaDoor
