/-
  roref.MapText: what it writes.
  slices.Equal of operations, and roref.SameDeed.
-/
import Derived.Test.YtmepmiokpcddbabGreatDoorBz14
import Derived.Test.YtmepmiokpcddbabGreatDoorBz20
import Derived.Deep.RegionLaw
import Derived.Test.YtmepmiokpcddbabGreatDoorBz25
import Derived.Test.YtmepmiokpcddbabGreatDoorBz6
import Derived.Laws.StructEq
import Derived.WalkKit
import Derived.WalkSpells
import Derived.WalkLawsBesides
import Derived.Deep.QuietTactic
import Derived.BigQuiet
set_option linter.unusedVariables false
set_option linter.unusedSimpArgs false
namespace Go.Proofs.YtmepmiokpcddbabGreatDoor
open Go.RowKit
open Go.Lib hiding intOf

theorem step_append_runT {P : Program} (w : World) {ops : Array Oper} {o : Oper} {a : Act} {K : Act → World → Prop} {Q : Exit → Act → World → Prop} {E : Prop} (hgd : o.guard = none) (s x : Operand) (t tn : TypeId)
    (ho : o.op = .call { callee := .builtin .append, args := #[s, x], argTypes := #[t, tn] }) (vs vx : Value) (hs : a.eval s = vs) (hx : a.eval x = vx)
    (v' : Value) (w' : World) (hr : (Builtin.append_ #[t, tn] o.type #[vs, vx]).run P w = .ok v' w') (h : K (a.put o.dst v') w') :
    if Region.wanted o (yielded ops a.tmps) = true then Oper.wp P o a w K Q else E := by
  have hw : Region.wanted o (yielded ops a.tmps) = true := by simp [Region.wanted, hgd]
  rw [if_pos hw]
  exact Lib.wp_append_run w s x t tn ho vs vx hs hx v' w' hr h
set_option maxHeartbeats 2000000 in
set_option maxRecDepth 100000 in
theorem rmapT_any (m : Mp) (w : World) (hm : MS w m) (hc : chkM m.cs m.os = 0) :
    Calls Tryz.prog 14 #[.agg #[.slice m.A m.cs.length m.ca, .slice m.O m.os.length m.co]] w fun e w' => e = .returned (.string (bs (tM m.cs m.os))) ∧ Below w.heap.size w w' := by
  have b0 := (Below.refl w.heap.size w).alloc (Nat.le_refl _) (.cells #[.slice m.A m.cs.length m.ca, .slice m.O m.os.length m.co] 28)
  have x0 := Box.new w 28 #[.slice m.A m.cs.length m.ca, .slice m.O m.os.length m.co]
  have hm1 := hm.below b0
  have ho := hm.lo
  have hmo := hm.mo
  unfold maxLen at hmo
  obtain ⟨A, ca, cs, O, co, os⟩ := m
  simp only at hm1 b0 x0 hc ⊢
  have c0 := x0.cell 0 (v := .slice A cs.length ca) rfl
  have c1 := x0.cell 1 (v := .slice O os.length co) rfl
  have HO := hideP (chkM_ok.1 hc)
  have HC := hideP hc
  clear hc
  have hlen := HO.out.len
  have hfew := HO.out.few
  have hown := HO.out.own
  obtain ⟨b, o, e, hbl, q0⟩ := hm1.own 0 (os[0]'(by omega)) (show os[0]? = _ from List.getElem?_eq_getElem (by omega))
  simp only at e
  subst e
  have hz := hown os[0] (List.getElem_mem _)
  have HW0 := hideP (wsB_zero (cs := cs) (show 0 < os.length by omega))
  generalize os[0] = z at q0 hz HW0
  have g0 : (0 : Int) < (os.length : Int) := by omega
  rw [Nat.add_zero] at q0
  have HI := hideP (fun W => dec_any z (by omega) (by omega) W)
  have HLEN := hideP hlen
  clear hlen
  go_enter Tryz.func14, Tryz.ntmps14
  go_wp2_with fail
  refine (HI.out _).mono ?_
  clear hm
  generalize w.alloc (.cells #[.slice A cs.length ca, .slice (some ⟨b, o, none⟩) os.length co] 28) = w3 at b0 x0 hm1 c0 c1 q0 ⊢
  rintro e w4 ⟨rfl, hw⟩
  rw [← hw]
  clear hw w4
  have hlen := HLEN.out
  have e0 := c0
  have x3 := x0
  have hm3 := hm1
  have hlt3 := x3.lt
  have al := (Below.refl w3.heap.size w3).alloc (Nat.le_refl _) (.cells #[.string (bs (itoa z))] 9)
  have xs := Box.new w3 9 #[.string (bs (itoa z))]
  have HI0 := hideP (show MtI w3 cs os (.slice (some ⟨w3.heap.size, 0, none⟩) 1 1) (.int .i64 0) (w3.alloc (.cells #[.string (bs (itoa z))] 9)) from
    ⟨0, some ⟨w3.heap.size, 0, none⟩, 1, Nat.zero_le _, rfl, by rw [HW0.out]; rfl, by rw [HW0.out]; exact OR.of_box1 xs (Nat.le_refl _) (by simp [maxLen]), al⟩)
  clear c0 c1 hm1 x0 q0 HI xs hbl
  generalize bs (itoa z) = tz at HI0 al ⊢
  have e1 := (al.cell (p := ⟨w.heap.size, 0, none⟩) hlt3).trans e0
  go_wp2_with fail
  generalize w3.alloc (.cells #[.string tz] 9) = w4 at HI0 al e1 ⊢
  generalize hgg : w.heap.size = gx at hlt3 x3 e1 e0 ⊢
  have HB3 := hideP b0
  have HGG := hideP hgg
  clear b0 hgg e0
  go_loopw [3, 14] (MtI w3 cs os) (fun _ i _ => cs.length - (intOf i).toNat)
  case atStart => exact HI0.out
  case round =>
    obtain ⟨k, P, cp, hk, rfl, rfl, hor, hb⟩ := hrel
    by_cases hkl : k < cs.length
    · have g1 : (k : Int) < (cs.length : Int) := by omega
      have g2 : (0 : Int) ≤ (k : Int) := by omega
      have g3 : (0 : Int) ≤ (k : Int) + 1 := by omega
      have g4 : (k : Int) + 1 < (os.length : Int) := by omega
      have pk : IntKind.i64.wrap ((k : Int) + 1) = (k : Int) + 1 := by simp only [IntKind.wrap_i64]; omega
      obtain ⟨b1, o1, ea, hbl1, q1⟩ := (hm3.below hb).cuts k (.string cs[k]) (by simp [hkl])
      obtain ⟨b2, o2, eo, hbl2, q2⟩ := (hm3.below hb).own (k + 1) (os[k + 1]'(by omega)) (show os[k + 1]? = _ from List.getElem?_eq_getElem (by omega))
      simp only at ea eo
      subst ea
      injection eo with eo
      injection eo with eb eo _
      subst eb
      subst eo
      have hz2 := hown os[k + 1] (List.getElem_mem _)
      have hst := wsB_step hlen hkl (show k + 1 < os.length by omega)
      have hwl := wsB_len hlen hk
      generalize cs[k] = ck at q1 hst
      generalize os[k + 1] = ok at q2 hz2 hst
      have xk := x3.below hb
      have f1 := xk.cell 1 (v := .slice (some ⟨b, o, none⟩) os.length co) rfl
      have f0 := xk.cell 0 (v := .slice (some ⟨b1, o1, none⟩) cs.length ca) rfl
      have HI2 := hideP (fun W => dec_any ok (by omega) (by omega) W)
      have tn : ((k : Int) + 1).toNat = k + 1 := by omega
      have q2' : wr.cell? ⟨b, o + ((k : Int) + 1).toNat, none⟩ = some (.int .i64 ok) := by rw [tn]; exact q2
      have HST := hideP hst
      have HWL := hideP hwl
      clear hst hwl xk
      have hd0 := (Below.refl wr.heap.size wr).drew
      have hor5 := hor.below hd0
      have hbw := hb.drew
      obtain ⟨A', c', w6, hrun, hor6, hbl6, _, _⟩ := app_row (P := Tryz.prog) Tryz.underlying25 strInfo rfl wr.drew w3.heap.size 25 P cp _ hor5 [.string ck, .string (bs (itoa ok))] (by simp [Value.oneCell']) (by rw [List.length_map, HWL.out]; simp only [List.length_cons, List.length_nil]; omega) (by decide) hbw.size
      have hX : (wsB cs os k).map Value.string ++ [.string ck, .string (bs (itoa ok))] = (wsB cs os (k + 1)).map Value.string := by rw [HST.out]; simp
      rw [hX] at hrun hor6
      rw [List.length_map, List.length_map] at hrun
      have hb6 := hbl6 w3.heap.size w3 (Nat.le_refl _) hbw
      have HR := hideP hrun
      have HN := hideP (show MtI w3 cs os (.slice A' (wsB cs os (k + 1)).length c') (.int .i64 ((k : Int) + 1)) w6 from ⟨k + 1, A', c', by omega, by rw [Int.natCast_add]; rfl, rfl, hor6, hb6⟩)
      clear hrun hbl6 hor5 hor6 hb6 hor hX hd0 hbw
      generalize bs (itoa ok) = tk at HR HI2 ⊢
      go_wp2_with fail
      go_region_law (first
        | (refine step_append_runT _ rfl _ _ _ _ rfl _ _ rfl rfl _ _ HR.out ?_)
        | (go_simp
           go_at_call 76
           refine (HI2.out _).mono ?_
           rintro e wq ⟨rfl, rfl⟩))
      all_goals
        go_wp2_with fail
        go_roundw
        case rel => exact HN.out
        case measure => simp [intOf]; omega
    · have hke : k = cs.length := by omega
      subst hke
      have hwl := wsB_len hlen (Nat.le_refl cs.length)
      have hT : (tM cs os).length ≤ 252 := by
        have := body_len (x := ⟨true, [], cs, os⟩) HC.out
        simp only [bodyT, if_true, List.length_append] at this
        have h4 : mapW.length = 4 := rfl
        omega
      have HJ := hideP (join_any P cp (wsB cs os cs.length) ⟨#[58]⟩ wr hor.vs (by omega) (by omega) (by have := hor.caps.1; rwa [List.length_map] at this) (by rw [wsB_end hlen]; show (tM cs os).length ≤ _; omega))
      have HE := hideP (wsB_end hlen)
      clear hwl hT
      go_wp2_with fail
      refine HJ.out.mono ?_
      rintro e w5 ⟨rfl, hb5⟩
      rw [HE.out]
      have hb6 := HB3.out.trans ((hb.trans (hb5.mono hb.size)).mono HB3.out.size)
      go_wp2_with fail
      go_ret
      exact ⟨rfl, hb6⟩
end Go.Proofs.YtmepmiokpcddbabGreatDoor

set_option linter.unusedVariables false
set_option linter.unusedSimpArgs false
namespace Go.Proofs.YtmepmiokpcddbabGreatDoor
open Go.RowKit

noncomputable def sameB (a b : List Opr) : Bool := @decide (a = b) (Classical.propDecidable _)
theorem sameB_true {a b : List Opr} (h : a = b) : sameB a b = true := by unfold sameB; exact @decide_eq_true _ (Classical.propDecidable _) h
theorem sameB_false {a b : List Opr} (h : a ≠ b) : sameB a b = false := by unfold sameB; exact @decide_eq_false _ (Classical.propDecidable _) h
def opEq (p q : Opr) : Bool := p.kind == q.kind && (p.key.toList == q.key.toList && (p.src.toList == q.src.toList && p.n == q.n))
theorem opB_ext {a b : ByteArray} (h : a.data.toList = b.data.toList) : a = b := by
  cases a with | mk a => cases b with | mk b => simp at h; rw [h]
theorem opEq_iff {p q : Opr} : opEq p q = true ↔ p = q := by
  obtain ⟨a, b, c, d⟩ := p
  obtain ⟨a', b', c', d'⟩ := q
  simp only [opEq, Bool.and_eq_true, beq_iff_eq, Opr.mk.injEq]
  constructor
  · rintro ⟨h1, h2, h3, h4⟩
    rw [ByteArray.toList_eq, ByteArray.toList_eq] at h2 h3
    exact ⟨h1, opB_ext h2, opB_ext h3, h4⟩
  · rintro ⟨h1, h2, h3, h4⟩
    exact ⟨h1, by rw [h2], by rw [h3], h4⟩
theorem run_neq_ops (p q : Opr) (w : World) : (binOp .neq 93 (.agg #[.int .i64 p.kind, .string p.key, .string p.src, .int .i64 p.n]) (.agg #[.int .i64 q.kind, .string q.key, .string q.src, .int .i64 q.n])).run Tryz.prog w = .ok (.bool (!opEq p q)) w := by
  have u3 := Tryz.underlying3
  have u9 := Tryz.underlying9
  have a3 := Tryz.isAgg3
  have z3 := Tryz.sizeOf3
  have a9 := Tryz.isAgg9
  have z9 := Tryz.sizeOf9
  have hS : Tryz.prog.underlying 93 = some (.struct (Tryz.prog.fieldsOf 93)) := by kernel_rfl
  have hp : Tryz.prog.stoodInHeld 93 = false := by kernel_rfl
  rw [run_neq_struct, show (10000 : Nat) = 9999 + 1 from rfl, run_equalIn_agg w 9999 93 _ _ hS hp]
  simp only [Program.fieldsOf, Tryz.underlying93]
  unfold opEq
  generalize hx1 : (p.kind == q.kind) = x1
  generalize hx2 : (p.key.toList == q.key.toList) = x2
  generalize hx3 : (p.src.toList == q.src.toList) = x3
  generalize hx4 : (p.n == q.n) = x4
  cases x1 <;> cases x2 <;> cases x3 <;> cases x4 <;> go_simp <;> simp [hx1, hx2, hx3, hx4]
theorem guard_ops (x y : Operand) (xs ys : Array Value) (w : World) : (eqGuard .neq 93 x y (.agg xs) (.agg ys)).run Tryz.prog w = .ok () w := run_eqGuard_agg w .neq 93 x y xs ys (by kernel_rfl)
set_option maxHeartbeats 1000000 in
set_option maxRecDepth 100000 in
theorem equalO_any (A1 A2 : Option Addr) (c1 c2 : Nat) (l m : List Opr) (w : World) (h1 : OS w w.heap.size A1 l) (h2 : OS w w.heap.size A2 m) (hl : l.length < 4611686018427387904) :
    Calls Tryz.prog 56 #[.slice A1 l.length c1, .slice A2 m.length c2] w fun e w' => e = .returned (.bool (sameB l m)) ∧ Below w.heap.size w w' := by
  by_cases hlm : l.length = m.length
  · have d0 : ((l.length : Int) != (m.length : Int)) = false := by simp; omega
    have HLM := hideP hlm
    clear hlm
    go_enter Tryz.func56, Tryz.ntmps56
    go_wp2_with fail
    go_loopw [13] (fun i wr => ∃ k : Nat, k ≤ l.length ∧ i = .int .i64 k ∧ l.take k = m.take k ∧ Below w.heap.size w wr) (fun i _ => l.length - (intOf i).toNat)
    case atStart => exact ⟨0, Nat.zero_le _, rfl, rfl, Below.refl _ _⟩
    case round =>
      obtain ⟨k, hk, rfl, heq, hb⟩ := hrel
      have HEQ := hideP heq
      clear heq
      by_cases hlt : k < l.length
      · have hltm : k < m.length := by rw [← HLM.out]; exact hlt
        obtain ⟨b, o, rfl, hbl, q1, q2, q3, q4⟩ := h1.below hb k _ (List.getElem?_eq_getElem hlt)
        obtain ⟨b', o', rfl, hbl', q5, q6, q7, q8⟩ := h2.below hb k _ (List.getElem?_eq_getElem hltm)
        clear h1 h2
        have HS := hideP (fun (h : l[k] = m[k]) => show l.take (k + 1) = m.take (k + 1) by rw [List.take_succ_eq_append_getElem hlt, List.take_succ_eq_append_getElem hltm, HEQ.out, h])
        have HD := hideP (fun (h : l[k] ≠ m[k]) => show l ≠ m from fun e => h (by subst e; rfl))
        generalize l[k] = p at q1 q2 q3 q4 HS HD
        generalize m[k] = r at q5 q6 q7 q8 HS HD
        have g1 : (0 : Int) ≤ (k : Int) := by omega
        have g2 : (k : Int) < (l.length : Int) := by omega
        have g3 : (k : Int) < (m.length : Int) := by omega
        have n1 := run_neq_ops p r
        have n2 := guard_ops
        cases he : opEq p r
        · have HN := hideP (HD.out fun e => by rw [opEq_iff.2 e] at he; cases he)
          rw [he] at n1
          clear he
          go_wp2_with fail
          go_quiet (fail)
          go_wp2_with fail
          go_ret
          exact ⟨by rw [sameB_false HN.out]; rfl, ⟨hb.os, hb.tape, hb.output, hb.size, hb.block⟩⟩
        · have HN := hideP (HS.out (opEq_iff.1 he))
          rw [he] at n1
          clear he
          go_wp2_with fail
          go_quiet (fail)
          go_wp2_with fail
          go_roundw
          case rel => exact ⟨k + 1, by omega, by go_num, HN.out, ⟨hb.os, hb.tape, hb.output, hb.size, hb.block⟩⟩
          case measure => simp [intOf]; omega
      · have HE := hideP (show l = m by
          have := HEQ.out
          rwa [List.take_of_length_le (by omega), List.take_of_length_le (by have := HLM.out; omega)] at this)
        go_wp2_with fail
        go_ret
        exact ⟨by rw [sameB_true HE.out]; rfl, hb⟩
  · have d0 : ((l.length : Int) != (m.length : Int)) = true := by simp; omega
    have HE := hideP (show l ≠ m from fun e => hlm (by rw [e]))
    clear hlm
    go_enter Tryz.func56, Tryz.ntmps56
    go_wp2_with fail
    go_ret
    exact ⟨by rw [sameB_false HE.out]; rfl, Below.refl _ _⟩
set_option maxHeartbeats 1000000 in
set_option maxRecDepth 100000 in
theorem samedeed_any (D1 D2 : Option Addr) (k1 k2 : Nat) (a b : List Opr) (w : World) (ha : OS w w.heap.size D1 a) (hb : OS w w.heap.size D2 b) (hl : a.length < 4611686018427387904) :
    Calls Tryz.prog 17 #[.agg #[.slice D1 a.length k1], .agg #[.slice D2 b.length k2]] w fun e w' => e = .returned (.bool (sameB a b)) ∧ Below w.heap.size w w' := by
  have h0 := ((Below.refl w.heap.size w).alloc (Nat.le_refl _) (.cells #[.slice D1 a.length k1] 24)).alloc (by simp) (.cells #[.slice D2 b.length k2] 24)
  have HQ := hideP (equalO_any D1 D2 k1 k2 a b _ (ha.go h0) (hb.go h0) hl)
  go_enter Tryz.func17, Tryz.ntmps17
  go_wp2_with fail
  refine HQ.out.mono ?_
  clear HQ
  generalize (w.alloc (.cells #[.slice D1 a.length k1] 24)).alloc (.cells #[.slice D2 b.length k2] 24) = w1 at h0 ⊢
  rintro e w2 ⟨rfl, hb2⟩
  have hb3 := h0.trans (hb2.mono h0.size)
  generalize hq : sameB a b = q at ⊢
  have HQ := hideP hq
  clear hq
  go_wp2_with fail
  go_ret
  exact ⟨by rw [HQ.out]; rfl, hb3⟩
end Go.Proofs.YtmepmiokpcddbabGreatDoor
