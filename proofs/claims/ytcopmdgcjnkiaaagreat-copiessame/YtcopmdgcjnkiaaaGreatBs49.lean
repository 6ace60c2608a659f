/-
  rokeep.CopiesTake: the walk.
-/
import Derived.Test.YtcopmdgcjnkiaaaGreatBs40
import Derived.Test.YtcopmdgcjnkiaaaGreatBs45
import Derived.Test.YtcopmdgcjnkiaaaGreatBs48
import Derived.Test.YtcopmdgcjnkiaaaGreatBs36
set_option linter.unusedVariables false
set_option linter.unusedSimpArgs false
namespace Go.Proofs.YtcopmdgcjnkiaaaGreat
open Go.RowKit

theorem bool_same (b : Bool) : (b != b) = false := by cases b <;> rfl
def TkI1 (w : World) (g : Nat) (A : Option Addr) (ce : Nat) (xs : List Em) (st : List Sr) (i : Value) (wr : World) : Prop :=
  ∃ (k : Nat) (c : Cs), k ≤ xs.length ∧ i = .int .i64 k ∧ AdH w g A ce xs st k c wr
def TkI2 (w : World) (g : Nat) (es : List Ent) (A : Option Addr) (ce : Nat) (xs : List Em) (r0 : Sr) (n : Nat) (i : Value) (wr : World) : Prop :=
  ∃ (k : Nat) (c : Cs), k ≤ n ∧ i = .int .i64 k ∧ StH w g es A ce xs [playR r0 (es.take k), r0] c wr
def TkI3 (w : World) (g : Nat) (es : List Ent) (A : Option Addr) (ce : Nat) (xs : List Em) (r0 : Sr) (a n : Nat) (i : Value) (wr : World) : Prop :=
  ∃ (k : Nat) (c : Cs), k ≤ n ∧ i = .int .i64 k ∧ StH w g es A ce xs [playR r0 (es.take (a + k)), playR r0 (es.take (a + k))] c wr
/-- a step on one of two replicas -/
theorem two_step (es : List Ent) (r0 : Sr) (h0 : r0.bs = []) (a b : Sr) (k i : Nat) (hk : k < es.length) (hi : [a, b][i]? = some (playR r0 (es.take k))) :
    cpQ es [a, b] (i : Int) = 0 ∧ cpB es [a, b] (i : Int) = doneE (playR r0 (es.take k)).v es[k] ∧ cpS es [a, b] (i : Int) = [a, b].set i (playR r0 (es.take (k + 1))) := by
  have hl : (playR r0 (es.take k)).bs.length = k := by rw [playR_len, h0, List.length_take]; simp; omega
  obtain ⟨h1, h2, h3⟩ := cp_go (log := es) (st := [a, b]) (i := i) (x := es[k]) hi (by rw [hl]; exact List.getElem?_eq_getElem hk)
  exact ⟨h1, h2, by rw [h3, playR_take _ _ _ hk]⟩
set_option maxHeartbeats 8000000 in
set_option maxRecDepth 100000 in
theorem ctk_walk (P T D M : Option Addr) (cp ct cd cm : Nat) (zs ts : List Int) (ds ms : List Cl) (a0 m0 : Int) (w : World) (hP : IS w P zs) (hl : zs.length ≤ cp) (hc : cp ≤ 9223372036854775807) (hn : P = none → cp = 0)
    (hT : IS w T ts) (hlt : ts.length ≤ ct) (hct : ct ≤ 9223372036854775807) (hnt : T = none → ct = 0)
    (hD : LS w D ds) (hDl : ds.length ≤ cd) (hDc : cd ≤ 9223372036854775807) (hDn : D = none → cd = 0)
    (hM : LS w M ms) (hMl : ms.length ≤ cm) (hMc : cm ≤ 9223372036854775807) (hMn : M = none → cm = 0) :
    Calls Tryz.prog 4 #[.slice P zs.length cp, .slice T ts.length ct, .slice D ds.length cd, .slice M ms.length cm, .int .i64 a0, .int .i64 m0] w fun e w' => e = .returned (.bool true) ∧ Below w.heap.size w w' := by
  go_enter Tryz.func4, Tryz.ntmps4
  go_wp2_with fail
  refine (cbegun_any _).mono ?_
  rintro e w1 ⟨rfl, hb1⟩
  replace hP := hP.below hb1
  replace hT := hT.below hb1
  replace hD := hD.below hb1
  replace hM := hM.below hb1
  go_wp2_with fail
  refine (kmap_is P cp zs _ hP (by omega)).mono ?_
  rintro e w2 ⟨A, ca, O, co, rfl, hmo, hb2⟩
  replace hT := hT.below hb2
  replace hD := hD.below hb2
  replace hM := hM.below hb2
  have b2 := hb1.trans (hb2.mono hb1.size)
  clear hP hb1
  go_wp2_with fail
  refine (pairs_any T ct ts _ hT hlt hct hnt).mono ?_
  rintro e w3 ⟨As, cs', s, rfl, hsv, hsm, hb3⟩
  replace hD := hD.below hb3
  replace hM := hM.below hb3
  have b3 := b2.trans (hb3.mono b2.size)
  have HN := hideP (cnew_ok 1 2 ⟨A, ca, mpC zs, O, co, mpO zs⟩ As cs' s w3 (by decide) (by decide) (by decide) (by decide) (hmo.below hb3).ms hsv.ps (mp_ok zs) hsm.ok)
  simp only at HN
  clear hb3 hb2 b2 hmo hsv hT
  go_wp2_with fail
  refine HN.out.mono ?_
  clear HN
  rintro e w4 ⟨c, rfl, hok, hct0, hst0, hb4⟩
  have b4 := b3.trans (hb4.mono b3.size)
  have hok4 := hok.mono b3.size
  replace hD := hD.below hb4
  replace hM := hM.below hb4
  clear hok hb4 b3
  generalize hr0 : (⟨valOf s, mpC zs, mpO zs, []⟩ : Sr) = r0 at hst0
  have hr00 := hideP (show r0.bs = [] by rw [← hr0])
  clear hr0 hsm
  go_wp2_with fail
  refine (entries_any D M cd cm ds ms _ hD hDl hDc hDn hM).mono ?_
  rintro e w5 ⟨Ae, ce, xs, rfl, hew, hgd, hxl, hb5⟩
  generalize hg : c.s.g = g at ⊢
  have hI : TkI1 w g Ae ce xs [r0, r0] (.int .i64 0) w5 := ⟨0, c, Nat.zero_le _, rfl, hok4.below hb5, hg, by rw [hct0]; rfl, by rw [hst0]; rfl, hew.mono b4.size, CAp.fresh hew hok4 (Nat.le_refl _), b4.trans (hb5.mono b4.size)⟩
  have HGD := hideP hgd
  have hx24 : xs.length ≤ 24 := by omega
  clear hD hM hDl hDc hDn hMl hMc hMn hok4 hct0 hst0 hew hgd b4 hb5 hg hxl
  go_wp2_with fail
  go_loopw [56] (TkI1 w g Ae ce xs [r0, r0]) (fun i _ => xs.length - (intOf i).toNat)
  case atStart => exact hI
  case round =>
    clear hI
    obtain ⟨k, c, hk, rfl, h⟩ := hrel
    by_cases hlt : k < xs.length
    · obtain ⟨bb, oo, hA, hbl, p0, p1, p2, p3⟩ := h.ew.el.cells k xs[k] (List.getElem?_eq_getElem hlt)
      have hes := h.ew.el.es _ (List.getElem_mem hlt)
      have hgd := HGD.out _ (List.getElem_mem hlt)
      have al := (Below.refl wr.heap.size wr).alloc (Nat.le_refl _) (.cells (emC xs[k]) 41)
      have ald := al.drew
      have hB := h.below ald
      have xe := Box.new wr 41 (emC xs[k])
      obtain ⟨q1, q2⟩ := add_one ((xs.map entOf).take k) (entOf xs[k]) hgd.chk hgd.bare (by rw [List.length_take, List.length_map]; omega)
      have HAD := hideP (cadd_any c _ 0 xs[k] _ hB.ok (hes.below ald))
      rw [hB.ct, q1, q2, hB.gg] at HAD
      have HNX := hideP (fun (c' : Cs) (w' : World) (T : c.To (wr.alloc (.cells (emC xs[k]) 41)).drew w.heap.size c' w' [[(xs.map entOf).take k ++ [entOf xs[k]]]] c.st) => hB.next hlt T)
      have g1 : (0 : Int) ≤ (k : Int) := by omega
      have g2 : (k : Int) < (xs.length : Int) := by omega
      subst hA
      have x0 := xe.cell 0 (v := .slice xs[k].D xs[k].d.length xs[k].c) rfl
      have x1 := xe.cell 1 (v := .bool xs[k].isM) rfl
      have x2 := xe.cell 2 (v := .slice xs[k].m.A xs[k].m.cs.length xs[k].m.ca) rfl
      have x3 := xe.cell 3 (v := .slice xs[k].m.O xs[k].m.os.length xs[k].m.co) rfl
      clear h hB hes hgd al ald xe q1 q2
      generalize xs[k] = x at p0 p1 p2 p3 HAD HNX x0 x1 x2 x3
      unfold emV emC at HAD
      unfold emC at HNX x0 x1 x2 x3
      go_wp2_with fail
      go_region_law (
        (go_simp
         go_at_call 13
         refine HAD.out.mono ?_
         rintro e w6 ⟨c', rfl, TT⟩
         have hN := HNX.out c' w6 TT
         clear TT))
      all_goals
        go_wp2_with fail
        go_roundw
        case rel => exact ⟨k + 1, c', by omega, by go_num, hN⟩
        case measure => simp [intOf]; omega
    · obtain rfl : k = xs.length := by omega
      have hes : ∃ es, xs.map entOf = es := ⟨_, rfl⟩
      obtain ⟨es, hes⟩ := hes
      have hel : es.length = xs.length := by rw [← hes, List.length_map]
      have HCL := hideP (cclose_any c _ 0 wr h.ok)
      obtain ⟨f1, f2, f3⟩ := close_one es
      rw [h.ct, hes, List.take_of_length_le (by omega), f1, f2, f3, h.gg] at HCL
      have HCN := hideP (fun (c' : Cs) (w' : World) (T : c.To wr w.heap.size c' w' [[es, []]] c.st) => h.close hes T)
      clear h f1 f2 f3 hes
      go_wp2_with fail
      refine HCL.out.mono ?_
      clear HCL
      rintro e w6 ⟨c6, rfl, T6⟩
      have h6 := HCN.out c6 w6 T6
      clear T6 HCN
      have gl : IntKind.i64.wrap ((xs.length : Int) + 1) = ((xs.length + 1 : Nat) : Int) := by simp only [IntKind.wrap_i64]; omega
      have HW := hideP (within_any a0 (xs.length + 1) (by omega) (by omega) w6)
      have hwa := wi_lt a0 (xs.length + 1) (by omega)
      generalize wi a0 (xs.length + 1) = a at HW hwa
      go_wp2_with fail
      refine HW.out.mono ?_
      rintro e w' ⟨rfl, rfl⟩
      clear HW
      go_wp2_with fail
      go_loopw [82] (TkI2 w g es Ae ce xs r0 a) (fun i _ => a - (intOf i).toNat)
      case atStart => exact ⟨0, c6, Nat.zero_le _, rfl, h6⟩
      case round =>
        clear h6
        obtain ⟨k, c, hk, rfl, h⟩ := hrel
        by_cases hka : k < a
        · obtain ⟨q1, q2, q3⟩ := two_step es r0 hr00.out (playR r0 (es.take k)) r0 k 0 (by omega) rfl
          have HS := hideP (cstep_any c _ 0 wr h.ok)
          rw [show ((0 : Nat) : Int) = 0 from rfl] at q1 q2 q3
          rw [h.ct, h.st, q1, q2, q3, h.gg] at HS
          have HSN := hideP (fun (c' : Cs) (w' : World) (T : c.To wr w.heap.size c' w' c.s.ct _) => StH.next (st' := [playR r0 (es.take (k + 1)), r0]) h T)
          have g2 : (k : Int) < (a : Int) := by omega
          generalize doneE (playR r0 (es.take k)).v es[k] = dn at HS
          clear h q1 q2 q3
          go_wp2_with fail
          refine HS.out.mono ?_
          clear HS
          rintro e w7 ⟨c7, rfl, T7⟩
          have h7 := HSN.out c7 w7 T7
          clear T7 HSN
          go_wp2_with fail
          go_roundw
          case rel => exact ⟨k + 1, c7, by omega, by go_num, h7⟩
          case measure => simp [intOf]; omega
        · obtain rfl : k = a := by omega
          have hla : (playR r0 (es.take k)).bs.length = k := by rw [playR_len, hr00.out, List.length_take]; simp; omega
          have HTK : Hid (∀ (c : Cs) (w' : World), StH w g es Ae ce xs [playR r0 (es.take k), r0] c w' → Calls Tryz.prog 24 #[.pointer (some ⟨g, 0, none⟩), .int .i64 1, .int .i64 0] w' fun e w9 => ∃ c', e = .returned (.int .i64 0) ∧ StH w g es Ae ce xs [playR r0 (es.take (k + 0)), playR r0 (es.take (k + 0))] c' w9) := hideP (by
            intro c w' h
            obtain ⟨q1, q2⟩ := ct_go (st := [playR r0 (es.take k), r0]) (i := 1) (k := 0) (r := r0) (q := playR r0 (es.take k)) rfl rfl (by rw [hr00.out]; exact Nat.zero_le _)
            have HT := ctake_any c _ 1 0 w' h.ok
            rw [show ((0 : Nat) : Int) = 0 from rfl, show ((1 : Nat) : Int) = 1 from rfl] at q1 q2
            rw [h.st, q1, q2, h.gg] at HT
            refine HT.mono ?_
            rintro e w9 ⟨c', rfl, T⟩
            exact ⟨c', rfl, h.next T⟩)
          have HREST := hideP h.len
          -- the first Take
          have HT1 : Hid (0 < k → Calls Tryz.prog 24 #[.pointer (some ⟨g, 0, none⟩), .int .i64 0, .int .i64 1] wr fun e w9 => ∃ c', e = .returned (.int .i64 6) ∧ StH w g es Ae ce xs [playR r0 (es.take k), r0] c' w9) := hideP (by
            intro hk0
            obtain ⟨q1, q2⟩ := ct_wait (st := [playR r0 (es.take k), r0]) (i := 0) (k := 1) (r := playR r0 (es.take k)) (q := r0) rfl rfl (by rw [hr00.out, hla]; exact hk0)
            have HT := ctake_any c _ 0 1 wr h.ok
            rw [show ((0 : Nat) : Int) = 0 from rfl, show ((1 : Nat) : Int) = 1 from rfl] at q1 q2
            rw [h.st, q1, q2, h.gg] at HT
            refine HT.mono ?_
            rintro e w9 ⟨c', rfl, T⟩
            exact ⟨c', rfl, h.next T⟩)
          have g3 : ¬ (k : Int) < (k : Int) := by omega
          have HW2 := hideP (fun W => within_any m0 (xs.length - k + 1) (by omega) (by omega) W)
          have gw : IntKind.i64.wrap (IntKind.i64.wrap ((xs.length : Int) - (k : Int)) + 1) = ((xs.length - k + 1 : Nat) : Int) := by simp only [IntKind.wrap_i64]; omega
          have gw0 : IntKind.i64.wrap ((xs.length : Int) - (k : Int)) = ((xs.length - k : Nat) : Int) := by simp only [IntKind.wrap_i64]; omega
          have gw1 : IntKind.i64.wrap (((xs.length - k : Nat) : Int) + 1) = ((xs.length - k + 1 : Nat) : Int) := by simp only [IntKind.wrap_i64]; omega
          have hwm := wi_lt m0 (xs.length - k + 1) (by omega)
          generalize wi m0 (xs.length - k + 1) = n at HW2 hwm
          clear hla
          rcases Nat.eq_zero_or_pos k with hk0 | hk0
          all_goals first
            | (have d1 : ¬ (0 : Int) < (k : Int) := by omega
               have HH := hideP h
               clear h HT1 hk0
               go_wp2_with fail
               refine (HTK.out c wr HH.out).mono ?_
               rintro e w9 ⟨c9, rfl, h9⟩)
            | (have d1 : (0 : Int) < (k : Int) := by omega
               clear h
               go_wp2_with fail
               refine (HT1.out hk0).mono ?_
               rintro e w8 ⟨c8, rfl, h8⟩
               clear HT1 hk0
               go_wp2_with fail
               refine (HTK.out c8 w8 h8).mono ?_
               rintro e w9 ⟨c9, rfl, h9⟩
               clear h8)
          all_goals
            clear HTK d1
            go_wp2_with fail
            refine (HW2.out _).mono ?_
            rintro e w' ⟨rfl, rfl⟩
            clear HW2
            go_wp2_with fail
            go_loopw [111] (TkI3 w g es Ae ce xs r0 k n) (fun i _ => n - (intOf i).toNat)
            case atStart => exact ⟨0, c9, Nat.zero_le _, rfl, h9⟩
            case round =>
              clear h9
              obtain ⟨j, c, hj, rfl, h⟩ := hrel
              by_cases hjn : j < n
              · obtain ⟨q1, q2, q3⟩ := two_step es r0 hr00.out (playR r0 (es.take (k + j))) (playR r0 (es.take (k + j))) (k + j) 0 (by omega) rfl
                have HS := hideP (cstep_any c _ 0 wr h.ok)
                rw [show ((0 : Nat) : Int) = 0 from rfl] at q1 q2 q3
                rw [h.ct, h.st, q1, q2, q3, h.gg] at HS
                have HSN := hideP (fun (c' : Cs) (w' : World) (T : c.To wr w.heap.size c' w' c.s.ct _) => StH.next (st' := [playR r0 (es.take (k + j + 1)), playR r0 (es.take (k + j))]) h T)
                obtain ⟨q1, q2, q3⟩ := two_step es r0 hr00.out (playR r0 (es.take (k + j + 1))) (playR r0 (es.take (k + j))) (k + j) 1 (by omega) rfl
                have HS2 := hideP (fun (c : Cs) (wr : World) (h : StH w g es Ae ce xs [playR r0 (es.take (k + j + 1)), playR r0 (es.take (k + j))] c wr) => show Calls Tryz.prog 16 #[.pointer (some ⟨g, 0, none⟩), .int .i64 1] wr fun e w' => ∃ c', e = .returned (.tuple #[.bool (doneE (playR r0 (es.take (k + j))).v es[k + j]), .int .i64 0]) ∧ StH w g es Ae ce xs [playR r0 (es.take (k + (j + 1))), playR r0 (es.take (k + (j + 1)))] c' w' from by
                  have HS := cstep_any c _ 1 wr h.ok
                  rw [show ((1 : Nat) : Int) = 1 from rfl] at q1 q2 q3
                  rw [h.ct, h.st, q1, q2, q3, h.gg] at HS
                  refine HS.mono ?_
                  rintro e w' ⟨c', rfl, T⟩
                  exact ⟨c', rfl, h.next T⟩)
                have g2 : (j : Int) < (n : Int) := by omega
                generalize doneE (playR r0 (es.take (k + j))).v es[k + j] = dn at HS HS2
                have hbn := bool_same dn
                clear h q1 q2 q3
                go_wp2_with fail
                refine HS.out.mono ?_
                clear HS
                rintro e w7 ⟨c7, rfl, T7⟩
                have h7 := HSN.out c7 w7 T7
                clear T7 HSN
                go_wp2_with fail
                refine (HS2.out c7 w7 h7).mono ?_
                clear HS2 h7
                rintro e w10 ⟨c10, rfl, h10⟩
                go_wp2_with fail
                go_roundw
                case rel => exact ⟨j + 1, c10, by omega, by go_num, h10⟩
                case measure => simp [intOf]; omega
              · obtain rfl : j = n := by omega
                obtain ⟨ra, hra, ha⟩ := Cs.at_st (c := c) (i := 0) (a := playR r0 (es.take (k + j))) (by rw [h.st]; rfl)
                obtain ⟨rb, hrb, hb⟩ := Cs.at_st (c := c) (i := 1) (a := playR r0 (es.take (k + j))) (by rw [h.st]; rfl)
                obtain ⟨el, ec, eo, eb⟩ := h.ok.same h.ok hrb hra (hb.trans ha.symm)
                have HA0 := hideP (fun (W : World) (h : c.Ok W w.heap.size) => call_any c w.heap.size 0 ra W h hra)
                have HA1 := hideP (fun (W : World) (h : c.Ok W w.heap.size) => call_any c w.heap.size 1 rb W h hrb)
                have HD0 := hideP (fun (W : World) (h : c.Ok W w.heap.size) => cdone_any c w.heap.size 0 ra W h hra)
                have HD1 := hideP (fun (W : World) (h : c.Ok W w.heap.size) => cdone_any c w.heap.size 1 rb W h hrb)
                have HP0 := hideP (fun (W : World) (h : c.Ok W w.heap.size) (q : Nat) (hq : q < 4) => cpart_any c w.heap.size 0 q ra W h hra hq)
                have HP1 := hideP (fun (W : World) (h : c.Ok W w.heap.size) (q : Nat) (hq : q < 4) => cpart_any c w.heap.size 1 q rb W h hrb hq)
                rw [h.gg] at HA0 HA1 HD0 HD1 HP0 HP1
                rw [el] at HA1
                rw [eb] at HD1
                rw [ec, eo, el] at HP1
                have hsl := (h.ok.ro 0 ra hra).pb.ok.small
                have hsb := h.ok.small hra
                have hok := h.ok
                have hbe := h.be
                clear h hra hrb ha hb el ec eo eb hr00 HREST
                go_wp2_with fail
                refine (HA0.out _ hok).mono ?_
                rintro e v1 ⟨A1, c1, rfl, o1, hb1⟩
                have s1 := o1.sv
                replace hok := hok.below hb1
                replace hbe := hbe.trans (hb1.mono hbe.size)
                clear o1 hb1 HA0
                go_wp2_with fail
                refine (HA1.out _ hok).mono ?_
                rintro e v2 ⟨A2, c2, rfl, o2, hb2⟩
                have s2 := o2.sv
                replace s1 := s1.below hb2
                replace hok := hok.below hb2
                replace hbe := hbe.trans (hb2.mono hbe.size)
                clear o2 hb2 HA1
                go_wp2_with fail
                refine (HD0.out _ hok).mono ?_
                rintro e v3 ⟨A3, c3, rfl, o3, hb3⟩
                have s3 := o3.vs
                replace s1 := s1.below hb3
                replace s2 := s2.below hb3
                replace hok := hok.below hb3
                replace hbe := hbe.trans (hb3.mono hbe.size)
                clear o3 hb3 HD0
                go_wp2_with fail
                refine (HD1.out _ hok).mono ?_
                rintro e v4 ⟨A4, c4, rfl, o4, hb4⟩
                have s4 := o4.vs
                replace s1 := s1.below hb4
                replace s2 := s2.below hb4
                replace s3 := s3.below hb4
                replace hok := hok.below hb4
                replace hbe := hbe.trans (hb4.mono hbe.size)
                clear o4 hb4 HD1
                have HE1 := hideP (equal_same A1 A2 c1 c2 ra.l v4 s1.ps s2.ps (by omega))
                have HE2 := hideP (fun (W : World) (hb : Below v4.heap.size v4 W) => bequal_same A3 A4 c3 c4 ra.bs W (s3.below hb) (s4.below hb) (by omega))
                clear s1 s2 s3 s4
                go_wp2_with fail
                refine HE1.out.mono ?_
                rintro e v5 ⟨rfl, hb5⟩
                replace hok := hok.below hb5
                replace hbe := hbe.trans (hb5.mono hbe.size)
                clear HE1
                go_wp2_with fail
                refine (HE2.out v5 hb5).mono ?_
                rintro e v6 ⟨rfl, hb6⟩
                replace hok := hok.below hb6
                replace hbe := hbe.trans (hb6.mono hbe.size)
                clear HE2 hb5 hb6
                go_wp2_with fail
                go_loopw [181] (fun i wr => ∃ q : Nat, q ≤ 4 ∧ i = .int .i64 q ∧ c.Ok wr w.heap.size ∧ Below w.heap.size w wr) (fun i _ => 4 - (intOf i).toNat)
                case atStart => exact ⟨0, by omega, rfl, hok, hbe⟩
                case round =>
                  clear hok hbe
                  obtain ⟨q, hq, rfl, hok, hbe⟩ := hrel
                  by_cases hq4 : q < 4
                  · have g1 : (q : Int) < 4 := by omega
                    have hpl : (ptL ra.m.cs ra.m.os (q : Int) ra.l).length ≤ ra.l.length := List.length_filter_le _ _
                    have HQ0 := hideP (HP0.out _ hok q hq4)
                    have HQ1 := hideP (fun W h => HP1.out W h q hq4)
                    generalize ptL ra.m.cs ra.m.os (q : Int) ra.l = pt at HQ0 HQ1 hpl
                    go_wp2_with fail
                    refine HQ0.out.mono ?_
                    rintro e v1 ⟨A1, c1, rfl, o1, hb1⟩
                    have s1 := o1.sv
                    replace hok := hok.below hb1
                    replace hbe := hbe.trans (hb1.mono hbe.size)
                    clear o1 hb1 HQ0
                    go_wp2_with fail
                    refine (HQ1.out _ hok).mono ?_
                    rintro e v2 ⟨A2, c2, rfl, o2, hb2⟩
                    have s2 := o2.sv
                    replace s1 := s1.below hb2
                    replace hok := hok.below hb2
                    replace hbe := hbe.trans (hb2.mono hbe.size)
                    clear o2 hb2 HQ1
                    have HE1 := hideP (equal_same A1 A2 c1 c2 pt v2 s1.ps s2.ps (by omega))
                    clear s1 s2
                    go_wp2_with fail
                    refine HE1.out.mono ?_
                    rintro e v5 ⟨rfl, hb5⟩
                    replace hok := hok.below hb5
                    replace hbe := hbe.trans (hb5.mono hbe.size)
                    clear HE1 hb5
                    go_wp2_with fail
                    go_roundw
                    case rel => exact ⟨q + 1, by omega, by go_num, hok, hbe⟩
                    case measure => simp [intOf]; omega
                  · have g1 : ¬ (q : Int) < 4 := by omega
                    go_wp2_with fail
                    go_ret
                    exact ⟨rfl, hbe⟩
end Go.Proofs.YtcopmdgcjnkiaaaGreat
