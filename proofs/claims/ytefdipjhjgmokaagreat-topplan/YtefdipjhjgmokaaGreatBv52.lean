/-
  plan.Play.
-/
import Derived.Test.YtefdipjhjgmokaaGreatBv51
import Derived.Test.YtefdipjhjgmokaaGreatBv26
set_option linter.unusedVariables false
set_option linter.unusedSimpArgs false
namespace Go.Proofs.YtefdipjhjgmokaaGreat
open Go.RowKit Go.WideMaps Go.Maps

/-- what Play hands back -/
def RetPlay (w : World) (dd : List (List Opr)) (ps : List Int) (v : VF) (e : Ending) (w' : World) : Prop :=
  ∃ A c l gx A2 c2, e = .returned (.tuple #[.slice A (l : List Pr).length c, .slice (some ⟨gx, 0, none⟩) dd.length dd.length, .slice A2 dd.length c2, .int .i64 0]) ∧ OV w' w.heap.size A c l ∧ Ok l ∧ valOf l = (plS dd ps v dd.length).1 ∧
    OR w' w.heap.size 4 (some ⟨gx, 0, none⟩) dd.length ((plS dd ps v dd.length).2.map Value.bool) ∧ OR w' w.heap.size 3 A2 c2 (nV (playN dd ps dd.length)) ∧ Below w.heap.size w w'
/-- while it plays -/
structure Py (w : World) (g gx : Nat) (dd : List (List Opr)) (ps : List Int) (v : VF) (k : Nat) (A : Option Addr) (c : Nat) (l : List Pr) (A2 : Option Addr) (c2 : Nat) (left : List En) (wr : World) : Prop where
  ov : OV wr w.heap.size A c l
  ok : Ok l
  val : valOf l = (plS dd ps v k).1
  ord : OR wr w.heap.size 3 A2 c2 (nV (playN dd ps k))
  exe : OR wr w.heap.size 4 (some ⟨gx, 0, none⟩) dd.length ((plS dd ps v k).2.map Value.bool)
  tab : TB wr w.heap.size g dd.length left
  lk : Lk left dd (inN (playN dd ps k))
  bel : Below w.heap.size w wr
def PyInv (w : World) (g gx : Nat) (dd : List (List Opr)) (ps : List Int) (v : VF) (vn vo vr : Value) (wr : World) : Prop :=
  ∃ (k : Nat) (A : Option Addr) (c : Nat) (l : List Pr) (A2 : Option Addr) (c2 : Nat) (A3 : Option Addr) (c3 : Nat) (left : List En), k ≤ dd.length ∧ vn = .slice A l.length c ∧ vo = .slice A2 k c2 ∧ vr = .slice A3 (rdyO dd (playN dd ps k)).length c3 ∧
    VS wr A3 (nV (rdyO dd (playN dd ps k))) ∧ Py w g gx dd ps v k A c l A2 c2 left wr
theorem nV_get' {l : List Nat} {i v : Nat} (h : l[i]? = some v) : (nV l)[i]? = some (.int .i64 (v : Int)) := by simp [nV, h]
def slLen : Value → Nat | .slice _ n _ => n | _ => 0
theorem TB.lower {w : World} {B B' g added : Nat} {left : List En} (h : TB w B g added left) (hB : B' ≤ B) : TB w B' g added left := by
  obtain ⟨lA, lc, m, n, f, h⟩ := h
  exact ⟨lA, lc, m, n, f, h.box, Nat.le_trans hB h.low, own_mono h.row hB, fun e he => (h.keys e he).mono hB, h.map, fun b hb => Nat.le_trans hB (h.mlow b hb), h.num, h.most, fun k => own_mono (h.queue k) hB, h.apart, h.asc, h.good⟩
theorem OV.kp {B C : Nat} {w w' : World} {A : Option Addr} {c : Nat} {l : List Pr} (h : OV w C A c l) (k : Kp B w w') : OV w' C A c l :=
  ⟨h.1, h.2.imp id fun ⟨g, cap, cur, e1, e2, e3, e4⟩ => ⟨g, cap, cur, e1, e2, (k.oth g 53 ⟨_, _, e3⟩ (by decide) (by decide) (by decide)).trans e3, e4⟩⟩
theorem Py.below {w : World} {g gx : Nat} {dd : List (List Opr)} {ps : List Int} {v : VF} {k : Nat} {A : Option Addr} {c : Nat} {l : List Pr} {A2 : Option Addr} {c2 : Nat} {left : List En} {wr w' : World}
    (h : Py w g gx dd ps v k A c l A2 c2 left wr) (hb : Below wr.heap.size wr w') : Py w g gx dd ps v k A c l A2 c2 left w' :=
  ⟨h.ov.below hb, h.ok, h.val, h.ord.below hb, h.exe.below hb, h.tab.below hb, h.lk, h.bel.trans (hb.mono h.bel.size)⟩
theorem rdyO_len (dd : List (List Opr)) (o : List Nat) : (rdyO dd o).length ≤ dd.length := by
  have := List.length_filter_le (fun i => !inN o i && !wtB dd (inN o) i i) (List.range dd.length)
  rwa [List.length_range] at this
theorem Lk.rdyO_ {left : List En} {dd : List (List Opr)} {o : List Nat} (h : Lk left dd (inN o)) : rdyL left left = rdyO dd o := h.rdy
/-- one step: the next one is executed, and leaves the table -/
theorem Py.step {w : World} {g gx : Nat} {dd : List (List Opr)} {ps : List Int} {v : VF} {k : Nat} {A : Option Addr} {c : Nat} {l : List Pr} {A2 : Option Addr} {c2 : Nat} {left : List En} {wr : World}
    (h : Py w g gx dd ps v k A c l A2 c2 left wr) (hk : k < dd.length) (h60 : dd.length ≤ 60) {s : Nat} (hs : s = nextO dd ps (playN dd ps k))
    {A6 : Option Addr} {c6 : Nat} {l6 : List Pr} {w6 : World} (hb : Below wr.heap.size wr w6) (ho6 : OV w6 wr.heap.size A6 c6 l6) (hok6 : Ok l6) (hv6 : valOf l6 = (doneV (valOf l) (dd.getD s [])).1) :
    TB (w6.setCell ⟨gx, s, none⟩ (.bool (doneV (valOf l) (dd.getD s [])).2)) w.heap.size g dd.length left ∧ w.heap.size ≤ (w6.setCell ⟨gx, s, none⟩ (.bool (doneV (valOf l) (dd.getD s [])).2)).heap.size ∧ freeV left (s : Int) = 0 ∧
    (∃ u, w6.cell? ⟨gx, s, none⟩ = some u) ∧ w6.frozen? ⟨gx, s, none⟩ = false ∧
    ∀ w8, TB w8 w.heap.size g dd.length (left.filter (fun e => !decide ((e.seq : Int) = (s : Int)))) → Kp w.heap.size (w6.setCell ⟨gx, s, none⟩ (.bool (doneV (valOf l) (dd.getD s [])).2)) w8 →
      ∃ A9 c9 w9, (Builtin.append_ #[22, 22] 22 #[.slice A2 k c2, .slice (some ⟨w8.heap.size, 0, none⟩) 1 1]).run Tryz.prog (w8.alloc (.cells #[.int .i64 (s : Int)] 3)) = .ok (.slice A9 (k + 1) c9) w9 ∧
        ∃ left', Py w g gx dd ps v (k + 1) A6 c6 l6 A9 c9 left' w9 := by
  subst hs
  have hp := pl_all dd ps k (by omega)
  have hmem := next_mem (ps := ps) (hp.room hk)
  obtain ⟨h1, h2, h3⟩ := rdyO_mem.1 hmem
  have h6 := h.below hb
  have ho6' : OV w6 w.heap.size A6 c6 l6 := ho6.mono h.bel.size
  generalize hsn : nextO dd ps (playN dd ps k) = s at h1 h2 h3 hv6 hmem ⊢
  have hlen : s < ((plS dd ps v k).2.map Value.bool).length := by rw [List.length_map, plS_len]; exact h1
  have hg := grown_setCell w6 ⟨gx, s, none⟩ (.bool (doneV (valOf l) (dd.getD s [])).2)
  have hty := h6.exe.ty_
  have htab := h6.tab.grown hg (fun b hb => by injection hb with hb; subst hb; exact ⟨_, hty, by decide, by decide, by decide, by decide⟩)
  have hgx : w.heap.size ≤ gx := (World.ownsRow.lt h6.exe gx rfl).1
  have hbel7 : Below w.heap.size w (w6.setCell ⟨gx, s, none⟩ (.bool (doneV (valOf l) (dd.getD s [])).2)) := h6.bel.grown hg h6.bel.size (fun b hb => by injection hb with hb; subst hb; exact hgx)
  refine ⟨htab, hbel7.size, ?_, ?_, h6.exe.frozen_ s, fun w8 hT8 hK8 => ?_⟩
  · rw [h.lk.freeV_ h1, if_neg (by rw [inN_no.2 h2]; decide), if_neg]
    rw [Bool.not_eq_true, wtB_iff]
    intro i hi hgi
    exact h3 i hi (inN_no.1 hgi)
  · obtain ⟨b, o, e, _, hc⟩ := h6.exe.vs s _ (List.getElem?_eq_getElem hlen)
    injection e with e
    injection e with e1 e2 _
    subst e1; subst e2
    rw [Nat.zero_add] at hc
    exact ⟨_, hc⟩
  · have hov7 : OV (w6.setCell ⟨gx, s, none⟩ (.bool (doneV (valOf l) (dd.getD s [])).2)) w.heap.size A6 c6 l6 := World.ownsRow.kept ho6' hg (own_ne ho6' hty (by decide))
    have hor7 : OR (w6.setCell ⟨gx, s, none⟩ (.bool (doneV (valOf l) (dd.getD s [])).2)) w.heap.size 3 A2 c2 (nV (playN dd ps k)) := World.ownsRow.kept h6.ord hg (own_ne h6.ord hty (by decide))
    have hex7 := h6.exe.set_ hlen (.bool (doneV (valOf l) (dd.getD s [])).2)
    have hov8 := hov7.kp hK8
    have hor8 := hor7.kp hK8 (by decide) (by decide) (by decide)
    have hex8 := hex7.kp hK8 (by decide) (by decide) (by decide)
    have hbel8 := hbel7.trans hK8.bel
    obtain ⟨A9, c9, w9, hrun, hor9, hbl9, hgr, _⟩ := app_row (P := Tryz.prog) Tryz.underlying22 intInfo rfl w8 w.heap.size 22 A2 c2 _ hor8 [.int .i64 (s : Int)] (by simp [Value.oneCell']) (by rw [nV_length, playN_len]; simp only [List.length_singleton]; omega) (by decide) hbel8.size
    have hX : nV (playN dd ps k) ++ [Value.int .i64 (s : Int)] = nV (playN dd ps (k + 1)) := by
      simp only [playN]; rw [nV_append, hsn]; rfl
    rw [hX] at hrun hor9
    rw [nV_length, nV_length, playN_len, playN_len] at hrun
    have hal := (Below.refl w8.heap.size w8).alloc (Nat.le_refl _) (.cells #[.int .i64 (s : Int)] 3)
    refine ⟨A9, c9, w9, hrun, left.filter (fun e => !decide ((e.seq : Int) = (s : Int))), ?_⟩
    have hor8a := hor8.below hal
    have hov8a := hov8.below hal
    have hex8a := hex8.below hal
    have hov9 : OV w9 w.heap.size A6 c6 l6 := World.ownsRow.kept hov8a hgr (rows_ne hov8a hor8a (by decide))
    have hex9 : OR w9 w.heap.size 4 (some ⟨gx, 0, none⟩) dd.length (((plS dd ps v k).2.map Value.bool).set s (.bool (doneV (valOf l) (dd.getD s [])).2)) := World.ownsRow.kept hex8a hgr (rows_ne hex8a hor8a (by decide))
    have htab9 := (hT8.below hal).grown hgr (fun b hb => ⟨3, own_ty hor8a hb, by decide, by decide, by decide, by decide⟩)
    refine ⟨hov9, hok6, ?_, hor9, ?_, htab9, ?_, hbl9 w.heap.size w (Nat.le_refl _) hbel8⟩
    · simp only [plS]; rw [hsn, hv6, h.val]
    · have e : (plS dd ps v (k + 1)).2.map Value.bool = ((plS dd ps v k).2.map Value.bool).set s (.bool (doneV (valOf l) (dd.getD s [])).2) := by
        simp only [plS]; rw [hsn, List.map_set, h.val]
      rw [e]
      exact hex9
    · have := h.lk.free s
      rw [show playN dd ps (k + 1) = playN dd ps k ++ [s] by simp only [playN]; rw [hsn], inN_snoc]
      exact this

set_option maxHeartbeats 1000000 in
set_option maxRecDepth 100000 in
theorem play_bad1 (A D P : Option Addr) (c cd cp : Nat) (l : List Pr) (ds : List Dl) (ps : List Int) (w : World) (hA : PS w w.heap.size A l) (hl : l.length < 4611686018427387904) (hc : chk ByteArray.empty l ≠ 0) :
    Calls Tryz.prog 8 #[.slice A l.length c, .slice D ds.length cd, .slice P ps.length cp] w fun e w' => e = .returned (.tuple #[.slice none 0 0, .slice none 0 0, .slice none 0 0, .int .i64 (chk ByteArray.empty l)]) ∧ Below w.heap.size w w' := by
  have HC := hideP (check_any A c l w hA hl)
  have d0 : (chk ByteArray.empty l != 0) = true := by simp [hc]
  clear hc hA
  generalize chk ByteArray.empty l = q at HC d0 ⊢
  go_enter Tryz.func8, Tryz.ntmps8
  go_wp2_with fail
  refine HC.out.mono ?_
  rintro e w1 ⟨rfl, hb1⟩
  go_wp2_with fail
  exact bodyPost_ret (v := .tuple #[.slice none 0 0, .slice none 0 0, .slice none 0 0, .int .i64 q]) (by simp [results, Tryz.results8, go_sem]) rfl ⟨rfl, hb1⟩

set_option maxHeartbeats 1000000 in
set_option maxRecDepth 100000 in
theorem play_bad2 (A D P : Option Addr) (c cd cp : Nat) (l : List Pr) (ds : List Dl) (ps : List Int) (w : World) (hA : PS w w.heap.size A l) (h : Ok l) (hD : DS w D ds) (hl : ds.length ≤ 9223372036854775807) (hc : chkP (ddOf ds) ≠ 0) :
    Calls Tryz.prog 8 #[.slice A l.length c, .slice D ds.length cd, .slice P ps.length cp] w fun e w' => e = .returned (.tuple #[.slice none 0 0, .slice none 0 0, .slice none 0 0, .int .i64 (chkP (ddOf ds))]) ∧ Below w.heap.size w w' := by
  have hll := h.small
  have HC := hideP (check_any A c l w hA (by omega))
  rw [chk_ok.2 h] at HC
  have HP := hideP (fun (w' : World) hD => pcheck_any D cd ds w' hD hl)
  have d0 : (chkP (ddOf ds) != 0) = true := by simp [hc]
  clear hc hA h hll
  generalize chkP (ddOf ds) = q at HP d0 ⊢
  go_enter Tryz.func8, Tryz.ntmps8
  go_wp2_with fail
  refine HC.out.mono ?_
  rintro e w1 ⟨rfl, hb1⟩
  have hD1 := hD.below hb1
  go_wp2_with fail
  refine (HP.out _ hD1).mono ?_
  rintro e w2 ⟨rfl, hb2⟩
  have hb3 := hb1.trans (hb2.mono hb1.size)
  go_wp2_with fail
  exact bodyPost_ret (v := .tuple #[.slice none 0 0, .slice none 0 0, .slice none 0 0, .int .i64 q]) (by simp [results, Tryz.results8, go_sem]) rfl ⟨rfl, hb3⟩

set_option maxHeartbeats 2000000 in
set_option maxRecDepth 100000 in
theorem play_ok (A D P : Option Addr) (c cd cp : Nat) (l : List Pr) (ds : List Dl) (ps : List Int) (w : World) (hA : SV w A c l) (h : Ok l) (hD : DS w D ds) (hc : chkP (ddOf ds) = 0) (hP : IS w P ps) (hpl : ps.length ≤ 9223372036854775807) :
    Calls Tryz.prog 8 #[.slice A l.length c, .slice D ds.length cd, .slice P ps.length cp] w (RetPlay w (ddOf ds) ps (valOf l)) := by
  have hll := h.small
  obtain ⟨hn, hchk⟩ := chkP_zero.1 hc
  rw [ddOf_len] at hn
  have HC := hideP (check_any A c l w hA.ps (by omega))
  rw [chk_ok.2 h] at HC
  have HP := hideP (fun (w' : World) hD => pcheck_any D cd ds w' hD (by omega))
  rw [hc] at HP
  have HF := hideP (fun (w' : World) hD => fill_any D cd ds w' hD hc)
  have HCK := hideP hchk
  clear hc hchk
  go_enter Tryz.func8, Tryz.ntmps8
  go_wp2_with fail
  refine HC.out.mono ?_
  rintro e w1 ⟨rfl, hb1⟩
  have hD1 := hD.below hb1
  clear HC
  go_wp2_with fail
  refine (HP.out _ hD1).mono ?_
  rintro e w2 ⟨rfl, hb2⟩
  have hb3 := hb1.trans (hb2.mono hb1.size)
  have hD2 := hD.below hb3
  clear HP hD1
  go_wp2_with fail
  refine (HF.out _ hD2).mono ?_
  rintro e w3 ⟨g, left, rfl, hT3, hL3, hb4⟩
  have hb5 := hb3.trans (hb4.mono hb3.size)
  have hA3 := hA.below hb5
  clear HF hD2 hb1 hb2
  go_wp2_with fail
  refine (concat1 _ _ rfl A _ c l rfl hA3.ps (by omega)).mono ?_
  rintro e w4 ⟨v4, rfl, hown, hb6⟩
  obtain ⟨A4, c4, rfl, hO⟩ := OV.of_own hown
  have hb7 := (Below.refl w3.heap.size w3).alloc (Nat.le_refl _) (.cells #[.slice A l.length c] 41)
  have hb8 := hb7.trans (hb6.mono hb7.size)
  have hb9 := hb5.trans (hb8.mono hb5.size)
  have hO4 : OV w4 w.heap.size A4 c4 l := hO.mono (Nat.le_trans hb5.size hb7.size)
  have hT4 := hT3.below hb8
  obtain ⟨i0, hi0, hz0, hz1, hz2⟩ := info_parts boolInfo
  obtain ⟨w5, hmk, hown5, hg5⟩ := run_make_full (P := Tryz.prog) w4 w4.heap.size 44 4 i0 _ 1 Tryz.underlying44 hi0 hz0 hz1 .i64 .i64 ds.length (by rw [hz2]; omega) (by unfold maxLen; omega) (Nat.le_refl _)
  rw [made_bools] at hown5
  have hor5 : OR w5 w4.heap.size 4 (some ⟨w4.heap.size, 0, none⟩) ds.length ((List.replicate ds.length false).map Value.bool) := by unfold OR; simpa using hown5
  have hb10 : Below w4.heap.size w4 w5 := ⟨hg5.os, hg5.tape, hg5.output, hg5.size, fun k hk => hg5.block k hk (by simp)⟩
  have hb11 := hb9.trans (hb10.mono hb9.size)
  have hdl : (ddOf ds).length = ds.length := ddOf_len ds
  have HPY := hideP (show Py w g w4.heap.size (ddOf ds) ps (valOf l) 0 A4 c4 l none 0 left w5 from
    ⟨hO4.below hb10, h, rfl, OR.nil _ _ _, by rw [hdl]; simp only [plS, hdl]; exact hor5.mono hb9.size, by rw [hdl]; exact ((hT4.below hb10).lower hb3.size), hL3, hb11⟩)
  clear hown hown5 hg5 hor5 hO hO4 hT3 hT4 hL3 hi0 hz0 hz1 hz2 hA3 hb3 hb4 hb5 hb6 hb7 hb8 hb9 hb10 hA h hdl
  generalize w4.heap.size = gx at HPY hmk
  go_wp2_with fail
  have HRD := hideP (ready_any g w.heap.size (ddOf ds).length left w5 HPY.out.tab)
  rw [HPY.out.lk.rdyO_] at HRD
  refine HRD.out.mono ?_
  rintro e w6 ⟨A6, c6, rfl, hor6, hb12⟩
  have HI := hideP (show PyInv w g gx (ddOf ds) ps (valOf l) (.slice A4 l.length c4) (.slice none 0 0) (.slice A6 (rdyO (ddOf ds) []).length c6) w6 from ⟨0, A4, c4, l, none, 0, A6, c6, left, Nat.zero_le _, rfl, rfl, rfl, hor6.vs, HPY.out.below hb12⟩)
  clear HPY HRD hor6 hb12 hmk
  go_wp2_with fail
  go_loopw [13, 15, 16] (PyInv w g gx (ddOf ds) ps (valOf l)) (fun _ vo _ _ => ds.length - slLen vo)
  case atStart => exact HI.out
  case round =>
    clear HI
    obtain ⟨k, Ak, ck, lk, A2, c2, A3, c3, left, hk, rfl, rfl, rfl, hrd, hpy⟩ := hrel
    have hdl : (ddOf ds).length = ds.length := ddOf_len ds
    by_cases hkl : k < (ddOf ds).length
    · have hroom := (pl_all (ddOf ds) ps k (by omega)).room hkl
      have hr60 := rdyO_len (ddOf ds) (playN (ddOf ds) ps k)
      have hch := chV_lt ps k hroom
      obtain ⟨s, hs⟩ : ∃ s, s = nextO (ddOf ds) ps (playN (ddOf ds) ps k) := ⟨_, rfl⟩
      have hnx : (rdyO (ddOf ds) (playN (ddOf ds) ps k))[chV ps k (rdyO (ddOf ds) (playN (ddOf ds) ps k)).length]? = some s := by
        rw [hs]
        unfold nextO
        rw [playN_len, List.getD_eq_getElem?_getD, List.getElem?_eq_getElem hch]
        rfl
      have hsl : s < ds.length := by
        have := (rdyO_mem.1 (next_mem (ps := ps) hroom)).1
        rw [← hs, hdl] at this
        exact this
      have HCH := hideP (choice_any P cp ps k (rdyO (ddOf ds) (playN (ddOf ds) ps k)).length wr (hP.below hpy.bel) hpl hroom (by omega) (by omega))
      obtain ⟨b3, o3, rfl, hbl3, q3⟩ := hrd _ _ (nV_get' hnx)
      obtain ⟨⟨bd, od, eD, hbld, qd⟩, hosd⟩ := (hD.below hpy.bel).at_ hsl
      have hck := HCK.out _ (show ds[s].d ∈ ddOf ds from List.mem_map.2 ⟨_, List.getElem_mem hsl, rfl⟩)
      have hgd : (ddOf ds).getD s [] = ds[s].d := ddOf_get hsl
      have HST := hideP (fun (A6 : Option Addr) c6 l6 w6 => hpy.step (by omega) (by omega) hs (A6 := A6) (c6 := c6) (l6 := l6) (w6 := w6))
      rw [hgd] at HST
      have HPY := hideP hpy
      have HRUN := hideP (run_ok Ak ds[s].D ck ds[s].c lk ds[s].d wr hpy.ov.sv hpy.ok hosd hck)
      clear hnx hrd hgd hpy hosd hck hs
      generalize hrl : (rdyO (ddOf ds) (playN (ddOf ds) ps k)).length = rl at hroom hr60 hch HCH q3
      clear hrl
      generalize chV ps k rl = ch at hch HCH q3
      generalize ds[s] = x at qd HST HRUN
      obtain ⟨Dx, cx, dx⟩ := x
      simp only [dlV] at qd HST HRUN
      have g1 : (0 : Int) < (rl : Int) := by omega
      have g2 : (0 : Int) ≤ (ch : Int) := by omega
      have g3 : (ch : Int) < (rl : Int) := by omega
      have g4 : (0 : Int) ≤ (s : Int) := by omega
      have g5 : (s : Int) < (ds.length : Int) := by omega
      rw [eD]
      go_wp2_with fail
      refine HCH.out.mono ?_
      rintro e w7 ⟨rfl, rfl⟩
      clear HCH
      go_wp2_with fail
      refine HRUN.out.mono ?_
      rintro e w8 ⟨A6, c6, l6, rfl, ho6, hok6, hv6, hb6⟩
      obtain ⟨hT7, hB7, hf0, ⟨u, hcu⟩, hfz, hnx⟩ := HST.out A6 c6 l6 w8 hb6 ho6 hok6 hv6
      have HFR := hideP (free_any g w.heap.size (ddOf ds).length left (s : Int) _ hT7 hB7)
      have HNX := hideP hnx
      have HF0 := hideP hf0
      clear HRUN HST hT7 hB7 hf0 hnx ho6 hok6 hv6 HPY q3 qd
      generalize (doneV (valOf lk) dx).2 = bb at HFR HNX ⊢
      go_wp2_with fail
      refine HFR.out.mono ?_
      rintro e w9 ⟨he, hT9, hK9⟩
      rw [HF0.out] at he hT9
      rw [if_pos rfl] at hT9
      subst he
      obtain ⟨A9, c9, w10, hrun, left', hpy'⟩ := HNX.out w9 hT9 hK9
      have HR := hideP hrun
      have HRD := hideP (ready_any g w.heap.size (ddOf ds).length left' w10 hpy'.tab)
      rw [hpy'.lk.rdyO_] at HRD
      have HPY' := hideP hpy'
      clear HFR HNX HF0 hT9 hK9 hrun hpy' hcu hfz
      go_wp2_with (at_builtin; refine Lib.wpList_append_run _ rfl _ _ _ _ rfl _ _ rfl rfl _ _ HR.out ?_)
      refine HRD.out.mono ?_
      rintro e w11 ⟨A11, c11, rfl, hor11, hb11⟩
      have HI := hideP (show PyInv w g gx (ddOf ds) ps (valOf l) (.slice A6 l6.length c6) (.slice A9 (k + 1) c9) (.slice A11 (rdyO (ddOf ds) (playN (ddOf ds) ps (k + 1))).length c11) w11 from ⟨k + 1, A6, c6, l6, A9, c9, A11, c11, left', by omega, rfl, rfl, rfl, hor11.vs, HPY'.out.below hb11⟩)
      clear HRD HR HPY' hor11 hb11
      go_wp2_with fail
      go_roundw
      case rel => exact HI.out
      case measure => simp [slLen] <;> omega
    · have hke : k = (ddOf ds).length := by omega
      subst hke
      have HPD := hideP (play_done (ddOf ds) ps)
      rw [HPD.out]
      rw [HPD.out] at hrd
      have HR := hideP (show RetPlay w (ddOf ds) ps (valOf l) (.returned (.tuple #[.slice Ak lk.length ck, .slice (some ⟨gx, 0, none⟩) ds.length ds.length, .slice A2 (ddOf ds).length c2, .int .i64 0])) wr from
        ⟨Ak, ck, lk, gx, A2, c2, by rw [hdl], hpy.ov, hpy.ok, hpy.val, hpy.exe, hpy.ord, hpy.bel⟩)
      clear hpy hrd HPD hdl
      go_wp2_with fail
      exact bodyPost_ret (v := .tuple #[.slice Ak lk.length ck, .slice (some ⟨gx, 0, none⟩) ds.length ds.length, .slice A2 (ddOf ds).length c2, .int .i64 0]) (by simp [results, Tryz.results8, go_sem]) rfl HR.out
end Go.Proofs.YtefdipjhjgmokaaGreat
