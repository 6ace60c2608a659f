/-
  merge.New.
  (*merge.Merge).Waits.
-/
import Derived.Test.YtcjfkbponikadaaBq9
import Derived.Laws.MakeOwn
import Derived.Test.YtcjfkbponikadaaBq2
set_option linter.unusedVariables false
set_option linter.unusedSimpArgs false
namespace Go.Proofs.Ytcjfkbponikadaa
open Go.RowKit

theorem inpInfo : (Try.prog.info? 56).map (fun i => (i.zero, i.size, i.bytes)) = some (some (.slice none 0 0), 1, 24) := by kernel_rfl
theorem made_nils (n : Nat) : (madeCells (Value.slice none 0 0).cells (n * 1)).toList = List.replicate n (.slice none 0 0) := by
  rw [Nat.mul_one, madeCells, Array.toList_map]
  apply List.ext_getElem?
  intro i
  simp [Value.cells, Nat.mod_one]
  by_cases h : i < n <;> simp [h, List.getElem?_replicate]
theorem run_make_one (w : World) : (Instr.makeSlice 56 (.int .i64 1) (.int .i64 1)).run Try.prog w = .ok (.slice (some ⟨w.heap.size, 0, none⟩) 1 1) (w.alloc (.cells #[.slice none 0 0] 60)) := by
  obtain ⟨i0, hi0, hz0, hz1, hz2⟩ := info_parts batInfo
  have h := run_make (P := Try.prog) w 56 60 i0 _ Try.underlying56 hi0 hz0 .i64 .i64 1 1 (by decide) (by decide) (by rw [hz2]; decide) (by decide)
  rw [hz1] at h
  have e : madeCells (Value.slice none 0 0).cells (1 * 1) = #[.slice none 0 0] := Array.toList_inj.1 (made_nils 1)
  have e2 : (Int.toNat 1 : Nat) = 1 := rfl
  rw [e2, e] at h
  exact h
theorem OR.of_box1 {w : World} {g B : Nat} {t : TypeId} {v : Value} (h : Box w g t #[v]) (hB : B ≤ g) : OR w B t (some ⟨g, 0, none⟩) 1 [v] :=
  ⟨rfl, .inr ⟨g, 1, #[v], rfl, hB, h, Nat.le_refl _, by unfold maxLen; decide, rfl, rfl⟩⟩
/-- while the inputs are made -/
structure NwM (w : World) (g gi n : Nat) (rows : List In) (wr : World) : Prop where
  box : Box wr g 54 #[.slice (some ⟨gi, 0, none⟩) n n, .int .i64 0]
  low : w.heap.size ≤ g
  row : OR wr w.heap.size 56 (some ⟨gi, 0, none⟩) n (rows.map inV ++ List.replicate (n - rows.length) (.slice none 0 0))
  inp : ∀ x ∈ rows, x.bs = [bt0] ∧ OR wr w.heap.size 60 x.A x.c [.slice none 0 0]
  ap : rows.Pairwise fun x y => blk x.A ≠ blk y.A
  len : rows.length ≤ n
  be : Below w.heap.size w wr
/-- one input more -/
theorem NwM.step {w wr : World} {g gi n : Nat} {rows : List In} (h : NwM w g gi n rows wr) (hl : rows.length < n) :
    (wr.alloc (.cells #[.slice none 0 0] 60)).cell? ⟨g, 0, none⟩ = some (.slice (some ⟨gi, 0, none⟩) n n) ∧
      (wr.alloc (.cells #[.slice none 0 0] 60)).frozen? ⟨gi, rows.length, none⟩ = false ∧ (wr.alloc (.cells #[.slice none 0 0] 60)).cell? ⟨gi, rows.length, none⟩ = some (.slice none 0 0) ∧
      NwM w g gi n (rows ++ [⟨some ⟨wr.heap.size, 0, none⟩, 1, [bt0]⟩]) ((wr.alloc (.cells #[.slice none 0 0] 60)).setCell ⟨gi, rows.length, none⟩ (.slice (some ⟨wr.heap.size, 0, none⟩) 1 1)) := by
  have al := (Below.refl wr.heap.size wr).alloc (Nat.le_refl _) (.cells #[.slice none 0 0] 60)
  have hbx := h.box.below al
  have hrow := h.row.below al
  have hnew := OR.of_box1 (Box.new wr 60 #[.slice none 0 0]) h.be.size
  have hll : (rows.map inV ++ List.replicate (n - rows.length) (Value.slice none 0 0)).length = n := by simp; omega
  have hs := hrow.set_ (k := rows.length) (by rw [hll]; exact hl) (.slice (some ⟨wr.heap.size, 0, none⟩) 1 1)
  have ti : Ty (wr.alloc (.cells #[.slice none 0 0] 60)) gi 56 := own_ty hrow rfl
  have gs := grown_set (wr.alloc (.cells #[.slice none 0 0] 60)) gi rows.length (.slice (some ⟨wr.heap.size, 0, none⟩) 1 1)
  have gne : g ≠ gi := fun e => absurd (hbx.ty.inj (show Ty _ g 56 by rw [e]; exact ti)) (by decide)
  have hlo : w.heap.size ≤ gi := (World.ownsRow.lt h.row gi rfl).1
  refine ⟨hbx.cell 0 rfl, hrow.frozen_ _, ?_, hbx.grown gs (fun e => gne (by injection e)), h.low, ?_, fun x hx => ?_, ?_, by simp; omega, (h.be.trans (al.mono h.be.size)).setCell (p := ⟨gi, rows.length, none⟩) hlo _⟩
  · obtain ⟨b', o', e, _, hc⟩ := hrow.vs rows.length (.slice none 0 0) (by rw [List.getElem?_append_right (by simp), List.length_map, Nat.sub_self, List.getElem?_replicate, if_pos (by omega)])
    injection e with e
    injection e with e1 e2 _
    subst e1; subst e2
    rw [Nat.zero_add] at hc
    exact hc
  · have e : (rows.map inV ++ List.replicate (n - rows.length) (Value.slice none 0 0)).set rows.length (.slice (some ⟨wr.heap.size, 0, none⟩) 1 1) = (rows ++ [(⟨some ⟨wr.heap.size, 0, none⟩, 1, [bt0]⟩ : In)]).map inV ++ List.replicate (n - (rows ++ [(⟨some ⟨wr.heap.size, 0, none⟩, 1, [bt0]⟩ : In)]).length) (.slice none 0 0) := by
      obtain ⟨m, hm⟩ : ∃ m, n - rows.length = m + 1 := ⟨n - rows.length - 1, by omega⟩
      rw [List.set_append_right _ _ (by simp), hm, List.length_append, List.length_singleton, show n - (rows.length + 1) = m by omega, List.map_append, List.append_assoc]
      simp [List.replicate_succ, inV]
    rw [← e]; exact hs
  · rcases List.mem_append.1 hx with hx | hx
    · exact ⟨(h.inp x hx).1, own_keep ((h.inp x hx).2.below al) gs fun q hq => by injection hq with hq; subst hq; exact ⟨_, ti, by decide⟩⟩
    · rw [List.mem_singleton] at hx
      subst hx
      exact ⟨rfl, own_keep hnew gs fun q hq => by injection hq with hq; subst hq; exact ⟨_, ti, by decide⟩⟩
  · rw [List.pairwise_append]
    refine ⟨h.ap, List.pairwise_singleton _ _, fun x hx y hy e => ?_⟩
    rw [List.mem_singleton] at hy
    subst hy
    have := (World.ownsRow.lt (h.inp x hx).2 wr.heap.size (by rw [ownBlock_slice, e]; rfl)).2
    omega
/-- all inputs are made -/
theorem NwM.done {w wr : World} {g gi n : Nat} {rows : List In} (h : NwM w g gi n rows wr) (hl : rows.length = n) (h1 : 1 ≤ n) (h4 : n ≤ 4) :
    (⟨g, some ⟨gi, 0, none⟩, n, rows, 0⟩ : Ms).Ok wr w.heap.size ∧ ctM rows = List.replicate n [[]] := by
  have hat : ∀ {i : Nat} {x : In}, rows[i]? = some x → x.bs = [bt0] ∧ OR wr w.heap.size 60 x.A x.c [.slice none 0 0] := fun hi => h.inp _ (List.mem_of_getElem? hi)
  have hb1 : ∀ {i k : Nat} {x : In} {b : Bt}, rows[i]? = some x → x.bs[k]? = some b → b = bt0 := fun hi hk => by
    rw [(hat hi).1] at hk
    have := List.mem_of_getElem? hk
    simpa using this
  have hct : ctM rows = List.replicate n [[]] := by
    rw [← hl]
    refine List.eq_replicate_iff.2 ⟨by simp [ctM], fun b hb => ?_⟩
    obtain ⟨x, hx, rfl⟩ := List.mem_map.1 hb
    unfold ctI
    rw [(h.inp x hx).1]; rfl
  refine ⟨⟨⟨?_, h.low, ?_, fun i x hi => ?_, fun i x hi e => ?_, fun i x k b hi hk => ?_, fun i j x y hi hj e => ?_, fun i j k l x y a b hi hj hk hl2 hnn => ?_, fun i x k b hi hk e he => ?_⟩, ⟨fun e => ?_, by simp only; omega, fun i x hi => ?_, ?_, by simp only; omega⟩⟩, hct⟩
  · have := h.box
    simp only [hl]
    exact this
  · have := h.row
    rw [hl, Nat.sub_self, List.replicate_zero, List.append_nil] at this
    exact this
  · rw [(hat hi).1]; exact (hat hi).2
  · rw [(hat hi).1] at e; cases e
  · rw [hb1 hi hk]; exact EW.nil _ _
  · rcases Nat.lt_trichotomy i j with hlt | rfl | hgt
    · obtain ⟨hi', rfl⟩ := List.getElem?_eq_some_iff.1 hi
      obtain ⟨hj', rfl⟩ := List.getElem?_eq_some_iff.1 hj
      exact absurd e (List.pairwise_iff_getElem.1 h.ap i j hi' hj' hlt)
    · rfl
    · obtain ⟨hi', rfl⟩ := List.getElem?_eq_some_iff.1 hi
      obtain ⟨hj', rfl⟩ := List.getElem?_eq_some_iff.1 hj
      exact absurd e.symm (List.pairwise_iff_getElem.1 h.ap j i hj' hi' hgt)
  · rw [hb1 hi hk] at hnn; exact absurd rfl hnn
  · rw [hb1 hi hk] at he; simp [bt0] at he
  · simp only at e; rw [e] at hl; simp at hl; omega
  · simp only at hi; rw [(hat hi).1]; simp
  · simp only
    rw [hct]
    clear hct hl h h1 h4 hat hb1
    induction n with
    | zero => rfl
    | succ n ih => simp only [totM, List.replicate_succ, List.map_cons, List.sum_cons] at ih ⊢; rw [← ih]; rfl
def NwI (w : World) (g gi n : Nat) (i : Value) (wr : World) : Prop := ∃ rows : List In, i = .int .i64 (rows.length : Nat) ∧ NwM w g gi n rows wr
theorem NwM.below {w wr w' : World} {g gi n : Nat} {rows : List In} (h : NwM w g gi n rows wr) (hb : Below wr.heap.size wr w') : NwM w g gi n rows w' :=
  ⟨h.box.below hb, h.low, h.row.below hb, fun x hx => ⟨(h.inp x hx).1, (h.inp x hx).2.below hb⟩, h.ap, h.len, h.be.trans (hb.mono h.be.size)⟩
theorem NwI.drew_ {w wr : World} {g gi n : Nat} {i i' : Value} (h : NwI w g gi n i wr) (hi : i' = i) : NwI w g gi n i' wr.drew := by
  obtain ⟨rows, e, h⟩ := h
  exact ⟨rows, hi.trans e, h.below (Below.refl _ _).drew⟩
/-- a Merge is handed back -/
def RetNm (w : World) (n : Nat) (e : Ending) (w' : World) : Prop := ∃ s : Ms, e = .returned (.tuple #[.pointer (some ⟨s.g, 0, none⟩), .int .i64 0]) ∧ s.Ok w' w.heap.size ∧ s.ct = List.replicate n [[]] ∧ Below w.heap.size w w'
set_option maxHeartbeats 1000000 in
set_option maxRecDepth 100000 in
theorem mnew_bad (n : Int) (w : World) (h : ¬ (1 ≤ n ∧ n ≤ 4)) :
    Calls Try.prog 7 #[.int .i64 n] w fun e w' => e = .returned (.tuple #[.pointer none, .int .i64 1]) ∧ w = w' := by
  by_cases h1 : n < 1
  · go_enter Try.func7, Try.ntmps7
    go_wp2_with fail
    go_ret2
    exact ⟨rfl, rfl⟩
  · have h2 : 4 < n := by omega
    have h3 : decide (n < 1) = false := decide_eq_false h1
    go_enter Try.func7, Try.ntmps7
    go_wp2_with fail
    go_ret2
    exact ⟨rfl, rfl⟩
set_option maxHeartbeats 1000000 in
set_option maxRecDepth 100000 in
theorem mnew_ok (n : Nat) (w : World) (h1 : 1 ≤ n) (h4 : n ≤ 4) :
    Calls Try.prog 7 #[.int .i64 (n : Int)] w (RetNm w n) := by
  obtain ⟨i0, hi0, hz0, hz1, hz2⟩ := info_parts inpInfo
  obtain ⟨w2, hmk, hown, hg2⟩ := run_make_full (P := Try.prog) w w.heap.size 52 56 i0 _ 1 Try.underlying52 hi0 hz0 hz1 .i64 .i64 n (by rw [hz2]; omega) (by unfold maxLen; omega) (Nat.le_refl _)
  rw [made_nils] at hown
  have hb2 : Below w.heap.size w w2 := ⟨hg2.os, hg2.tape, hg2.output, hg2.size, fun k hk => hg2.block k hk (by simp)⟩
  have al := hb2.alloc hb2.size (.cells #[.slice (some ⟨w.heap.size, 0, none⟩) n n, .int .i64 0] 54)
  have hN : NwM w w2.heap.size w.heap.size n [] (w2.alloc (.cells #[.slice (some ⟨w.heap.size, 0, none⟩) n n, .int .i64 0] 54)) :=
    ⟨Box.new _ _ _, hb2.size, by
      have : OR w2 w.heap.size 56 (some ⟨w.heap.size, 0, none⟩) n (List.replicate n (.slice none 0 0)) := by unfold OR; rw [List.length_replicate]; exact hown
      exact this.below ((Below.refl w2.heap.size w2).alloc (Nat.le_refl _) _), by simp, .nil, Nat.zero_le _, al⟩
  have HN := hideP (show NwI w w2.heap.size w.heap.size n (.int .i64 0) _ from ⟨[], rfl, hN⟩)
  have c0 := hN.box.cell 0 (v := .slice (some ⟨w.heap.size, 0, none⟩) n n) rfl
  have g1 : ¬ ((n : Int) < 1) := by omega
  have g2 : ¬ ((4 : Int) < (n : Int)) := by omega
  have d1 : decide ((n : Int) < 1) = false := decide_eq_false g1
  clear hown hg2 hb2 al hN hi0 hz0 hz1 hz2
  have hm1 := run_make_one
  have HB := hideP h1
  have HB4 := hideP h4
  generalize hgi : w.heap.size = gi at HN hmk c0
  have HGI := hideP hgi
  clear hgi
  go_enter Try.func7, Try.ntmps7
  go_wp2_with fail
  generalize w2.heap.size = g at HN c0 ⊢
  generalize w2.alloc _ = w3 at HN c0 ⊢
  go_wp2_with fail
  go_loopw [21] (NwI w g gi n) (fun i _ => n - (intOf i).toNat)
  case atStart => exact HN.out
  case round =>
    obtain ⟨rows, rfl, hN⟩ := hrel
    clear HN c0 hmk
    by_cases hlt : rows.length < n
    · have hl := hN.len
      obtain ⟨c0a, fz, c1a, hS⟩ := hN.step hlt
      have c0 := hN.box.cell 0 (v := .slice (some ⟨gi, 0, none⟩) n n) rfl
      have HS := hideP (show NwI w g gi n (.int .i64 ((rows.length + 1 : Nat) : Int)) _ from ⟨_, by simp, hS⟩)
      have g3 : (0 : Int) ≤ (rows.length : Int) := by omega
      have g4 : (rows.length : Int) < (n : Int) := by omega
      have HNN := hideP (show NwI w g gi n (.int .i64 ((rows.length : Nat) : Int)) wr from ⟨_, rfl, hN⟩)
      clear hN hS
      generalize rows.length = k at c0a fz c1a HS g3 g4 hlt hl HNN ⊢
      go_wp2_with fail
      go_region
      all_goals
        go_wp2_with fail
        go_roundw
        case rel => exact HS.out.drew_ (by go_num)
        case measure => simp [intOf]; omega
    · obtain ⟨hS, hct⟩ := hN.done (by have := hN.len; omega) HB.out HB4.out
      have HF := hideP (show RetNm w n (.returned (.tuple #[.pointer (some ⟨g, 0, none⟩), .int .i64 0])) wr from ⟨_, rfl, hS, hct, hN.be⟩)
      have hrl : rows.length = n := by have := hN.len; omega
      rw [hrl]
      clear hN hS hct hlt hrl
      go_wp2_with fail
      go_ret2
      exact HF.out
end Go.Proofs.Ytcjfkbponikadaa

set_option linter.unusedVariables false
set_option linter.unusedSimpArgs false
namespace Go.Proofs.Ytcjfkbponikadaa
open Go.RowKit

/-- the first of the inputs that are waited for -/
def waitK (cl : List Nat) (r k : Nat) : List Nat := (List.range k).filter fun i => decide (cl[i]? = some r)
theorem waitK_step (cl : List Nat) (r k q : Nat) (h : cl[k]? = some q) : waitK cl r (k + 1) = if q = r then waitK cl r k ++ [k] else waitK cl r k := by
  unfold waitK
  rw [List.range_succ, List.filter_append]
  by_cases e : q = r
  · subst e; simp [h]
  · rw [if_neg e]
    have : (decide (cl[k]? = some r)) = false := by rw [h]; simpa using e
    simp [this]
theorem waitK_len (cl : List Nat) (r k : Nat) : (waitK cl r k).length ≤ k := by
  have := List.length_filter_le (fun i => decide (cl[i]? = some r)) (List.range k)
  rw [List.length_range] at this
  exact this
/-- what Waits hands back -/
def RetWt (w : World) (l : List Nat) (e : Ending) (w' : World) : Prop := ∃ A c, e = .returned (.slice A l.length c) ∧ OR w' w.heap.size 3 A c (nV l) ∧ Below w.heap.size w w'
def WtI (w : World) (cl : List Nat) (r n : Nat) (s i : Value) (wr : World) : Prop :=
  ∃ (k : Nat) (A : Option Addr) (c : Nat), k ≤ n ∧ i = .int .i64 k ∧ s = .slice A (waitK cl r k).length c ∧ OR wr w.heap.size 3 A c (nV (waitK cl r k)) ∧ Below w.heap.size w wr
set_option maxHeartbeats 2000000 in
set_option maxRecDepth 100000 in
theorem mwaits_any (B g : Nat) (AI : Option Addr) (cI : Nat) (ins : List In) (added : Nat) (w : World) (h : MG w B g AI cI ins added) (hG : Gm ins added) :
    Calls Try.prog 17 #[.pointer (some ⟨g, 0, none⟩)] w (RetWt w (waitM (ctM ins))) := by
  have c0 := h.box.cell 0 (v := .slice AI ins.length cI) rfl
  have HR := hideP (mrounds_any B g AI cI ins added w h hG)
  have HEND := hideP (show waitK (cloL (ctM ins)) (rndM (ctM ins)) ins.length = waitM (ctM ins) by unfold waitK waitM; rw [show (ctM ins).length = ins.length by simp [ctM]])
  have HST := hideP (fun r => show waitK (cloL (ctM ins)) r 0 = [] from rfl)
  have HCE := hideP (fun (wr : World) (hb : Below w.heap.size w wr) (k : Nat) (hk : k < ins.length) => show ∃ (gi : Nat) (A : Option Addr) (n c q : Nat), AI = some ⟨gi, 0, none⟩ ∧ wr.cell? ⟨gi, k, none⟩ = some (.slice A n c) ∧ n = q + 1 ∧ n ≤ 61 ∧ (cloL (ctM ins))[k]? = some q from by
    obtain ⟨x, hx⟩ : ∃ x, ins[k]? = some x := ⟨_, List.getElem?_eq_getElem hk⟩
    obtain ⟨gi, e, hc⟩ := (h.below hb).cell_ hx
    obtain ⟨q, hq⟩ := h.pos hx
    exact ⟨gi, _, _, _, q, e, hc, hq, hG.bs _ x hx, by rw [clo_ct, List.getElem?_map, hx]; simp [hq]⟩)
  have hfew := hG.few
  generalize cloL (ctM ins) = cl at HEND HST HCE
  generalize rndM (ctM ins) = rr at HR HEND
  generalize waitM (ctM ins) = wt at HEND ⊢
  clear h hG
  go_enter Try.func17, Try.ntmps17
  go_wp2_with fail
  refine HR.out.mono ?_
  rintro e w' ⟨rfl, rfl⟩
  clear HR
  go_wp2_with fail
  go_loopw [4, 14] (WtI w cl rr ins.length) (fun _ i _ => ins.length - (intOf i).toNat)
  case atStart => exact ⟨0, none, 0, Nat.zero_le _, rfl, rfl, OR.nil _ _ _, Below.refl _ _⟩
  case round =>
    obtain ⟨k, A, c, hk, rfl, rfl, hor, hb⟩ := hrel
    by_cases hlt : k < ins.length
    · obtain ⟨gi, A1, n1, c1, q, rfl, hc, hq, hn, hcl⟩ := HCE.out wr hb k hlt
      have HC := hideP (fun W => closed_any A1 n1 c1 q hq (by omega) W)
      have HSTEP := hideP (waitK_step cl rr k q hcl)
      have hwl := waitK_len cl rr k
      have g2 : (0 : Int) ≤ (k : Int) := by omega
      have g3 : (k : Int) < (ins.length : Int) := by omega
      clear c0 hcl hq
      by_cases e : q = rr
      · subst e
        obtain ⟨A', c', w2, hrun, hor2, hbel, _, _⟩ := app_row (P := Try.prog) Try.underlying39 intInfo rfl wr w.heap.size 39 A c _ hor [.int .i64 (k : Int)] (by simp [Value.oneCell']) (by simp [nV]; omega) (by decide) hb.size
        have b2 := hbel _ _ (Nat.le_refl _) hb
        rw [show nV (waitK cl q k) ++ [.int .i64 (k : Int)] = nV (waitK cl q (k + 1)) by rw [HSTEP.out, if_pos rfl]; simp [nV]] at hrun hor2
        rw [nV_length, nV_length] at hrun
        have HR := hideP hrun
        have HREL := hideP (fun (i : Value) (hi : i = .int .i64 ((k + 1 : Nat) : Int)) => show WtI w cl q ins.length (.slice A' (waitK cl q (k + 1)).length c') i w2 from ⟨k + 1, A', c', by omega, hi, rfl, hor2, b2⟩)
        clear hrun hor hb hor2 b2
        generalize waitK cl q (k + 1) = l2 at HR HREL HSTEP
        generalize waitK cl q k = l1 at HR HSTEP hwl ⊢
        go_wp2_with fail
        refine (HC.out _).mono ?_
        rintro e w' ⟨rfl, rfl⟩
        go_wp2_with (at_builtin; refine Lib.wpList_append_run _ rfl _ _ _ _ rfl _ _ rfl rfl _ _ HR.out ?_)
        go_roundw
        case rel => exact HREL.out _ (by go_num)
        case measure => simp [intOf]; omega
      · have HE := hideP (show waitK cl rr (k + 1) = waitK cl rr k by rw [HSTEP.out, if_neg e])
        have d1 : ((q : Int) == (rr : Int)) = false := by simp; omega
        clear HSTEP
        go_wp2_with fail
        refine (HC.out _).mono ?_
        rintro e w' ⟨rfl, rfl⟩
        go_wp2_with fail
        go_roundw
        case rel => exact ⟨k + 1, A, c, by omega, by go_num, by rw [HE.out], by rw [HE.out]; exact hor, hb⟩
        case measure => simp [intOf]; omega
    · obtain rfl : k = ins.length := by omega
      rw [HEND.out] at hor ⊢
      go_wp2_with fail
      go_ret
      exact ⟨A, c, rfl, hor, hb⟩
end Go.Proofs.Ytcjfkbponikadaa
