/-
  merge.New.
  copies.New.
  Literals in memory (no body of the program in it).
  What the laws over Copies have in common; rokeep.copiesBegun.
-/
import Derived.Test.YtefdipjhjgmokaaGreatBv8
import Derived.Laws.MakeOwn
import Derived.Test.YtefdipjhjgmokaaGreatBv16
import Derived.Test.YtefdipjhjgmokaaGreatBv31
import Derived.Test.YtefdipjhjgmokaaGreatBv2
import Derived.Test.YtefdipjhjgmokaaGreatBv1
import Derived.Test.YtefdipjhjgmokaaGreatBv30
set_option linter.unusedVariables false
set_option linter.unusedSimpArgs false
namespace Go.Proofs.YtefdipjhjgmokaaGreat
open Go.RowKit

theorem inpInfo : (Tryz.prog.info? 111).map (fun i => (i.zero, i.size, i.bytes)) = some (some (.slice none 0 0), 1, 24) := by kernel_rfl
theorem made_nils (n : Nat) : (madeCells (Value.slice none 0 0).cells (n * 1)).toList = List.replicate n (.slice none 0 0) := by
  rw [Nat.mul_one, madeCells, Array.toList_map]
  apply List.ext_getElem?
  intro i
  simp [Value.cells, Nat.mod_one]
  by_cases h : i < n <;> simp [h, List.getElem?_replicate]
theorem run_make_one (w : World) : (Instr.makeSlice 111 (.int .i64 1) (.int .i64 1)).run Tryz.prog w = .ok (.slice (some ⟨w.heap.size, 0, none⟩) 1 1) (w.alloc (.cells #[.slice none 0 0] 109)) := by
  obtain ⟨i0, hi0, hz0, hz1, hz2⟩ := info_parts batInfo
  have h := run_make (P := Tryz.prog) w 111 109 i0 _ Tryz.underlying111 hi0 hz0 .i64 .i64 1 1 (by decide) (by decide) (by rw [hz2]; decide) (by decide)
  rw [hz1] at h
  have e : madeCells (Value.slice none 0 0).cells (1 * 1) = #[.slice none 0 0] := Array.toList_inj.1 (made_nils 1)
  have e2 : (Int.toNat 1 : Nat) = 1 := rfl
  rw [e2, e] at h
  exact h
theorem OR.of_box1 {w : World} {g B : Nat} {t : TypeId} {v : Value} (h : Box w g t #[v]) (hB : B ≤ g) : OR w B t (some ⟨g, 0, none⟩) 1 [v] :=
  ⟨rfl, .inr ⟨g, 1, #[v], rfl, hB, h, Nat.le_refl _, by unfold maxLen; decide, rfl, rfl⟩⟩
/-- while the inputs are made -/
structure NwM (w : World) (g gi n : Nat) (rows : List In) (wr : World) : Prop where
  box : Box wr g 64 #[.slice (some ⟨gi, 0, none⟩) n n, .int .i64 0]
  low : w.heap.size ≤ g
  row : OR wr w.heap.size 111 (some ⟨gi, 0, none⟩) n (rows.map inV ++ List.replicate (n - rows.length) (.slice none 0 0))
  inp : ∀ x ∈ rows, x.bs = [bt0] ∧ OR wr w.heap.size 109 x.A x.c [.slice none 0 0]
  ap : rows.Pairwise fun x y => blk x.A ≠ blk y.A
  len : rows.length ≤ n
  be : Below w.heap.size w wr
/-- one input more -/
theorem NwM.step {w wr : World} {g gi n : Nat} {rows : List In} (h : NwM w g gi n rows wr) (hl : rows.length < n) :
    (wr.alloc (.cells #[.slice none 0 0] 109)).cell? ⟨g, 0, none⟩ = some (.slice (some ⟨gi, 0, none⟩) n n) ∧
      (wr.alloc (.cells #[.slice none 0 0] 109)).frozen? ⟨gi, rows.length, none⟩ = false ∧ (wr.alloc (.cells #[.slice none 0 0] 109)).cell? ⟨gi, rows.length, none⟩ = some (.slice none 0 0) ∧
      NwM w g gi n (rows ++ [⟨some ⟨wr.heap.size, 0, none⟩, 1, [bt0]⟩]) ((wr.alloc (.cells #[.slice none 0 0] 109)).setCell ⟨gi, rows.length, none⟩ (.slice (some ⟨wr.heap.size, 0, none⟩) 1 1)) := by
  have al := (Below.refl wr.heap.size wr).alloc (Nat.le_refl _) (.cells #[.slice none 0 0] 109)
  have hbx := h.box.below al
  have hrow := h.row.below al
  have hnew := OR.of_box1 (Box.new wr 109 #[.slice none 0 0]) h.be.size
  have hll : (rows.map inV ++ List.replicate (n - rows.length) (Value.slice none 0 0)).length = n := by simp; omega
  have hs := hrow.set_ (k := rows.length) (by rw [hll]; exact hl) (.slice (some ⟨wr.heap.size, 0, none⟩) 1 1)
  have ti : Ty (wr.alloc (.cells #[.slice none 0 0] 109)) gi 111 := own_ty hrow rfl
  have gs := grown_set (wr.alloc (.cells #[.slice none 0 0] 109)) gi rows.length (.slice (some ⟨wr.heap.size, 0, none⟩) 1 1)
  have gne : g ≠ gi := fun e => absurd (hbx.ty.inj (show Ty _ g 111 by rw [e]; exact ti)) (by decide)
  have hlo : w.heap.size ≤ gi := (World.ownsRow.lt h.row gi rfl).1
  refine ⟨hbx.cell 0 rfl, hrow.frozen_ _, ?_, hbx.grown gs (fun e => gne (by injection e)), h.low, ?_, fun x hx => ?_, ?_, by simp; omega, (h.be.trans (al.mono h.be.size)).setCell (p := ⟨gi, rows.length, none⟩) hlo _⟩
  · obtain ⟨b', o', e, _, hc⟩ := hrow.vs rows.length (.slice none 0 0) (by rw [List.getElem?_append_right (by simp), List.length_map, Nat.sub_self, List.getElem?_replicate, if_pos (by omega)])
    injection e with e
    injection e with e1 e2 _
    subst e1; subst e2
    rw [Nat.zero_add] at hc
    exact hc
  · have e : (rows.map inV ++ List.replicate (n - rows.length) (Value.slice none 0 0)).set rows.length (.slice (some ⟨wr.heap.size, 0, none⟩) 1 1) = (rows ++ [(⟨some ⟨wr.heap.size, 0, none⟩, 1, [bt0]⟩ : In)]).map inV ++ List.replicate (n - (rows ++ [(⟨some ⟨wr.heap.size, 0, none⟩, 1, [bt0]⟩ : In)]).length) (.slice none 0 0) := by
      obtain ⟨m, hm⟩ : ∃ m, n - rows.length = m + 1 := ⟨n - rows.length - 1, by omega⟩
      rw [List.set_append_right _ _ (by simp), hm, List.length_append, List.length_singleton, show n - (rows.length + 1) = m by omega, List.map_append, List.append_assoc]
      simp [List.replicate_succ, inV]
    rw [← e]; exact hs
  · rcases List.mem_append.1 hx with hx | hx
    · exact ⟨(h.inp x hx).1, own_keep ((h.inp x hx).2.below al) gs fun q hq => by injection hq with hq; subst hq; exact ⟨_, ti, by decide⟩⟩
    · rw [List.mem_singleton] at hx
      subst hx
      exact ⟨rfl, own_keep hnew gs fun q hq => by injection hq with hq; subst hq; exact ⟨_, ti, by decide⟩⟩
  · rw [List.pairwise_append]
    refine ⟨h.ap, List.pairwise_singleton _ _, fun x hx y hy e => ?_⟩
    rw [List.mem_singleton] at hy
    subst hy
    have := (World.ownsRow.lt (h.inp x hx).2 wr.heap.size (by rw [ownBlock_slice, e]; rfl)).2
    omega
/-- all inputs are made -/
theorem NwM.done {w wr : World} {g gi n : Nat} {rows : List In} (h : NwM w g gi n rows wr) (hl : rows.length = n) (h1 : 1 ≤ n) (h4 : n ≤ 4) :
    (⟨g, mTx, some ⟨gi, 0, none⟩, n, rows, 0⟩ : Ms).Ok wr w.heap.size ∧ ctM rows = List.replicate n [[]] := by
  have hat : ∀ {i : Nat} {x : In}, rows[i]? = some x → x.bs = [bt0] ∧ OR wr w.heap.size 109 x.A x.c [.slice none 0 0] := fun hi => h.inp _ (List.mem_of_getElem? hi)
  have hb1 : ∀ {i k : Nat} {x : In} {b : Bt}, rows[i]? = some x → x.bs[k]? = some b → b = bt0 := fun hi hk => by
    rw [(hat hi).1] at hk
    have := List.mem_of_getElem? hk
    simpa using this
  have hct : ctM rows = List.replicate n [[]] := by
    rw [← hl]
    refine List.eq_replicate_iff.2 ⟨by simp [ctM], fun b hb => ?_⟩
    obtain ⟨x, hx, rfl⟩ := List.mem_map.1 hb
    unfold ctI
    rw [(h.inp x hx).1]; rfl
  refine ⟨⟨⟨?_, h.low, ?_, fun i x hi => ?_, fun i x hi e => ?_, fun i x k b hi hk => ?_, fun i j x y hi hj e => ?_, fun i j k l x y a b hi hj hk hl2 hnn => ?_, fun i x k b hi hk e he => ?_⟩, ⟨fun e => ?_, by simp only; omega, fun i x hi => ?_, ?_, by simp only; omega⟩⟩, hct⟩
  · have := h.box
    simp only [hl]
    exact this
  · have := h.row
    rw [hl, Nat.sub_self, List.replicate_zero, List.append_nil] at this
    exact this
  · rw [(hat hi).1]; exact (hat hi).2
  · rw [(hat hi).1] at e; cases e
  · rw [hb1 hi hk]; exact EW.nil _ _
  · rcases Nat.lt_trichotomy i j with hlt | rfl | hgt
    · obtain ⟨hi', rfl⟩ := List.getElem?_eq_some_iff.1 hi
      obtain ⟨hj', rfl⟩ := List.getElem?_eq_some_iff.1 hj
      exact absurd e (List.pairwise_iff_getElem.1 h.ap i j hi' hj' hlt)
    · rfl
    · obtain ⟨hi', rfl⟩ := List.getElem?_eq_some_iff.1 hi
      obtain ⟨hj', rfl⟩ := List.getElem?_eq_some_iff.1 hj
      exact absurd e.symm (List.pairwise_iff_getElem.1 h.ap j i hj' hi' hgt)
  · rw [hb1 hi hk] at hnn; exact absurd rfl hnn
  · rw [hb1 hi hk] at he; simp [bt0] at he
  · simp only at e; rw [e] at hl; simp at hl; omega
  · simp only at hi; rw [(hat hi).1]; simp
  · simp only
    rw [hct]
    clear hct hl h h1 h4 hat hb1
    induction n with
    | zero => rfl
    | succ n ih => simp only [totM, List.replicate_succ, List.map_cons, List.sum_cons] at ih ⊢; rw [← ih]; rfl
def NwI (w : World) (g gi n : Nat) (i : Value) (wr : World) : Prop := ∃ rows : List In, i = .int .i64 (rows.length : Nat) ∧ NwM w g gi n rows wr
theorem NwM.below {w wr w' : World} {g gi n : Nat} {rows : List In} (h : NwM w g gi n rows wr) (hb : Below wr.heap.size wr w') : NwM w g gi n rows w' :=
  ⟨h.box.below hb, h.low, h.row.below hb, fun x hx => ⟨(h.inp x hx).1, (h.inp x hx).2.below hb⟩, h.ap, h.len, h.be.trans (hb.mono h.be.size)⟩
theorem NwI.drew_ {w wr : World} {g gi n : Nat} {i i' : Value} (h : NwI w g gi n i wr) (hi : i' = i) : NwI w g gi n i' wr.drew := by
  obtain ⟨rows, e, h⟩ := h
  exact ⟨rows, hi.trans e, h.below (Below.refl _ _).drew⟩
/-- a Merge is handed back -/
def RetNm (w : World) (n : Nat) (e : Ending) (w' : World) : Prop := ∃ s : Ms, e = .returned (.tuple #[.pointer (some ⟨s.g, 0, none⟩), .int .i64 0]) ∧ s.x = mTx ∧ s.Ok w' w.heap.size ∧ s.ct = List.replicate n [[]] ∧ Below w.heap.size w w'
set_option maxHeartbeats 1000000 in
set_option maxRecDepth 100000 in
theorem mnew_bad (n : Int) (w : World) (h : ¬ (1 ≤ n ∧ n ≤ 4)) :
    Calls Tryz.prog 41 #[.int .i64 n] w fun e w' => e = .returned (.tuple #[.pointer none, .int .i64 1]) ∧ w = w' := by
  by_cases h1 : n < 1
  · go_enter Tryz.func41, Tryz.ntmps41
    go_wp2_with fail
    go_ret2
    exact ⟨rfl, rfl⟩
  · have h2 : 4 < n := by omega
    have h3 : decide (n < 1) = false := decide_eq_false h1
    go_enter Tryz.func41, Tryz.ntmps41
    go_wp2_with fail
    go_ret2
    exact ⟨rfl, rfl⟩
set_option maxHeartbeats 1000000 in
set_option maxRecDepth 100000 in
theorem mnew_ok (n : Nat) (w : World) (h1 : 1 ≤ n) (h4 : n ≤ 4) :
    Calls Tryz.prog 41 #[.int .i64 (n : Int)] w (RetNm w n) := by
  obtain ⟨i0, hi0, hz0, hz1, hz2⟩ := info_parts inpInfo
  obtain ⟨w2, hmk, hown, hg2⟩ := run_make_full (P := Tryz.prog) w w.heap.size 62 111 i0 _ 1 Tryz.underlying62 hi0 hz0 hz1 .i64 .i64 n (by rw [hz2]; omega) (by unfold maxLen; omega) (Nat.le_refl _)
  rw [made_nils] at hown
  have hb2 : Below w.heap.size w w2 := ⟨hg2.os, hg2.tape, hg2.output, hg2.size, fun k hk => hg2.block k hk (by simp)⟩
  have al := hb2.alloc hb2.size (.cells #[.slice (some ⟨w.heap.size, 0, none⟩) n n, .int .i64 0] 64)
  have hN : NwM w w2.heap.size w.heap.size n [] (w2.alloc (.cells #[.slice (some ⟨w.heap.size, 0, none⟩) n n, .int .i64 0] 64)) :=
    ⟨Box.new _ _ _, hb2.size, by
      have : OR w2 w.heap.size 111 (some ⟨w.heap.size, 0, none⟩) n (List.replicate n (.slice none 0 0)) := by unfold OR; rw [List.length_replicate]; exact hown
      exact this.below ((Below.refl w2.heap.size w2).alloc (Nat.le_refl _) _), by simp, .nil, Nat.zero_le _, al⟩
  have HN := hideP (show NwI w w2.heap.size w.heap.size n (.int .i64 0) _ from ⟨[], rfl, hN⟩)
  have c0 := hN.box.cell 0 (v := .slice (some ⟨w.heap.size, 0, none⟩) n n) rfl
  have g1 : ¬ ((n : Int) < 1) := by omega
  have g2 : ¬ ((4 : Int) < (n : Int)) := by omega
  have d1 : decide ((n : Int) < 1) = false := decide_eq_false g1
  clear hown hg2 hb2 al hN hi0 hz0 hz1 hz2
  have hm1 := run_make_one
  have HB := hideP h1
  have HB4 := hideP h4
  generalize hgi : w.heap.size = gi at HN hmk c0
  have HGI := hideP hgi
  clear hgi
  go_enter Tryz.func41, Tryz.ntmps41
  go_wp2_with fail
  generalize w2.heap.size = g at HN c0 ⊢
  generalize w2.alloc _ = w3 at HN c0 ⊢
  go_wp2_with fail
  go_loopw [21] (NwI w g gi n) (fun i _ => n - (intOf i).toNat)
  case atStart => exact HN.out
  case round =>
    obtain ⟨rows, rfl, hN⟩ := hrel
    clear HN c0 hmk
    by_cases hlt : rows.length < n
    · have hl := hN.len
      obtain ⟨c0a, fz, c1a, hS⟩ := hN.step hlt
      have c0 := hN.box.cell 0 (v := .slice (some ⟨gi, 0, none⟩) n n) rfl
      have HS := hideP (show NwI w g gi n (.int .i64 ((rows.length + 1 : Nat) : Int)) _ from ⟨_, by simp, hS⟩)
      have g3 : (0 : Int) ≤ (rows.length : Int) := by omega
      have g4 : (rows.length : Int) < (n : Int) := by omega
      have HNN := hideP (show NwI w g gi n (.int .i64 ((rows.length : Nat) : Int)) wr from ⟨_, rfl, hN⟩)
      clear hN hS
      generalize rows.length = k at c0a fz c1a HS g3 g4 hlt hl HNN ⊢
      go_wp2_with fail
      go_region
      all_goals
        go_wp2_with fail
        go_roundw
        case rel => exact HS.out.drew_ (by go_num)
        case measure => simp [intOf]; omega
    · obtain ⟨hS, hct⟩ := hN.done (by have := hN.len; omega) HB.out HB4.out
      have HF := hideP (show RetNm w n (.returned (.tuple #[.pointer (some ⟨g, 0, none⟩), .int .i64 0])) wr from ⟨_, rfl, rfl, hS, hct, hN.be⟩)
      have hrl : rows.length = n := by have := hN.len; omega
      rw [hrl]
      clear hN hS hct hlt hrl
      go_wp2_with fail
      go_ret2
      exact HF.out
end Go.Proofs.YtefdipjhjgmokaaGreat

set_option linter.unusedVariables false
set_option linter.unusedSimpArgs false
namespace Go.Proofs.YtefdipjhjgmokaaGreat
open Go.RowKit

/-- Copies are handed back -/
def RetNc (w : World) (inputs n : Nat) (cs : List ByteArray) (os : List Int) (l : List Pr) (e : Ending) (w' : World) : Prop :=
  ∃ c : Cs, e = .returned (.tuple #[.pointer (some ⟨c.s.g, 0, none⟩), .int .i64 0]) ∧ c.Ok w' w.heap.size ∧ c.s.ct = List.replicate inputs [[]] ∧ c.st = List.replicate n ⟨valOf l, cs, os, []⟩ ∧ Below w.heap.size w w'
/-- while replicas are made -/
structure NcH (w : World) (g gm k inputs : Nat) (m : Mp) (A : Option Addr) (l : List Pr) (c : Cs) (wr : World) : Prop where
  ok : c.Ok wr w.heap.size
  gg : c.s.g = g
  ct : c.s.ct = List.replicate inputs [[]]
  st : c.st = List.replicate k ⟨valOf l, m.cs, m.os, []⟩
  x0 : Box wr gm 35 #[.slice m.A m.cs.length m.ca, .slice m.O m.os.length m.co]
  be : Below w.heap.size w wr
  lo : w.heap.size ≤ gm
def NcI (w : World) (g gm n inputs : Nat) (m : Mp) (A : Option Addr) (l : List Pr) (i : Value) (wr : World) : Prop := ∃ (k : Nat) (c : Cs), k ≤ n ∧ i = .int .i64 k ∧ NcH w g gm k inputs m A l c wr
set_option maxHeartbeats 2000000 in
set_option maxRecDepth 100000 in
theorem cnew_ok (inputs n : Nat) (m : Mp) (A : Option Addr) (cp : Nat) (l : List Pr) (w : World) (h1 : 1 ≤ inputs) (h2 : inputs ≤ 4) (h3 : 1 ≤ n) (h4 : n ≤ 4) (hm : MS w m) (hA : PS w w.heap.size A l) (hok : OkM m.cs m.os) (hokl : Ok l) :
    Calls Tryz.prog 15 #[.int .i64 (inputs : Int), .int .i64 (n : Int), .agg #[.slice m.A m.cs.length m.ca, .slice m.O m.os.length m.co], .slice A l.length cp] w (RetNc w inputs n m.cs m.os l) := by
  have b0 := (Below.refl w.heap.size w).alloc (Nat.le_refl _) (.cells #[.slice m.A m.cs.length m.ca, .slice m.O m.os.length m.co] 35)
  have x0 := Box.new w 35 #[.slice m.A m.cs.length m.ca, .slice m.O m.os.length m.co]
  have g1 : ¬ (n : Int) < 1 := by omega
  have g2 : ¬ (4 : Int) < (n : Int) := by omega
  have d1 : decide ((n : Int) < 1) = false := decide_eq_false g1
  have HN := hideP (fun (W : World) => mnew_ok inputs W h1 h2)
  have HPN := hideP (fun (W : World) (h1 : MS W m) (h2 : PS W W.heap.size A l) => new_ok m A cp l W h1 h2 hok hokl)
  have HMS := hideP (fun (W : World) (hb : Below w.heap.size w W) => show MS W m ∧ PS W W.heap.size A l from ⟨hm.below hb, (hA.below hb).more hb.size⟩)
  have HN4 := hideP h4
  clear hm hA hok hokl h1 h2 h3
  go_enter Tryz.func15, Tryz.ntmps15
  go_wp2_with fail
  generalize w.alloc _ = w1 at b0 x0 ⊢
  generalize hgm : w.heap.size = gm at x0 ⊢
  refine (HN.out w1).mono ?_
  clear HN
  rintro e w2 ⟨s, rfl, hsx, hs, hct, hb2⟩
  have c0 := hs.mg.c0
  have c1 := hs.mg.c1
  have hs2 := hs.mono b0.size
  have b2 := b0.trans (hb2.mono b0.size)
  have hem := hs2.embed
  have al := (Below.refl w2.heap.size w2).alloc (Nat.le_refl _) (.cells #[.slice s.AI s.ins.length s.cI, .int .i64 (s.added : Int), .slice none 0 0] 67)
  have hH : NcI w w2.heap.size gm n inputs m A l (.int .i64 0) (w2.alloc (.cells #[.slice s.AI s.ins.length s.cI, .int .i64 (s.added : Int), .slice none 0 0] 67)) :=
    ⟨0, _, Nat.zero_le _, rfl, hem, rfl, hct, rfl, (x0.below hb2).below al, b2.trans (al.mono b2.size), by omega⟩
  clear hs hs2 hct hsx hem x0 b0 b2 hb2 al
  go_wp2_with fail
  generalize w2.heap.size = g at hH ⊢
  generalize w2.alloc _ = w3 at hH ⊢
  go_wp2_with fail
  go_loopw [35] (NcI w g gm n inputs m A l) (fun i _ => n - (intOf i).toNat)
  case atStart => exact hH
  case round =>
    clear hH c0 c1
    obtain ⟨k, c, hk, rfl, h⟩ := hrel
    by_cases hlt : k < n
    · have z1 := h.x0.cell 0 (v := .slice m.A m.cs.length m.ca) rfl
      have z2 := h.x0.cell 1 (v := .slice m.O m.os.length m.co) rfl
      have g3 : (k : Int) < (n : Int) := by omega
      have HP := hideP (HPN.out wr (HMS.out wr h.be).1 (HMS.out wr h.be).2)
      go_wp2_with fail
      refine HP.out.mono ?_
      clear HP
      rintro e w4 ⟨g', A', ca', O', co', q, rfl, hp, hb4⟩
      have hcl : c.rs.length = k := by have := congrArg List.length h.st; simpa [Cs.st] using this
      have hng : ∀ (j : Nat) (z : Rp), c.rs[j]? = some z → g' ≠ z.g := fun j z hz e => by
        have e1 := (h.ok.ro j z hz).pb.box.lt
        have e2 := hp.low
        omega
      have hok4 := h.ok.below hb4
      obtain ⟨A2, c2, w5, hrun, k0, k1, hok5, hfr⟩ := hok4.grow ⟨g', ⟨A', ca', m.cs, O', co', m.os⟩, l, q, none, 0, []⟩ ⟨hp.mono h.ok.size, OR.nil _ _ _⟩ rfl (by have := HN4.out; omega) hng rfl 65
      have c2' := hok4.c2
      have b4 := h.be.trans (hb4.mono h.be.size)
      have HX := hideP (fun (i : Value) (hi : i = .int .i64 ((k + 1 : Nat) : Int)) => show NcI w g gm n inputs m A l i (w5.setCell ⟨c.s.g, 2, none⟩ (.slice A2 (c.rs ++ [(⟨g', ⟨A', ca', m.cs, O', co', m.os⟩, l, q, none, 0, []⟩ : Rp)]).length c2)) from
        ⟨k + 1, _, hlt, hi, hok5, h.gg, h.ct, by
          show List.map Rp.st (c.rs ++ [_]) = _
          rw [List.map_append, show List.map Rp.st c.rs = List.replicate k _ from h.st, List.replicate_succ']
          rfl, hfr.box_ty (h.x0.below hb4) (hok4.off (by decide) (by decide) (by decide) (by decide) (by decide) (by decide) (by decide)), hfr.below (fun k hk => (hok4.lo hk).1) hok4.size b4, h.lo⟩)
      rw [h.gg] at k0 k1 c2' HX
      have HR := hideP hrun
      clear hrun h hok4 hok5 hfr hp hng b4 hb4 z1 z2 hcl
      generalize (c.rs ++ [(⟨g', ⟨A', ca', m.cs, O', co', m.os⟩, l, q, none, 0, []⟩ : Rp)]).length = n2 at HR HX
      simp only [List.length_nil] at HR
      go_wp2_with (at_builtin; refine Lib.wpList_append_run _ rfl _ _ _ _ rfl _ _ rfl rfl _ _ HR.out ?_)
      go_roundw
      case rel => exact HX.out _ (by go_num)
      case measure => simp [intOf]; omega
    · obtain rfl : k = n := by omega
      have HF := hideP (show RetNc w inputs k m.cs m.os l (.returned (.tuple #[.pointer (some ⟨g, 0, none⟩), .int .i64 0])) wr from ⟨c, by rw [h.gg], h.ok, h.ct, h.st, h.be⟩)
      clear h
      go_wp2_with fail
      go_ret2
      exact HF.out
end Go.Proofs.YtefdipjhjgmokaaGreat

set_option linter.unusedVariables false
set_option linter.unusedSimpArgs false
namespace Go.Proofs.YtefdipjhjgmokaaGreat
open Go.RowKit

theorem OS.lit1 (w W : World) (o : Opr) (t : TypeId) (hW : W = w.alloc (.cells #[.int .i64 o.kind, .string o.key, .string o.src, .int .i64 o.n] t)) (g : Nat) (hg : g = w.heap.size) : OS W W.heap.size (some ⟨g, 0, none⟩) [o] := by
  subst hW; subst hg
  intro i p hp
  cases i with
  | zero => simp at hp; subst hp; exact ⟨w.heap.size, 0, rfl, by simp, by simp, by simp, by simp, by simp⟩
  | succ i => simp at hp
theorem VS.lit0 (w : World) (t : TypeId) : VS (w.alloc (.cells #[.int .i64 0] t)) (some ⟨w.heap.size, 0, none⟩) (nV [0]) := fun i v hv => by
  cases i with
  | zero => simp [nV] at hv; subst hv; exact ⟨w.heap.size, 0, rfl, by simp, by simp⟩
  | succ i => simp [nV] at hv

end Go.Proofs.YtefdipjhjgmokaaGreat

set_option linter.unusedVariables false
set_option linter.unusedSimpArgs false
namespace Go.Proofs.YtefdipjhjgmokaaGreat
open Go.RowKit

theorem Cs.at_st {c : Cs} {i : Nat} {a : Sr} (h : c.st[i]? = some a) : ∃ r, c.rs[i]? = some r ∧ r.st = a := by
  unfold Cs.st at h
  rw [List.getElem?_map] at h
  cases e : c.rs[i]? with
  | none => rw [e] at h; cases h
  | some r => rw [e] at h; injection h with h; exact ⟨r, rfl, h⟩
/-- a row of entries lies apart from Copies -/
def CAp (c : Cs) (A : Option Addr) : Prop := ∀ k, blk A = some k → ¬ c.F k
theorem EW.fr_ {F : Nat → Prop} {w w' : World} {B : Nat} {A : Option Addr} {n : Nat} {xs : List Em} (h : EW w B A n xs) (hf : Fr F w w') (ha : ∀ k, blk A = some k → ¬ F k) (o0 : Off F w 106) (o1 : Off F w 9) (o2 : Off F w 3) : EW w' B A n xs :=
  ⟨hf.own h.row fun k hk => ha k (ob hk), fun x hx => ⟨hf.own_ty (h.eo x hx).ops o0, ⟨hf.own_ty (h.eo x hx).map.cuts o1, hf.own_ty (h.eo x hx).map.own o2⟩⟩, h.bd⟩
theorem EW.cto {c c' : Cs} {w w' : World} {B B' n : Nat} {ct' : List (List (List Ent))} {st' : List Sr} {A : Option Addr} {xs : List Em} (h : EW w B' A n xs) (ho : c.Ok w B) (ht : c.To w B c' w' ct' st') (ha : CAp c A) : EW w' B' A n xs ∧ CAp c' A :=
  ⟨h.fr_ ht.fr ha ho.offO ho.offS ho.offI, fun k hk hF => (ht.F k hF).elim (ha k hk) fun e => by have := (World.ownsRow.lt h.row k (bo _ _ hk)).2; omega⟩
theorem CAp.fresh {c : Cs} {w w' : World} {B B' n : Nat} {A : Option Addr} {xs : List Em} (h : EW w' B' A n xs) (hs : c.Ok w B) (hB : w.heap.size ≤ B') : CAp c A := fun k hk hF => by
  have h1 := (World.ownsRow.lt h.row k (bo _ _ hk)).1
  have h2 := (hs.lo hF).2
  omega
theorem log_one {α : Type} (es : List α) : logM [[es, []]] = es := by simp [logM, logUp, rndM, cloL, roundL]
/-- while entries come in at the only input -/
structure AdH (w : World) (g : Nat) (A : Option Addr) (ce : Nat) (xs : List Em) (st : List Sr) (k : Nat) (c : Cs) (wr : World) : Prop where
  ok : c.Ok wr w.heap.size
  gg : c.s.g = g
  ct : c.s.ct = [[(xs.map entOf).take k]]
  st : c.st = st
  ew : EW wr w.heap.size A ce xs
  ap : CAp c A
  be : Below w.heap.size w wr
section
variable {w wr w' : World} {g ce k : Nat} {A : Option Addr} {xs : List Em} {st : List Sr} {c c' : Cs}
theorem AdH.below (h : AdH w g A ce xs st k c wr) (hb : Below wr.heap.size wr w') : AdH w g A ce xs st k c w' := ⟨h.ok.below hb, h.gg, h.ct, h.st, h.ew.below hb, h.ap, h.be.trans (hb.mono h.be.size)⟩
theorem AdH.next (h : AdH w g A ce xs st k c wr) (hk : k < xs.length) (T : c.To wr w.heap.size c' w' [[(xs.map entOf).take k ++ [entOf xs[k]]]] c.st) : AdH w g A ce xs st (k + 1) c' w' := by
  obtain ⟨h1, h2⟩ := h.ew.cto h.ok T h.ap
  refine ⟨T.ok, T.g.trans h.gg, ?_, T.st.trans h.st, h1, h2, T.below_ h.ok (Nat.le_refl _) h.be⟩
  rw [T.ct, List.take_succ_eq_append_getElem (by simpa using hk)]
  simp
end
/-- between steps, all entries in the log -/
structure StH (w : World) (g : Nat) (es : List Ent) (A : Option Addr) (ce : Nat) (xs : List Em) (st : List Sr) (c : Cs) (wr : World) : Prop where
  ok : c.Ok wr w.heap.size
  gg : c.s.g = g
  ct : logM c.s.ct = es
  st : c.st = st
  ew : EW wr w.heap.size A ce xs
  ap : CAp c A
  be : Below w.heap.size w wr
section
variable {w wr w' : World} {g ce : Nat} {es : List Ent} {A : Option Addr} {xs : List Em} {st st' : List Sr} {c c' : Cs}
theorem StH.below (h : StH w g es A ce xs st c wr) (hb : Below wr.heap.size wr w') : StH w g es A ce xs st c w' := ⟨h.ok.below hb, h.gg, h.ct, h.st, h.ew.below hb, h.ap, h.be.trans (hb.mono h.be.size)⟩
theorem StH.next (h : StH w g es A ce xs st c wr) (T : c.To wr w.heap.size c' w' c.s.ct st') : StH w g es A ce xs st' c' w' := by
  obtain ⟨h1, h2⟩ := h.ew.cto h.ok T h.ap
  exact ⟨T.ok, T.g.trans h.gg, by rw [T.ct]; exact h.ct, T.st, h1, h2, T.below_ h.ok (Nat.le_refl _) h.be⟩
theorem AdH.close {es : List Ent} (h : AdH w g A ce xs st xs.length c wr) (he : xs.map entOf = es) (T : c.To wr w.heap.size c' w' [[es, []]] c.st) : StH w g es A ce xs st c' w' := by
  obtain ⟨h1, h2⟩ := h.ew.cto h.ok T h.ap
  exact ⟨T.ok, T.g.trans h.gg, by rw [T.ct, log_one], T.st.trans h.st, h1, h2, T.below_ h.ok (Nat.le_refl _) h.be⟩
theorem StH.len {es : List Ent} (h : StH w g es A ce xs st c wr) : es.length ≤ 3600 := by
  have h2 := log_len c.s.ct
  have h3 := h.ok.ms.gm.cnt
  have h4 := h.ok.ms.gm.most
  rw [h.ct] at h2
  unfold Ms.ct at h2
  omega
end
/-- replicas in one state have one store -/
theorem Cs.Ok.same {c d : Cs} {w w' : World} {B B' i j : Nat} {r q : Rp} (h : c.Ok w B) (k : d.Ok w' B') (hr : c.rs[i]? = some r) (hq : d.rs[j]? = some q) (he : r.st = q.st) : r.l = q.l ∧ r.m.cs = q.m.cs ∧ r.m.os = q.m.os ∧ r.bs = q.bs :=
  ⟨(h.ro i r hr).pb.ok.ext (k.ro j q hq).pb.ok fun x => congrFun (congrArg Sr.v he) x, congrArg Sr.cs he, congrArg Sr.os he, congrArg Sr.bs he⟩
/-- one input -/
theorem close_one {α : Type} (es : List α) : closeC [[es]] 0 = [[es, []]] ∧ closeQ [[es]] 0 = 0 ∧ closeN [[es]] 0 = 1 := ⟨rfl, rfl, rfl⟩
theorem add_one (es : List Ent) (x : Ent) (hx : chkE x = 0) (hd : dropE x = x) (hl : es.length < 60) : addQ [[es]] 0 x = 0 ∧ addC [[es]] 0 x = [[es ++ [x]]] := by
  obtain ⟨h1, h2⟩ := addQ_ok (ct := [[es]]) (i := 0) (x := x) (by simp) hx (by simpa [totM] using hl)
  exact ⟨h1, by rw [show (0 : Int) = ((0 : Nat) : Int) from rfl, h2, hd]; rfl⟩
end Go.Proofs.YtefdipjhjgmokaaGreat
