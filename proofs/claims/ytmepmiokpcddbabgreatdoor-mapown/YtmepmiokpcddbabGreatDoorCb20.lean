/-
  store.Join.
  (*parts.Parts).All.
-/
import Derived.Test.YtmepmiokpcddbabGreatDoorCb19
import Derived.Deep.RegionLaw
import Derived.Laws.MakeOwn
import Derived.Test.YtmepmiokpcddbabGreatDoorCb18
import Derived.Test.YtmepmiokpcddbabGreatDoorCb17
set_option linter.unusedVariables false
set_option linter.unusedSimpArgs false
namespace Go.Proofs.YtmepmiokpcddbabGreatDoor
open Go.RowKit

abbrev Srt (l : List Pr) : Prop := l.Pairwise (fun p q => ltB p.1 q.1 = true)
/-- two stores have no key in common -/
def Apart (a b : List Pr) : Prop := ∀ p ∈ a, ∀ q ∈ b, p.1 ≠ q.1
/-- what has been joined so far -/
structure JInv (a0 a b0 b xs : List Pr) : Prop where
  mem : ∀ p, p ∈ xs ↔ p ∈ a0 ∨ p ∈ b0
  srt : Srt xs
  lo : ∀ p ∈ xs, ∀ q, q ∈ a ∨ q ∈ b → ltB p.1 q.1 = true
  len : xs.length = a0.length + b0.length
  ap : Apart a0 (b0 ++ b)
  bp : Apart (a0 ++ a) b0
theorem JInv.start (a b : List Pr) : JInv [] a [] b [] := ⟨by simp, List.Pairwise.nil, by simp, rfl, (fun p hp => by cases hp), (fun p hp q hq => by cases hq)⟩
theorem JInv.left {a0 a b0 b xs : List Pr} {p q : Pr} (h : JInv a0 (p :: a) b0 (q :: b) xs) (ha : Srt (p :: a)) (hb : Srt (q :: b)) (hlt : ltB p.1 q.1 = true) : JInv (a0 ++ [p]) a b0 (q :: b) (xs ++ [p]) := by
  have ha' := List.pairwise_cons.1 ha
  have hb' := List.pairwise_cons.1 hb
  refine ⟨fun r => ?_, ?_, fun r hr s hs => ?_, ?_, fun r hr s hs => ?_, fun r hr s hs => ?_⟩
  · simp [h.mem]; constructor
    · rintro ((h | h) | h) <;> simp [h]
    · rintro ((h | h) | h) <;> simp [h]
  · refine List.pairwise_append.2 ?_
    exact ⟨h.srt, by simp, fun r hr s hs => by simp at hs; subst hs; exact h.lo r hr _ (.inl (by simp))⟩
  · rcases List.mem_append.1 hr with hr | hr
    · exact h.lo r hr s (by rcases hs with hs | hs <;> simp [hs])
    · simp at hr; subst hr
      rcases hs with hs | hs
      · exact ha'.1 s hs
      · rcases List.mem_cons.1 hs with rfl | hs
        · exact hlt
        · exact ltB_trans hlt (hb'.1 s hs)
  · simp [h.len]; omega
  · rcases List.mem_append.1 hr with hr | hr
    · exact h.ap r hr s hs
    · simp at hr; subst hr
      rcases List.mem_append.1 hs with hs | hs
      · exact h.bp r (by simp) s hs
      · rcases List.mem_cons.1 hs with rfl | hs
        · exact ltB_ne hlt
        · exact ltB_ne (ltB_trans hlt (hb'.1 s hs))
  · exact h.bp r (by simpa using hr) s hs
theorem JInv.right {a0 a b0 b xs : List Pr} {p q : Pr} (h : JInv a0 (p :: a) b0 (q :: b) xs) (ha : Srt (p :: a)) (hb : Srt (q :: b)) (hlt : ltB q.1 p.1 = true) : JInv a0 (p :: a) (b0 ++ [q]) b (xs ++ [q]) := by
  have ha' := List.pairwise_cons.1 ha
  have hb' := List.pairwise_cons.1 hb
  refine ⟨fun r => ?_, ?_, fun r hr s hs => ?_, ?_, fun r hr s hs => ?_, fun r hr s hs => ?_⟩
  · simp [h.mem]; constructor
    · rintro ((h | h) | h) <;> simp [h]
    · rintro (h | (h | h)) <;> simp [h]
  · refine List.pairwise_append.2 ?_
    exact ⟨h.srt, by simp, fun r hr s hs => by simp at hs; subst hs; exact h.lo r hr _ (.inr (by simp))⟩
  · rcases List.mem_append.1 hr with hr | hr
    · exact h.lo r hr s (by rcases hs with hs | hs <;> simp [hs])
    · simp at hr; subst hr
      rcases hs with hs | hs
      · rcases List.mem_cons.1 hs with rfl | hs
        · exact hlt
        · exact ltB_trans hlt (ha'.1 s hs)
      · exact hb'.1 s hs
  · simp [h.len]; omega
  · exact h.ap r hr s (by simpa using hs)
  · rcases List.mem_append.1 hs with hs | hs
    · exact h.bp r hr s hs
    · simp at hs; subst hs
      rcases List.mem_append.1 hr with hr | hr
      · exact h.ap r hr s (by simp)
      · rcases List.mem_cons.1 hr with rfl | hr
        · exact (ltB_ne hlt).symm
        · exact (ltB_ne (ltB_trans hlt (ha'.1 r hr))).symm

/-- what Join makes of two valid stores without a common key -/
structure Joined (a b l : List Pr) : Prop where
  ok : Ok l
  apart : Apart a b
  mem : ∀ p, p ∈ l ↔ p ∈ a ∨ p ∈ b
  len : l.length = a.length + b.length
theorem JInv.done {a0 a b0 b xs : List Pr} (h : JInv a0 a b0 b xs) (ha : Ok (a0 ++ a)) (hb : Ok (b0 ++ b)) (he : a = [] ∨ b = []) : Joined (a0 ++ a) (b0 ++ b) (xs ++ a ++ b) := by
  have sa : Srt a := (List.pairwise_append.1 ha.srt).2.1
  have sb : Srt b := (List.pairwise_append.1 hb.srt).2.1
  have hm : ∀ p, p ∈ xs ++ a ++ b ↔ p ∈ a0 ++ a ∨ p ∈ b0 ++ b := fun p => by
    simp [h.mem]; constructor
    · rintro ((h | h) | (h | h)) <;> simp [h]
    · rintro ((h | h) | (h | h)) <;> simp [h]
  refine ⟨⟨?_, fun p hp => ?_, fun p hp => ?_, fun p hp => ?_⟩, fun p hp q hq => ?_, hm, by simp [h.len]; omega⟩
  · rw [List.pairwise_append, List.pairwise_append]
    refine ⟨⟨h.srt, sa, fun p hp q hq => h.lo p hp q (.inl hq)⟩, sb, fun p hp q hq => ?_⟩
    rcases List.mem_append.1 hp with hp | hp
    · exact h.lo p hp q (.inr hq)
    · rcases he with rfl | rfl
      · cases hp
      · cases hq
  · rcases (hm p).1 hp with hp | hp; exact ha.key p hp; exact hb.key p hp
  · rcases (hm p).1 hp with hp | hp; exact ha.val p hp; exact hb.val p hp
  · rcases (hm p).1 hp with hp | hp; exact ha.nz p hp; exact hb.nz p hp
  · rcases he with rfl | rfl
    · exact h.ap p (by simpa using hp) q hq
    · exact h.bp p hp q (by simpa using hq)

theorem SV.tail {w : World} {b o c : Nat} {p : Pr} {r : List Pr} (h : SV w (some ⟨b, o, none⟩) c (p :: r)) :
    SV w (if c = 1 then some ⟨b, o, none⟩ else some ⟨b, o + 2, none⟩) (c - 1) r := by
  have hle := h.le
  simp at hle
  refine ⟨?_, by omega, by have := h.cap; omega, fun e => ?_, fun _ a ha => ?_⟩
  · by_cases hc : c = 1
    · have : r = [] := List.length_eq_zero_iff.1 (by omega)
      subst this
      exact PS.nil
    · rw [if_neg hc]
      have := h.ps.drop_ 1
      simpa using this
  · by_cases hc : c = 1 <;> simp [hc] at e
  · by_cases hc : c = 1 <;> simp [hc] at ha <;> exact ⟨_, _, ha.symm⟩

theorem step_append_run {P : Program} (w : World) {ops : Array Oper} {o : Oper} {a : Act} {K : Act → World → Prop} {Q : Exit → Act → World → Prop} {E : Prop} (hgd : o.guard = none) (s x : Operand) (t tn : TypeId)
    (ho : o.op = .call { callee := .builtin .append, args := #[s, x], argTypes := #[t, tn] }) (vs vx : Value) (hs : a.eval s = vs) (hx : a.eval x = vx)
    (v' : Value) (w' : World) (hr : (Builtin.append_ #[t, tn] o.type #[vs, vx]).run P w = .ok v' w') (h : K (a.put o.dst v') w') :
    if Region.wanted o (yielded ops a.tmps) = true then Oper.wp P o a w K Q else E := by
  have hw : Region.wanted o (yielded ops a.tmps) = true := by simp [Region.wanted, hgd]
  rw [if_pos hw]
  exact Lib.wp_append_run w s x t tn ho vs vx hs hx v' w' hr h

/-- where Join's loop stands -/
def JRel (w2 : World) (a b : List Pr) (va vb v : Value) (wr : World) : Prop :=
  ∃ (A' B' : Option Addr) (ca' cb' : Nat) (a0 a' b0 b' xs : List Pr), a0 ++ a' = a ∧ b0 ++ b' = b ∧ va = .slice A' a'.length ca' ∧ vb = .slice B' b'.length cb' ∧ SV w2 A' ca' a' ∧ SV w2 B' cb' b' ∧ JInv a0 a' b0 b' xs ∧
      wr.ownsRow w2.heap.size 65 2 v xs.length (cellsOf xs) ∧ Below w2.heap.size w2 wr
def sliceLen : Value → Nat | .slice _ n _ => n | _ => 0
/-- two stores are joined, or refused -/
def RetJoin (w : World) (a b : List Pr) (e : Ending) (w' : World) : Prop :=
  ((¬ Apart a b ∧ e = .returned (.tuple #[.slice none 0 0, .int .i64 5])) ∨ ∃ A c l, e = .returned (.tuple #[.slice A l.length c, .int .i64 0]) ∧ SV w' A c l ∧ Joined a b l) ∧ Below w.heap.size w w'

/-- the same, and what is joined is the call's own -/
def RetJoinO (w : World) (a b : List Pr) (e : Ending) (w' : World) : Prop :=
  ((¬ Apart a b ∧ e = .returned (.tuple #[.slice none 0 0, .int .i64 5])) ∨ ∃ A c l, e = .returned (.tuple #[.slice A l.length c, .int .i64 0]) ∧ OV w' w.heap.size A c l ∧ Joined a b l) ∧ Below w.heap.size w w'

set_option maxHeartbeats 1000000 in
set_option maxRecDepth 100000 in
theorem join_own (A B : Option Addr) (ca cb : Nat) (a b : List Pr) (w : World) (hA : SV w A ca a) (hB : SV w B cb b) (ha : Ok a) (hb : Ok b) (hsz : (a.length + b.length) * 24 ≤ 140737488355328) :
    Calls Tryz.prog 101 #[.slice A a.length ca, .slice B b.length cb] w (RetJoinO w a b) := by
  have HCa := hideP (chk_ok.2 ha)
  have HCb := hideP (chk_ok.2 hb)
  obtain ⟨i0, hi, hz0, hz1, hz2⟩ := info_parts pairInfo
  have hmk : ∀ w : World, (Instr.makeSlice 58 (.int .i64 0) (.int .i64 ((a.length : Int) + (b.length : Int)))).run Tryz.prog w = .ok (.slice (some ⟨w.heap.size, 0, none⟩) 0 (a.length + b.length)) (w.alloc (.cells (madeCells #[.string ByteArray.empty, .int .i64 0] ((a.length + b.length) * 2)) 65)) := fun w => by
    have h := run_make (P := Tryz.prog) w 58 65 i0 _ Tryz.underlying58 hi hz0 .i64 .i64 0 ((a.length : Int) + (b.length : Int)) (by omega) (by omega) (by rw [hz2]; omega) (by omega)
    rw [hz1, show ((a.length : Int) + (b.length : Int)).toNat = a.length + b.length by omega] at h
    exact h
  go_enter Tryz.func101, Tryz.ntmps101
  go_wp2_with fail
  refine (check_any A ca a _ hA.ps (by omega)).mono ?_
  rintro e w1 ⟨rfl, hb1⟩
  rw [HCa.out]
  have hA1 := hA.below hb1
  have hB1 := hB.below hb1
  clear hA hB
  go_wp2_with fail
  refine (check_any B cb b _ hB1.ps (by omega)).mono ?_
  rintro e w2 ⟨rfl, hb2⟩
  rw [HCb.out]
  have hA2 := hA1.below hb2
  have hB2 := hB1.below hb2
  have hbw := hb1.trans (hb2.mono hb1.size)
  clear hA1 hB1 hb1 hb2
  go_wp2_with fail
  clear hmk
  have hown0 : (w2.alloc (.cells (madeCells #[.string ByteArray.empty, .int .i64 0] ((a.length + b.length) * 2)) 65)).ownsRow w2.heap.size 65 2 (.slice (some ⟨w2.heap.size, 0, none⟩) 0 (a.length + b.length)) 0 [] :=
    World.ownsRow_made w2 _ _ (Nat.le_refl _) (by unfold maxLen; omega) (by simp [madeCells, Value.cells])
  have hb0 := (Below.refl _ w2).alloc (Nat.le_refl _) (.cells (madeCells #[.string ByteArray.empty, .int .i64 0] ((a.length + b.length) * 2)) 65)
  generalize w2.alloc (.cells (madeCells #[.string ByteArray.empty, .int .i64 0] ((a.length + b.length) * 2)) 65) = w3 at hown0 hb0
  go_loopw [0, 1, 8] (fun va vb v wr => JRel w2 a b va vb v wr) (fun va vb _ _ => (sliceLen va + sliceLen vb))
  case atStart => exact ⟨A, B, ca, cb, [], a, [], b, [], rfl, rfl, rfl, rfl, hA2, hB2, JInv.start a b, hown0, hb0⟩
  case round =>
    obtain ⟨A', B', ca', cb', a0, a', b0, b', xs, ea, eb, rfl, rfl, hA', hB', hJ, hrow, hbr⟩ := hrel
    have EA := hideP ea
    have EB := hideP eb
    clear ea eb
    have la : a'.length ≤ a.length := by rw [← EA.out]; simp
    have lb : b'.length ≤ b.length := by rw [← EB.out]; simp
    have lx : xs.length + a'.length + b'.length = a.length + b.length := by rw [hJ.len, ← EA.out, ← EB.out]; simp; omega
    have LX := hideP lx
    clear lx
    by_cases ha0 : 0 < a'.length
    · by_cases hb0 : 0 < b'.length
      · have hA4 := hA'.below hbr
        have hB4 := hB'.below hbr
        obtain ⟨p, r, har⟩ : ∃ p r, a' = p :: r := by cases a' with | nil => simp at ha0 | cons p r => exact ⟨p, r, rfl⟩
        obtain ⟨q, t, hbt⟩ : ∃ q t, b' = q :: t := by cases b' with | nil => simp at hb0 | cons q t => exact ⟨q, t, rfl⟩
        obtain ⟨ab, ao, rfl, _, c1, c2⟩ := hA4.ps 0 p (by rw [har]; rfl)
        obtain ⟨bb, bo, rfl, _, c3, c4⟩ := hB4.ps 0 q (by rw [hbt]; rfl)
        simp only [Nat.zero_mul, Nat.add_zero] at c1 c2 c3 c4
        have HAR := hideP har
        have HBT := hideP hbt
        clear har hbt
        by_cases heq : p.1 = q.1
        · have d1 : (p.1.toList == q.1.toList) = true := by rw [heq]; simp
          have hfin : ∀ k, RetJoinO w a b (.returned (.tuple #[.slice none 0 0, .int .i64 5])) (wr.drewN k) := fun k =>
            ⟨.inl ⟨fun h => h p (by rw [← EA.out, HAR.out]; simp) q (by rw [← EB.out, HBT.out]; simp) heq, rfl⟩, belowDrewN (hbw.trans (hbr.mono hbw.size)) k⟩
          have HF := hideP hfin
          clear hfin heq HCa HCb hA2 hB2 hA4 hB4 hown0
          go_wp2_with fail
          go_quiet (fail)
          go_wp2_with fail
          go_ret2
          exact HF.out _
        · cases hlt : ltB p.1 q.1
          · have hle := hB'.le
            have hcap := hB'.cap
            unfold maxLen at hcap
            have g1 : (1 : Int) ≤ (b'.length : Int) := by omega
            have g2 : (b'.length : Int) ≤ (cb' : Int) := by omega
            have d1 : (p.1.toList == q.1.toList) = false := by
              rw [beq_eq_false_iff_ne]; intro e; rw [ByteArray.toList_eq, ByteArray.toList_eq] at e; exact heq (by8_inj e)
            have d2 : Op.bytesLess p.1.toList q.1.toList = false := hlt
            have hgt : ltB q.1 p.1 = true := by
              cases h : ltB q.1 p.1
              · exact absurd (ltB_total hlt h) heq
              · rfl
            have hT := (show SV w2 (some ⟨bb, bo, none⟩) cb' (q :: t) from HBT.out ▸ hB').tail
            have HT1 : Hid (cb' = 1 → SV w2 (some ⟨bb, bo, none⟩) 0 t) := fun e => by rw [if_pos e, e] at hT; exact hT
            have HT2 : Hid (¬ cb' = 1 → SV w2 (some ⟨bb, bo + 2, none⟩) (cb' - 1) t) := fun e => by rw [if_neg e] at hT; exact hT
            clear hT
            have HJ : Hid (JInv a0 a' (b0 ++ [q]) t (xs ++ [q])) := by
              have h1 := hJ
              rw [HAR.out, HBT.out] at h1
              rw [HAR.out]
              exact h1.right (HAR.out ▸ (List.pairwise_append.1 (EA.out.symm ▸ ha.srt)).2.1) (HBT.out ▸ (List.pairwise_append.1 (EB.out.symm ▸ hb.srt)).2.1) hgt
            have HE := hideP (show (b0 ++ [q]) ++ t = b by rw [← EB.out, HBT.out]; simp)
            have HL : Hid (b'.length - 1 = t.length) := by rw [HBT.out]; rfl
            have hsz2 := hbr.size
            clear HCa HCb hA2 hB2 hA4 hB4 hown0
            go_wp2_with fail
            go_quiet (fail)
            have c1 : (wr.drewN nq).cell? ⟨ab, ao, none⟩ = some (.string p.1) := c1
            have c2 : (wr.drewN nq).cell? ⟨ab, ao + 1, none⟩ = some (.int .i64 p.2) := c2
            have c3 : (wr.drewN nq).cell? ⟨bb, bo, none⟩ = some (.string q.1) := c3
            have c4 : (wr.drewN nq).cell? ⟨bb, bo + 1, none⟩ = some (.int .i64 q.2) := c4
            have hrow : (wr.drewN nq).ownsRow w2.heap.size 65 2 _ xs.length (cellsOf xs) := hrow
            have hbr : Below w2.heap.size w2 (wr.drewN nq) := belowDrewN hbr nq
            have hsz2 : w2.heap.size ≤ (wr.drewN nq).heap.size := hsz2
            generalize wr.drewN nq = wq at c1 c2 c3 c4 hrow hbr hsz2
            go_wp2_with fail
            go_quiet (fail)
            have c1 : (wq.drewN nq).cell? ⟨ab, ao, none⟩ = some (.string p.1) := c1
            have c2 : (wq.drewN nq).cell? ⟨ab, ao + 1, none⟩ = some (.int .i64 p.2) := c2
            have c3 : (wq.drewN nq).cell? ⟨bb, bo, none⟩ = some (.string q.1) := c3
            have c4 : (wq.drewN nq).cell? ⟨bb, bo + 1, none⟩ = some (.int .i64 q.2) := c4
            have hrow : (wq.drewN nq).ownsRow w2.heap.size 65 2 _ xs.length (cellsOf xs) := hrow
            have hbr : Below w2.heap.size w2 (wq.drewN nq) := belowDrewN hbr nq
            have hsz2 : w2.heap.size ≤ (wq.drewN nq).heap.size := hsz2
            generalize wq.drewN nq = wz at c1 c2 c3 c4 hrow hbr hsz2
            obtain ⟨v', w4, hrun, hown', hg', hloc⟩ := app_pairs (wz.alloc (.cells #[.string q.1, .int .i64 q.2] 65)).drew w2.heap.size 58 _ xs (World.ownsRow.alloc hrow _) _ (some ⟨wz.heap.size, 0, none⟩) 1 [q] (PS.one wz q.1 q.2 65) (by have := LX.out; simp; omega) (by show w2.heap.size ≤ (wz.alloc _).heap.size; simp; omega)
            have HR := hideP hrun
            have hb4 : Below w2.heap.size w2 w4 := (hbr.alloc hsz2 _).drew.grown hg' (by show w2.heap.size ≤ (wz.alloc _).heap.size; simp; omega) (fun j hj => (hrow.lt j hj).1)
            clear hrun
            go_wp2_with fail
            go_region_law (refine step_append_run _ rfl _ _ _ _ rfl _ _ rfl rfl _ _ HR.out ?_)
            go_wp2_with fail
            all_goals
              go_roundw
              case rel =>
                first
                  | exact ⟨_, _, _, _, _, ⟨some ⟨ab, ao, none⟩, some ⟨bb, bo, none⟩, ca', 0, a0, a', b0 ++ [q], t, xs ++ [q], EA.out, HE.out, rfl, by rw [HL.out], hA', HT1.out (by assumption), HJ.out, hown', hb4⟩, rfl, rfl, rfl, rfl, rfl⟩
                  | exact ⟨_, _, _, _, _, ⟨some ⟨ab, ao, none⟩, some ⟨bb, bo + 2, none⟩, ca', cb' - 1, a0, a', b0 ++ [q], t, xs ++ [q], EA.out, HE.out, rfl, by rw [HL.out], hA', HT2.out (by assumption), HJ.out, hown', hb4⟩, rfl, rfl, rfl, rfl, rfl⟩
              case measure => simp [sliceLen]; omega
          · have hle := hA'.le
            have hcap := hA'.cap
            unfold maxLen at hcap
            have g1 : (1 : Int) ≤ (a'.length : Int) := by omega
            have g2 : (a'.length : Int) ≤ (ca' : Int) := by omega
            have d1 : (p.1.toList == q.1.toList) = false := by
              rw [beq_eq_false_iff_ne]; intro e; rw [ByteArray.toList_eq, ByteArray.toList_eq] at e; exact ltB_ne hlt (by8_inj e)
            have d2 : Op.bytesLess p.1.toList q.1.toList = true := hlt
            have hT := (show SV w2 (some ⟨ab, ao, none⟩) ca' (p :: r) from HAR.out ▸ hA').tail
            have HT1 : Hid (ca' = 1 → SV w2 (some ⟨ab, ao, none⟩) 0 r) := fun e => by rw [if_pos e, e] at hT; exact hT
            have HT2 : Hid (¬ ca' = 1 → SV w2 (some ⟨ab, ao + 2, none⟩) (ca' - 1) r) := fun e => by rw [if_neg e] at hT; exact hT
            clear hT
            have HJ : Hid (JInv (a0 ++ [p]) r b0 b' (xs ++ [p])) := by
              have h1 := hJ
              rw [HAR.out, HBT.out] at h1
              rw [HBT.out]
              exact h1.left (HAR.out ▸ (List.pairwise_append.1 (EA.out.symm ▸ ha.srt)).2.1) (HBT.out ▸ (List.pairwise_append.1 (EB.out.symm ▸ hb.srt)).2.1) hlt
            have HE := hideP (show (a0 ++ [p]) ++ r = a by rw [← EA.out, HAR.out]; simp)
            have HL : Hid (a'.length - 1 = r.length) := by rw [HAR.out]; rfl
            have hsz2 := hbr.size
            clear HCa HCb hA2 hB2 hA4 hB4 hown0
            go_wp2_with fail
            go_quiet (fail)
            have c1 : (wr.drewN nq).cell? ⟨ab, ao, none⟩ = some (.string p.1) := c1
            have c2 : (wr.drewN nq).cell? ⟨ab, ao + 1, none⟩ = some (.int .i64 p.2) := c2
            have c3 : (wr.drewN nq).cell? ⟨bb, bo, none⟩ = some (.string q.1) := c3
            have c4 : (wr.drewN nq).cell? ⟨bb, bo + 1, none⟩ = some (.int .i64 q.2) := c4
            have hrow : (wr.drewN nq).ownsRow w2.heap.size 65 2 _ xs.length (cellsOf xs) := hrow
            have hbr : Below w2.heap.size w2 (wr.drewN nq) := belowDrewN hbr nq
            have hsz2 : w2.heap.size ≤ (wr.drewN nq).heap.size := hsz2
            generalize wr.drewN nq = wq at c1 c2 c3 c4 hrow hbr hsz2
            go_wp2_with fail
            go_quiet (fail)
            have c1 : (wq.drewN nq).cell? ⟨ab, ao, none⟩ = some (.string p.1) := c1
            have c2 : (wq.drewN nq).cell? ⟨ab, ao + 1, none⟩ = some (.int .i64 p.2) := c2
            have c3 : (wq.drewN nq).cell? ⟨bb, bo, none⟩ = some (.string q.1) := c3
            have c4 : (wq.drewN nq).cell? ⟨bb, bo + 1, none⟩ = some (.int .i64 q.2) := c4
            have hrow : (wq.drewN nq).ownsRow w2.heap.size 65 2 _ xs.length (cellsOf xs) := hrow
            have hbr : Below w2.heap.size w2 (wq.drewN nq) := belowDrewN hbr nq
            have hsz2 : w2.heap.size ≤ (wq.drewN nq).heap.size := hsz2
            generalize wq.drewN nq = wz at c1 c2 c3 c4 hrow hbr hsz2
            obtain ⟨v', w4, hrun, hown', hg', hloc⟩ := app_pairs (wz.alloc (.cells #[.string p.1, .int .i64 p.2] 65)).drew w2.heap.size 58 _ xs (World.ownsRow.alloc hrow _) _ (some ⟨wz.heap.size, 0, none⟩) 1 [p] (PS.one wz p.1 p.2 65) (by have := LX.out; simp; omega) (by show w2.heap.size ≤ (wz.alloc _).heap.size; simp; omega)
            have HR := hideP hrun
            have hb4 : Below w2.heap.size w2 w4 := (hbr.alloc hsz2 _).drew.grown hg' (by show w2.heap.size ≤ (wz.alloc _).heap.size; simp; omega) (fun j hj => (hrow.lt j hj).1)
            clear hrun
            go_wp2_with fail
            go_region_law (refine step_append_run _ rfl _ _ _ _ rfl _ _ rfl rfl _ _ HR.out ?_)
            go_wp2_with fail
            all_goals
              go_roundw
              case rel =>
                first
                  | exact ⟨_, _, _, _, _, ⟨some ⟨ab, ao, none⟩, some ⟨bb, bo, none⟩, 0, cb', a0 ++ [p], r, b0, b', xs ++ [p], HE.out, EB.out, by rw [HL.out], rfl, HT1.out (by assumption), hB', HJ.out, hown', hb4⟩, rfl, rfl, rfl, rfl, rfl⟩
                  | exact ⟨_, _, _, _, _, ⟨some ⟨ab, ao + 2, none⟩, some ⟨bb, bo, none⟩, ca' - 1, cb', a0 ++ [p], r, b0, b', xs ++ [p], HE.out, EB.out, by rw [HL.out], rfl, HT2.out (by assumption), hB', HJ.out, hown', hb4⟩, rfl, rfl, rfl, rfl, rfl⟩
              case measure => simp [sliceLen]; omega
      · have hbn : b' = [] := List.length_eq_zero_iff.1 (by omega)
        have HBN := hideP hbn
        clear hbn
        clear HCa HCb hA2 hB2 hown0
        have hA4 := hA'.below hbr
        have hB4 := hB'.below hbr
        obtain ⟨v', w4, hrun, hown', hg', hloc⟩ := app_pairs wr w2.heap.size 58 _ xs hrow _ A' ca' a' hA4.ps (by have := LX.out; omega) hbr.size
        have HR := hideP hrun
        have hb4 : Below w2.heap.size w2 w4 := hbr.grown hg' hbr.size (fun j hj => (hrow.lt j hj).1)
        have hB5 := hB'.below hb4
        obtain ⟨v5, w5, hrun2, hown5, hg5, _⟩ := app_pairs w4 w2.heap.size 58 _ (xs ++ a') hown' _ B' cb' b' hB5.ps (by have := LX.out; simp; omega) hb4.size
        have HR2 := hideP hrun2
        have hb5 : Below w2.heap.size w2 w5 := hb4.grown hg5 hb4.size (fun j hj => (hown'.lt j hj).1)
        have hfin : RetJoinO w a b (.returned (.tuple #[v5, .int .i64 0])) w5 := by
          obtain ⟨A5, c5, hv5, hov5⟩ := OV.of_own hown5
          have hj := hJ.done (EA.out.symm ▸ ha) (EB.out.symm ▸ hb) (.inr HBN.out)
          rw [EA.out, EB.out] at hj
          exact ⟨.inr ⟨A5, c5, _, by rw [hv5], hov5.mono hbw.size, hj⟩, hbw.trans (hb5.mono hbw.size)⟩
        have HF := hideP hfin
        clear hrun hrun2 hfin hown' hown5 hA4 hB4 hB5 hg' hg5 hloc hJ hrow
        go_wp2_with (at_builtin; first | (refine Lib.wpList_append_run _ rfl _ _ _ _ rfl _ _ rfl rfl _ _ HR.out ?_) | (refine Lib.wpList_append_run _ rfl _ _ _ _ rfl _ _ rfl rfl _ _ HR2.out ?_))
        go_ret2
        exact HF.out
    · have han : a' = [] := List.length_eq_zero_iff.1 (by omega)
      have HAN := hideP han
      clear han
      clear HCa HCb hA2 hB2 hown0
      have hA4 := hA'.below hbr
      have hB4 := hB'.below hbr
      obtain ⟨v', w4, hrun, hown', hg', hloc⟩ := app_pairs wr w2.heap.size 58 _ xs hrow _ A' ca' a' hA4.ps (by have := LX.out; omega) hbr.size
      have HR := hideP hrun
      have hb4 : Below w2.heap.size w2 w4 := hbr.grown hg' hbr.size (fun j hj => (hrow.lt j hj).1)
      have hB5 := hB'.below hb4
      obtain ⟨v5, w5, hrun2, hown5, hg5, _⟩ := app_pairs w4 w2.heap.size 58 _ (xs ++ a') hown' _ B' cb' b' hB5.ps (by have := LX.out; simp; omega) hb4.size
      have HR2 := hideP hrun2
      have hb5 : Below w2.heap.size w2 w5 := hb4.grown hg5 hb4.size (fun j hj => (hown'.lt j hj).1)
      have hfin : RetJoinO w a b (.returned (.tuple #[v5, .int .i64 0])) w5 := by
        obtain ⟨A5, c5, hv5, hov5⟩ := OV.of_own hown5
        have hj := hJ.done (EA.out.symm ▸ ha) (EB.out.symm ▸ hb) (.inl HAN.out)
        rw [EA.out, EB.out] at hj
        exact ⟨.inr ⟨A5, c5, _, by rw [hv5], hov5.mono hbw.size, hj⟩, hbw.trans (hb5.mono hbw.size)⟩
      have HF := hideP hfin
      clear hrun hrun2 hfin hown' hown5 hA4 hB4 hB5 hg' hg5 hloc hJ hrow
      go_wp2_with (at_builtin; first | (refine Lib.wpList_append_run _ rfl _ _ _ _ rfl _ _ rfl rfl _ _ HR.out ?_) | (refine Lib.wpList_append_run _ rfl _ _ _ _ rfl _ _ rfl rfl _ _ HR2.out ?_))
      go_ret2
      exact HF.out
theorem join_ok (A B : Option Addr) (ca cb : Nat) (a b : List Pr) (w : World) (hA : SV w A ca a) (hB : SV w B cb b) (ha : Ok a) (hb : Ok b) (hsz : (a.length + b.length) * 24 ≤ 140737488355328) :
    Calls Tryz.prog 101 #[.slice A a.length ca, .slice B b.length cb] w (RetJoin w a b) := by
  refine (join_own A B ca cb a b w hA hB ha hb hsz).mono ?_
  rintro e w' ⟨h, hb⟩
  exact ⟨h.imp id fun ⟨A, c, l, h1, h2, h3⟩ => ⟨A, c, l, h1, h2.sv, h3⟩, hb⟩
end Go.Proofs.YtmepmiokpcddbabGreatDoor

set_option linter.unusedVariables false
set_option linter.unusedSimpArgs false
namespace Go.Proofs.YtmepmiokpcddbabGreatDoor
open Go.RowKit

/-- the parts of the owners so far, joined -/
theorem all_join {cs : List ByteArray} {os : List Int} {l y : List Pr} {n : Int} (h : Ok l) (hj : Joined (upL cs os n l) (ptL cs os n l) y) : y = upL cs os (n + 1) l :=
  hj.ok.one_ (upL_ok h _) fun p => by rw [hj.mem, up_mem]
def AlI (w : World) (m : Mp) (l : List Pr) (v i : Value) (wr : World) : Prop :=
  ∃ (k : Nat) (A : Option Addr) (c : Nat), k ≤ 4 ∧ i = .int .i64 k ∧ v = .slice A (upL m.cs m.os (k : Int) l).length c ∧ OV wr w.heap.size A c (upL m.cs m.os (k : Int) l) ∧ Below w.heap.size w wr

set_option maxHeartbeats 1000000 in
set_option maxRecDepth 100000 in
theorem all_ok (B g : Nat) (m : Mp) (l : List Pr) (q : Dv) (w : World) (h : PB w B g m l q) :
    Calls Tryz.prog 59 #[.pointer (some ⟨g, 0, none⟩)] w fun e w' => ∃ A c, e = .returned (.slice A l.length c) ∧ OV w' w.heap.size A c l ∧ Below w.heap.size w w' := by
  have p0 : w.cell? ⟨g, 2, none⟩ = some (q.s m.cs m.os l 0) := h.box.cell 2 rfl
  have p1 : w.cell? ⟨g, 3, none⟩ = some (q.s m.cs m.os l 1) := h.box.cell 3 rfl
  have p2 : w.cell? ⟨g, 4, none⟩ = some (q.s m.cs m.os l 2) := h.box.cell 4 rfl
  have p3 : w.cell? ⟨g, 5, none⟩ = some (q.s m.cs m.os l 3) := h.box.cell 5 rfl
  have hsm := h.ok.small
  go_enter Tryz.func59, Tryz.ntmps59
  go_wp2_with fail
  go_loopw [3, 10] (AlI w m l) (fun _ i _ => 4 - (intOf i).toNat)
  case atStart => exact ⟨0, none, 0, by omega, rfl, by rw [show ((0 : Nat) : Int) = 0 from rfl, upL_zero h.okm]; rfl, by rw [show ((0 : Nat) : Int) = 0 from rfl, upL_zero h.okm]; exact World.ownsRow_nil _ _ _ _, Below.refl _ _⟩
  case round =>
    obtain ⟨k, A, c, hk, rfl, rfl, hov, hb⟩ := hrel
    by_cases hk4 : k < 4
    · have HJ : Hid (Calls Tryz.prog 101 #[.slice A (upL m.cs m.os (k : Int) l).length c, q.s m.cs m.os l k] wr fun e w' => ∃ A' c', e = .returned (.tuple #[.slice A' (upL m.cs m.os ((k + 1 : Nat) : Int) l).length c', .int .i64 0]) ∧ OV w' w.heap.size A' c' (upL m.cs m.os ((k + 1 : Nat) : Int) l) ∧ Below w.heap.size w w') := hideP (by
        have hu : (upL m.cs m.os (k : Int) l).length ≤ l.length := List.length_filter_le _ _
        have hp : (ptL m.cs m.os (k : Int) l).length ≤ l.length := List.length_filter_le _ _
        refine (join_own A (q.A k) c (q.c k) _ _ wr hov.sv ((h.own k hk4).below hb |>.sv) (upL_ok h.ok _) (ptL_ok h.ok _) (by omega)).mono ?_
        rintro e w1 ⟨hor, hb1⟩
        rcases hor with ⟨hna, _⟩ | ⟨A1, c1, y, rfl, hy, hj⟩
        · exact absurd (show Apart _ _ from up_apart (k : Int)) hna
        · have e := all_join h.ok hj
          rw [show ((k + 1 : Nat) : Int) = (k : Int) + 1 by omega, ← e]
          exact ⟨A1, c1, rfl, hy.mono hb.size, hb.trans (hb1.mono hb.size)⟩)
      have HI := hideP (fun (A' : Option Addr) (c' : Nat) (w' : World) (h1 : OV w' w.heap.size A' c' (upL m.cs m.os ((k + 1 : Nat) : Int) l)) (h2 : Below w.heap.size w w') (i : Value) (hi : i = .int .i64 ((k + 1 : Nat) : Int)) => show AlI w m l (.slice A' (upL m.cs m.os ((k + 1 : Nat) : Int) l).length c') i w' from ⟨k + 1, A', c', by omega, hi, rfl, h1, h2⟩)
      generalize upL m.cs m.os (k : Int) l = up at HJ ⊢
      generalize upL m.cs m.os ((k + 1 : Nat) : Int) l = nx at HJ HI
      have ix := fun w => idx4 q m.cs m.os l hk4 w
      have g1 : (k : Int) < 4 := by omega
      obtain ⟨ak, nk, ck, ek⟩ : ∃ a n c, q.s m.cs m.os l k = .slice a n c := ⟨_, _, _, rfl⟩
      rw [ek] at ix HJ
      clear h hov hb p0 p1 p2 p3 ek
      go_wp2_with fail
      refine HJ.out.mono ?_
      rintro e w1 ⟨A1, c1, rfl, ho1, hb1⟩
      go_wp2_with fail
      go_roundw
      case rel => exact HI.out _ _ _ ho1 hb1 _ (by go_num)
      case measure => simp [intOf]; omega
    · have hk5 : k = 4 := by omega
      have e4 : upL m.cs m.os (k : Int) l = l := by rw [hk5]; exact upL_all h.okm
      rw [e4] at hov ⊢
      clear e4 hk5
      have g4 : ¬ (k : Int) < 4 := by omega
      go_wp2_with fail
      go_ret
      exact ⟨A, c, rfl, hov, hb⟩
end Go.Proofs.YtmepmiokpcddbabGreatDoor
