/-
  roref.SameEntry.
  slices.EqualFunc of entries by roref.SameEntry.
  rokeep.MergeGrows: the walk.
-/
import Derived.Test.YtcjfkbponikadaaBq3
import Derived.Test.YtcjfkbponikadaaBq25
import Derived.Test.YtcjfkbponikadaaBq4
import Derived.Test.YtcjfkbponikadaaBq23
import Derived.Test.YtcjfkbponikadaaBq24
set_option linter.unusedVariables false
set_option linter.unusedSimpArgs false
namespace Go.Proofs.Ytcjfkbponikadaa
open Go.RowKit

/-- are two entries the same? -/
noncomputable def sameE (x y : Em) : Bool := (x.isM == y.isM) && (sameB x.d y.d && (decide (x.m.cs = y.m.cs) && decide (x.m.os = y.m.os)))
set_option maxHeartbeats 2000000 in
set_option maxRecDepth 100000 in
theorem sameent_any (x y : Em) (w : World) (hx : ES w x) (hy : ES w y) (hl : x.d.length < 4611686018427387904) :
    Calls Try.prog 13 #[emV x, emV y] w fun e w' => e = .returned (.bool (sameE x y)) ∧ Below w.heap.size w w' := by
  have b0 := ((Below.refl w.heap.size w).alloc (Nat.le_refl _) (.cells (emC x) 43)).alloc (by simp) (.cells (emC y) 43)
  have x0 := (Box.new w 43 (emC x)).alloc (.cells (emC y) 43)
  have x1 := Box.new (w.alloc (.cells (emC x) 43)) 43 (emC y)
  simp only [World.size_alloc] at x1
  have hx1 := hx.below b0
  have hy1 := hy.below b0
  have HS := hideP (fun W (h1 : ES W x) (h2 : ES W y) => samedeed_any x.D y.D x.c y.c x.d y.d W h1.ops h2.ops hl)
  have HM := hideP (fun W (h1 : ES W x) (h2 : ES W y) => samemap_any x.m y.m W h1.map h2.map)
  generalize hs : sameE x y = sq
  unfold sameE at hs
  have HE : Hid (_ = sq) := hideP hs
  clear hs hx hy
  generalize sameB x.d y.d = q1 at HS HE
  generalize (decide (x.m.cs = y.m.cs) && decide (x.m.os = y.m.os)) = q2 at HM HE
  unfold emV
  have c0 := x0.cell 0 (v := .slice x.D x.d.length x.c) rfl
  have c1 := x0.cell 1 (v := .bool x.isM) rfl
  have c2 := x0.cell 2 (v := .slice x.m.A x.m.cs.length x.m.ca) rfl
  have c3 := x0.cell 3 (v := .slice x.m.O x.m.os.length x.m.co) rfl
  have d0 := x1.cell 0 (v := .slice y.D y.d.length y.c) rfl
  have d1 := x1.cell 1 (v := .bool y.isM) rfl
  have d2 := x1.cell 2 (v := .slice y.m.A y.m.cs.length y.m.ca) rfl
  have d3 := x1.cell 3 (v := .slice y.m.O y.m.os.length y.m.co) rfl
  unfold emC at *
  go_enter Try.func13, Try.ntmps13
  generalize hq0 : (x.isM == y.isM) = q0 at HE
  have k0 := x0.lt
  have k1 := x1.lt
  cases q0
  · have HR := hideP (show sq = false by rw [← HE.out]; rfl)
    clear HE HS HM
    go_wp2_with fail
    go_ret
    exact ⟨by rw [HR.out]; rfl, b0⟩
  · go_wp2_with fail
    refine (HS.out _ hx1 hy1).mono ?_
    rintro e w2 ⟨rfl, hb2⟩
    have b2 := b0.trans (hb2.mono b0.size)
    have x02 := x0.below hb2
    have x12 := x1.below hb2
    have hx2 := hx1.below hb2
    have hy2 := hy1.below hb2
    clear HS c0 c1 c2 c3 d0 d1 d2 d3
    have c2 := x02.cell 2 (v := .slice x.m.A x.m.cs.length x.m.ca) rfl
    have c3 := x02.cell 3 (v := .slice x.m.O x.m.os.length x.m.co) rfl
    have d2 := x12.cell 2 (v := .slice y.m.A y.m.cs.length y.m.ca) rfl
    have d3 := x12.cell 3 (v := .slice y.m.O y.m.os.length y.m.co) rfl
    cases q1
    · have HR := hideP (show sq = false by rw [← HE.out]; rfl)
      clear HE HM
      go_wp2_with fail
      go_ret
      exact ⟨by rw [HR.out]; rfl, b2⟩
    · have HR := hideP (show sq = q2 by rw [← HE.out]; rfl)
      clear HE
      have HM2 := hideP (HM.out w2 hx2 hy2)
      clear HM
      go_wp2_with fail
      refine HM2.out.mono ?_
      rintro e w3 ⟨rfl, hb3⟩
      have b3 := b2.trans (hb3.mono b2.size)
      go_wp2_with fail
      go_ret
      exact ⟨by rw [HR.out]; rfl, b3⟩
end Go.Proofs.Ytcjfkbponikadaa

set_option linter.unusedVariables false
set_option linter.unusedSimpArgs false
namespace Go.Proofs.Ytcjfkbponikadaa
open Go.RowKit

theorem sameE_iff {x y : Em} : sameE x y = true ↔ entOf x = entOf y := by
  obtain ⟨D, c, d, isM, ⟨A, ca, cs, O, co, os⟩⟩ := x
  obtain ⟨D', c', d', isM', ⟨A', ca', cs', O', co', os'⟩⟩ := y
  unfold sameE sameB entOf
  simp only [Bool.and_eq_true, beq_iff_eq, decide_eq_true_eq, Ent.mk.injEq]
/-- do two lists read alike? -/
noncomputable def sameL (l m : List Em) : Bool := @decide (l.map entOf = m.map entOf) (Classical.propDecidable _)
theorem sameL_true {l m : List Em} (h : l.map entOf = m.map entOf) : sameL l m = true := by unfold sameL; exact @decide_eq_true _ (Classical.propDecidable _) h
theorem sameL_false {l m : List Em} (h : l.map entOf ≠ m.map entOf) : sameL l m = false := by unfold sameL; exact @decide_eq_false _ (Classical.propDecidable _) h
set_option maxHeartbeats 2000000 in
set_option maxRecDepth 100000 in
theorem eqfE_any (A1 A2 : Option Addr) (c1 c2 : Nat) (l m : List Em) (w : World) (h1 : EL w A1 l) (h2 : EL w A2 m) (hl : ∀ x ∈ l, x.d.length < 4611686018427387904) (hll : l.length < 4611686018427387904) :
    Calls Try.prog 12 #[.slice A1 l.length c1, .slice A2 m.length c2, .func (.func 13) #[] #[]] w fun e w' => e = .returned (.bool (sameL l m)) ∧ Below w.heap.size w w' := by
  by_cases hlen : l.length = m.length
  · have d0 : ((l.length : Int) != (m.length : Int)) = false := by simp [hlen]
    have HLE := hideP hlen
    clear hlen
    go_enter Try.func12, Try.ntmps12
    go_wp2_with fail
    go_loopw [17] (fun i wr => ∃ k : Nat, k ≤ l.length ∧ i = .int .i64 k ∧ (l.take k).map entOf = (m.take k).map entOf ∧ Below w.heap.size w wr) (fun i _ => l.length - (intOf i).toNat)
    case atStart => exact ⟨0, Nat.zero_le _, rfl, rfl, Below.refl _ _⟩
    case round =>
      obtain ⟨k, hk, rfl, heq, hb⟩ := hrel
      have HEQ := hideP heq
      clear heq
      by_cases hlt : k < l.length
      · have hlm : k < m.length := by rw [← HLE.out]; exact hlt
        have e1 := h1.below hb
        have e2 := h2.below hb
        obtain ⟨b1, o1, hA1, hb1, p0, p1, p2, p3⟩ := e1.cells k l[k] (List.getElem?_eq_getElem hlt)
        obtain ⟨b2, o2, hA2, hb2, q0, q1, q2, q3⟩ := e2.cells k m[k] (List.getElem?_eq_getElem hlm)
        have hx := e1.es _ (List.getElem_mem hlt)
        have hy := e2.es _ (List.getElem_mem hlm)
        have hxl := hl _ (List.getElem_mem hlt)
        subst hA1
        subst hA2
        have HT := hideP (fun (h : entOf l[k] = entOf m[k]) => show (l.take (k + 1)).map entOf = (m.take (k + 1)).map entOf by
          rw [List.take_succ_eq_append_getElem hlt, List.take_succ_eq_append_getElem hlm, List.map_append, List.map_append, HEQ.out]; simp [h])
        have HF := hideP (fun (h : entOf l[k] ≠ entOf m[k]) => show sameL l m = false from sameL_false fun e => h (by
          have := congrArg (fun z => z[k]?) e
          simp only [List.getElem?_map, List.getElem?_eq_getElem hlt, List.getElem?_eq_getElem hlm, Option.map_some, Option.some.injEq] at this
          exact this))
        generalize l[k] = x at p0 p1 p2 p3 hx hxl HT HF
        generalize m[k] = y at q0 q1 q2 q3 hy HT HF
        have al := ((Below.refl wr.heap.size wr).alloc (Nat.le_refl _) (.cells (emC x) 43)).alloc (by simp) (.cells (emC y) 43)
        have bE := hb.trans (al.mono hb.size)
        have x0 := (Box.new wr 43 (emC x)).alloc (.cells (emC y) 43)
        have x1 := Box.new (wr.alloc (.cells (emC x) 43)) 43 (emC y)
        simp only [World.size_alloc] at x1
        have HS := hideP (sameent_any x y _ (hx.below al) (hy.below al) hxl)
        have c0 := x0.cell 0 (v := .slice x.D x.d.length x.c) rfl
        have c1 := x0.cell 1 (v := .bool x.isM) rfl
        have c2 := x0.cell 2 (v := .slice x.m.A x.m.cs.length x.m.ca) rfl
        have c3 := x0.cell 3 (v := .slice x.m.O x.m.os.length x.m.co) rfl
        have d0 := x1.cell 0 (v := .slice y.D y.d.length y.c) rfl
        have d1 := x1.cell 1 (v := .bool y.isM) rfl
        have d2 := x1.cell 2 (v := .slice y.m.A y.m.cs.length y.m.ca) rfl
        have d3 := x1.cell 3 (v := .slice y.m.O y.m.os.length y.m.co) rfl
        have g1 : (0 : Int) ≤ (k : Int) := by omega
        have g2 : (k : Int) < (l.length : Int) := by omega
        have g3 : (k : Int) < (m.length : Int) := by omega
        clear h1 h2 e1 e2 hx hy al x0 x1 HLE hl hxl
        unfold emV at HS
        unfold emC at HS c0 c1 c2 c3 d0 d1 d2 d3 bE
        go_wp2_with fail
        refine HS.out.mono ?_
        clear HS
        rintro e w2 ⟨rfl, hbn⟩
        have b2 := bE.trans (hbn.mono bE.size)
        cases hs : sameE x y
        · have HR := hideP (HF.out fun e => by rw [sameE_iff.2 e] at hs; cases hs)
          clear hs
          go_wp2_with fail
          go_ret
          exact ⟨by rw [HR.out]; rfl, b2⟩
        · have HR := hideP (HT.out (sameE_iff.1 hs))
          clear hs
          go_wp2_with fail
          go_roundw
          case rel => exact ⟨k + 1, by omega, by go_num, HR.out, b2⟩
          case measure => simp [intOf]; omega
      · have HR := hideP (show sameL l m = true from sameL_true (by have := HEQ.out; rw [List.take_of_length_le (by omega), List.take_of_length_le (by have := HLE.out; omega)] at this; exact this))
        go_wp2_with fail
        go_ret
        exact ⟨by rw [HR.out]; rfl, hb⟩
  · have d0 : ((l.length : Int) != (m.length : Int)) = true := by simp; omega
    have HR := hideP (show sameL l m = false from sameL_false fun e => hlen (by have := congrArg List.length e; simpa using this))
    clear hlen
    go_enter Try.func12, Try.ntmps12
    go_wp2_with fail
    go_ret
    exact ⟨by rw [HR.out]; rfl, Below.refl _ _⟩
end Go.Proofs.Ytcjfkbponikadaa

set_option linter.unusedVariables false
set_option linter.unusedSimpArgs false
namespace Go.Proofs.Ytcjfkbponikadaa
open Go.RowKit

section
variable {α : Type}
/-- whatever comes, the log grows -/
theorem run_grow (acts : List (Nat × Option α)) : ∀ ct : List (List (List α)), ∃ m, logM (runM ct acts) = logM ct ++ m ∧ rndM ct ≤ rndM (runM ct acts) ∧ (rndM (runM ct acts) = rndM ct → m = []) := by
  induction acts with
  | nil => intro ct; exact ⟨[], by simp [runM], Nat.le_refl _, fun _ => rfl⟩
  | cons a r ih =>
    intro ct
    obtain ⟨m, h1, h2, h3⟩ := ih (stM ct a)
    have e : runM ct (a :: r) = runM (stM ct a) r := rfl
    rw [e]
    obtain ⟨i, v⟩ := a
    cases v with
    | some x =>
      rw [stM_add, log_add] at h1
      rw [stM_add, rnd_add] at h2 h3
      exact ⟨m, h1, h2, h3⟩
    | none =>
      obtain ⟨m', h4, h5⟩ := log_close ct i
      have h6 := rnd_close ct i
      rw [stM_close] at h1 h2 h3 ⊢
      refine ⟨m' ++ m, by rw [h1, h4, List.append_assoc], Nat.le_trans h6 h2, fun hr => ?_⟩
      rw [h3 (by omega), h5 (by omega)]; rfl
theorem log_mem {ct : List (List (List α))} {e : α} (h : e ∈ logM ct) : ∃ b ∈ ct, ∃ l ∈ b, e ∈ l := by
  unfold logM logUp at h
  obtain ⟨l, hl, he⟩ := List.mem_flatten.1 h
  obtain ⟨r, _, rfl⟩ := List.mem_map.1 hl
  unfold roundL at he
  obtain ⟨l, hl, he⟩ := List.mem_flatten.1 he
  obtain ⟨b, hb, rfl⟩ := List.mem_map.1 hl
  cases e2 : b[r]? with
  | none => rw [e2] at he; simp at he
  | some l => rw [e2] at he; exact ⟨b, hb, l, List.mem_of_getElem? e2, he⟩
end
theorem sum_le {β : Type} (l : List β) (f g : β → Nat) (h : ∀ x ∈ l, f x ≤ g x) : (l.map f).sum ≤ (l.map g).sum := by
  induction l with
  | nil => exact Nat.le_refl _
  | cons a l ih =>
    have h1 := h a (by simp)
    have h2 := ih fun x hx => h x (by simp [hx])
    simp; omega
theorem round_len {α : Type} (ct : List (List (List α))) (r : Nat) : (roundL ct r).length ≤ totM ct := by
  unfold roundL totM
  rw [List.length_flatten, List.map_map]
  refine sum_le ct _ _ fun b _ => ?_
  simp only [Function.comp_apply]
  cases e : b[r]? with
  | none => simp
  | some l => exact mem_sum (List.mem_map_of_mem (List.mem_of_getElem? e))
theorem log_len {α : Type} (ct : List (List (List α))) : (logM ct).length ≤ 60 * totM ct := by
  have h : ∀ R, (logUp ct R).length ≤ R * totM ct := fun R => by
    induction R with
    | zero => simp [logUp]
    | succ R ih =>
      rw [logUp_succ, List.length_append, Nat.succ_mul]
      have := round_len ct R
      omega
  exact Nat.le_trans (h _) (Nat.mul_le_mul_right _ (rnd_60 ct))
theorem Ms.Ok.log_chk {s : Ms} {w : World} {B : Nat} (h : s.Ok w B) {e : Ent} (he : e ∈ logM s.ct) : chkE e = 0 := by
  obtain ⟨b, hb, l, hl, he⟩ := log_mem he
  obtain ⟨x, hx, rfl⟩ := List.mem_map.1 hb
  obtain ⟨t, ht, rfl⟩ := List.mem_map.1 hl
  obtain ⟨y, hy, rfl⟩ := List.mem_map.1 he
  obtain ⟨i, hi⟩ := List.mem_iff_getElem?.1 hx
  obtain ⟨k, hk⟩ := List.mem_iff_getElem?.1 ht
  exact (h.mg.good i x k t hi hk y hy).1
theorem Ms.Ok.log_few {s : Ms} {w : World} {B : Nat} (h : s.Ok w B) {xs : List Em} (he : xs.map entOf = logM s.ct) (hm : ∀ x ∈ xs, chkE (entOf x) = 0 → dropE (entOf x) = entOf x) : ∀ x ∈ xs, x.d.length < 4611686018427387904 := fun x hx => by
  have h1 := h.log_chk (e := entOf x) (by rw [← he]; exact List.mem_map_of_mem hx)
  have h2 := hm x hx h1
  obtain ⟨D, c, d, isM, m⟩ := x
  cases isM
  · have := (chkD_zero.1 (show chkD d = 0 from h1)).2.1
    simp only; omega
  · have : ([] : List Opr) = d := congrArg Ent.d h2
    simp only; rw [← this]; simp
theorem Ms.Ok.log_drop {s : Ms} {w : World} {B : Nat} (h : s.Ok w B) {e : Ent} (he : e ∈ logM s.ct) : dropE e = e := by
  obtain ⟨b, hb, l, hl, he⟩ := log_mem he
  obtain ⟨x, hx, rfl⟩ := List.mem_map.1 hb
  obtain ⟨t, ht, rfl⟩ := List.mem_map.1 hl
  obtain ⟨y, hy, rfl⟩ := List.mem_map.1 he
  obtain ⟨i, hi⟩ := List.mem_iff_getElem?.1 hx
  obtain ⟨k, hk⟩ := List.mem_iff_getElem?.1 ht
  exact (h.mg.good i x k t hi hk y hy).2
theorem slice_uptoE (T : Option Addr) (n ct m : Nat) (hm : m ≤ ct) (hn : T = none → ct = 0) (w : World) : (Instr.slice 29 (.slice T n ct) none (some (.int .i64 (m : Int))) none).run Try.prog w = .ok (.slice T m ct) w := by
  have g1 : (0 : Int) ≤ (m : Int) := by omega
  have g2 : (m : Int) ≤ (ct : Int) := by omega
  cases T with
  | none =>
    obtain rfl := hn rfl
    obtain rfl : m = 0 := by omega
    clear hn hm
    go_simp
  | some a =>
    clear hn hm
    go_simp
theorem slice_oneE (b o n ct i : Nat) (hi : i < n) (hc : n ≤ ct) (w : World) : (Instr.slice 29 (.slice (some ⟨b, o, none⟩) n ct) (some (.int .i64 (i : Int))) (some (.int .i64 ((i : Int) + 1))) none).run Try.prog w = .ok (.slice (some ⟨b, o + i * 4, none⟩) 1 (ct - i)) w := by
  have g0 : (0 : Int) ≤ (i : Int) := by omega
  have g1 : (i : Int) ≤ (i : Int) + 1 := by omega
  have g2 : (i : Int) + 1 ≤ (ct : Int) := by omega
  have e : ¬ ct = i := by omega
  have g3 : ((i : Int) + 1).toNat = i + 1 := by omega
  have g4 : i + 1 - i = 1 := by omega
  clear hi hc
  go_simp
theorem slice_oneR (b o n ct i : Nat) (hi : i < n) (hc : n ≤ ct) (w : World) : (Instr.slice 22 (.slice (some ⟨b, o, none⟩) n ct) (some (.int .i64 (i : Int))) (some (.int .i64 ((i : Int) + 1))) none).run Try.prog w = .ok (.slice (some ⟨b, o + i, none⟩) 1 (ct - i)) w := by
  have g0 : (0 : Int) ≤ (i : Int) := by omega
  have g1 : (i : Int) ≤ (i : Int) + 1 := by omega
  have g2 : (i : Int) + 1 ≤ (ct : Int) := by omega
  have e : ¬ ct = i := by omega
  have g3 : ((i : Int) + 1).toNat = i + 1 := by omega
  have g4 : i + 1 - i = 1 := by omega
  clear hi hc
  go_simp
theorem EL.one_ {w : World} {b o : Nat} {l : List Em} (h : EL w (some ⟨b, o, none⟩) l) {i : Nat} (hi : i < l.length) : EL w (some ⟨b, o + i * 4, none⟩) [l[i]] := by
  refine ⟨fun j x hj => ?_, fun x hx => by rw [List.mem_singleton] at hx; subst hx; exact h.es _ (List.getElem_mem hi)⟩
  match j with
  | 0 =>
    simp at hj
    subst hj
    obtain ⟨b', o', e, hlt, h1, h2, h3, h4⟩ := h.cells i _ (List.getElem?_eq_getElem hi)
    injection e with e
    injection e with e1 e2 _
    subst e1; subst e2
    exact ⟨_, _, rfl, hlt, by simpa using h1, by simpa using h2, by simpa using h3, by simpa using h4⟩
  | j + 1 => simp at hj
theorem LS.one_ {w : World} {b o : Nat} {l : List Cl} (h : LS w (some ⟨b, o, none⟩) l) {i : Nat} (hi : i < l.length) : LS w (some ⟨b, o + i, none⟩) [l[i]] := by
  refine ⟨fun j x hj => ?_, fun x hx => by rw [List.mem_singleton] at hx; subst hx; exact h.is_ _ (List.getElem_mem hi)⟩
  match j with
  | 0 =>
    simp at hj
    subst hj
    obtain ⟨b', o', e, hlt, h1⟩ := h.vs i (clV l[i]) (by simp [hi])
    injection e with e
    injection e with e1 e2 _
    subst e1; subst e2
    exact ⟨_, _, rfl, hlt, by simpa using h1⟩
  | j + 1 => simp at hj
end Go.Proofs.Ytcjfkbponikadaa
