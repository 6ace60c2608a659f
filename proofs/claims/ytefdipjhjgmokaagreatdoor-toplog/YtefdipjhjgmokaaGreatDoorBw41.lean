/-
  text.ReadEntry: what it reads.
  Logs as text, plainly (no program in it).
  What Log answers, plainly (no program in it).
  text.Log: what it answers.
-/
import Derived.Test.YtefdipjhjgmokaaGreatDoorBw40
import Derived.Test.YtefdipjhjgmokaaGreatDoorBw37
import Derived.Lib.ItoaLen
import Derived.Test.YtefdipjhjgmokaaGreatDoorBw3
set_option linter.unusedVariables false
set_option linter.unusedSimpArgs false
namespace Go.Proofs.YtefdipjhjgmokaaGreatDoor
open Go.RowKit
open Go.Lib hiding intOf

/-- what ReadEntry hands back -/
def RetRe (w : World) (l : List UInt8) (e : Ending) (w' : World) : Prop :=
  ∃ x : Em, e = .returned (.tuple #[emV x, .int .i64 ((rdE l).2.2 : Nat), .int .i64 (rdE l).1]) ∧ (rdE l).2.1 = entOf x ∧ (∀ o ∈ x.d, -9223372036854775808 ≤ o.n ∧ o.n ≤ 9223372036854775807) ∧ EO w' w.heap.size x ∧ Below w.heap.size w w'
theorem last_cases (l : List UInt8) : lastIndex l [32] = -1 ∨ ∃ n : Nat, n < l.length ∧ lastIndex l [32] = n := by
  rcases at_last 32 l with h | ⟨a, r, rfl, h⟩
  · exact .inl (last_no h)
  · exact .inr ⟨a.length, by simp, last_hit h⟩
theorem ext_take1 (s : ByteArray) (n : Nat) : (s.extract 0 n).data.toList = s.data.toList.take n := extract_from_zero s n
theorem ext_drop1 (s : ByteArray) (n : Nat) : (s.extract n s.size).data.toList = s.data.toList.drop n := by rw [extract_to_end]
set_option maxHeartbeats 4000000 in
set_option maxRecDepth 100000 in
theorem rdentry_any (s : ByteArray) (w : World) (hg : Gl w) (hs : s.size < 4294967281) :
    Calls Tryz.prog 32 #[.string s] w (RetRe w s.data.toList) := by
  have b0 := (Below.refl w.heap.size w).alloc (Nat.le_refl _) (.cells #[.slice none 0 0, .bool false, .slice none 0 0, .slice none 0 0] 42)
  have x0 := Box.new w 42 #[.slice none 0 0, .bool false, .slice none 0 0, .slice none 0 0]
  have hg1 := hg.below b0
  have HC := hideP (cut_any s 10 (w.alloc (.cells #[.slice none 0 0, .bool false, .slice none 0 0, .slice none 0 0] 42)) (by omega))
  have HE := hideP (show rdE s.data.toList = if (cut s.data.toList [10]).2.2 = false then (7, ent0, 0) else if (prL (cut s.data.toList [10]).1).1 = 0 then (0, (prL (cut s.data.toList [10]).1).2, (cut s.data.toList [10]).1.length + 1) else ((prL (cut s.data.toList [10]).1).1, ent0, 0) from rfl)
  have hll : (cut s.data.toList [10]).1.length ≤ s.size := by
    have hsl : s.data.toList.length = s.size := by simp
    rcases cut_cases 10 s.data.toList with ⟨_, e⟩ | ⟨a, r, e1, _, e⟩
    · rw [e]; simp only; omega
    · rw [e]; simp only; have := congrArg List.length e1; simp at this; omega
  generalize cut s.data.toList [10] = ct at HC HE hll
  obtain ⟨l, rest, ended⟩ := ct
  simp only at HC HE hll
  go_enter Tryz.func32, Tryz.ntmps32
  go_wp2_with fail
  refine HC.out.mono ?_
  clear HC
  generalize w.alloc _ = w1 at b0 x0 hg1 ⊢
  rintro e w2 ⟨rfl, hb2⟩
  have b2 := b0.trans (hb2.mono b0.size)
  have x2 := x0.below hb2
  have hg2 := hg1.below hb2
  clear b0 x0 hg1 hb2 hg
  have hlz : (bs l).size ≤ s.size := by rw [bs_size]; exact hll
  have HLD := hideP (bs_data l)
  have HLN := hideP (bs_size l)
  generalize bs l = li at hlz HLD HLN ⊢
  generalize bs rest = re at ⊢
  cases ended
  · have HV := hideP (show rdE s.data.toList = (7, ent0, 0) by rw [HE.out]; rfl)
    clear HE
    obtain ⟨⟨c0, c1, c2, c3⟩, ⟨f0, f1, f2, f3⟩, R⟩ := box_four x2 (.slice none 0 0) (.bool false) (.slice none 0 0) (.slice none 0 0)
    have r0 := R.cell 0 rfl
    have r1 := R.cell 1 rfl
    have r2 := R.cell 2 rfl
    have r3 := R.cell 3 rfl
    have HF := hideP (eo_four (w := w) (x := em0) x2 (Nat.le_refl _) (em0_eo _ _) b2 (.slice none 0 0) (.bool false) (.slice none 0 0) (.slice none 0 0))
    clear R x2 b2
    go_wp2_with fail
    exact bodyPost_ret (v := .tuple #[emV em0, .int .i64 0, .int .i64 7]) (by simp [results, Tryz.results32, go_sem, r0, r1, r2, r3, emV, emC, em0, noM]) rfl ⟨em0, by rw [HV.out]; rfl, by rw [HV.out]; rfl, by simp [em0], HF.out.1, HF.out.2⟩
  · have HE2 := hideP (show rdE s.data.toList = if (prL l).1 = 0 then (0, (prL l).2, l.length + 1) else ((prL l).1, ent0, 0) by rw [HE.out]; rfl)
    clear HE
    have HL := hideP (Any.strings_LastIndex (P := Tryz.prog) (ρ := Tryz.lastL_ren) Tryz.lastL li ⟨#[32]⟩ (by omega) w2)
    rw [HLD.out] at HL
    have HL' := hideP (show Calls Tryz.prog 96 #[.string li, .string ⟨#[32]⟩] w2 fun e w' => e = .returned (.int .i64 (lastIndex l [32])) ∧ w' = w2 from HL.out)
    clear HL
    have HP := hideP (show prL l = if lastIndex l [32] < 0 then (9, ent0) else match rdN (l.drop ((lastIndex l [32]).toNat + 1)) with
      | none => (9, ent0)
      | some n => if n ≠ (sm (l.take (lastIndex l [32]).toNat) : Int) then (8, ent0) else rdB (l.take (lastIndex l [32]).toNat) from rfl)
    rcases last_cases l with hz | ⟨n, hn, hz⟩
    · rw [hz] at HL' HP
      have HV := hideP (show rdE s.data.toList = (9, ent0, 0) by rw [HE2.out, HP.out]; rfl)
      clear HE2 HP hz
      go_wp2_with fail
      refine HL'.out.mono ?_
      rintro e w3 ⟨rfl, hw⟩
      rw [hw]
      clear hw HL'
      obtain ⟨⟨c0, c1, c2, c3⟩, ⟨f0, f1, f2, f3⟩, R⟩ := box_four x2 (.slice none 0 0) (.bool false) (.slice none 0 0) (.slice none 0 0)
      have r0 := R.cell 0 rfl
      have r1 := R.cell 1 rfl
      have r2 := R.cell 2 rfl
      have r3 := R.cell 3 rfl
      have HF := hideP (eo_four (w := w) (x := em0) x2 (Nat.le_refl _) (em0_eo _ _) b2 (.slice none 0 0) (.bool false) (.slice none 0 0) (.slice none 0 0))
      clear R x2 b2
      go_wp2_with fail
      exact bodyPost_ret (v := .tuple #[emV em0, .int .i64 0, .int .i64 9]) (by simp [results, Tryz.results32, go_sem, r0, r1, r2, r3, emV, emC, em0, noM]) rfl ⟨em0, by rw [HV.out]; rfl, by rw [HV.out]; rfl, by simp [em0], HF.out.1, HF.out.2⟩
    · rw [hz] at HL' HP
      have hnz : ((n : Int)).toNat = n := by omega
      rw [if_neg (by omega), hnz] at HP
      have hnl : n < li.size := by rw [HLN.out]; exact hn
      have K1 := hideP (show (li.extract 0 n).data.toList = l.take n by rw [ext_take1, HLD.out])
      have K2 := hideP (show (li.extract (n + 1) li.size).data.toList = l.drop (n + 1) by rw [ext_drop1, HLD.out])
      have K3 : (li.extract 0 n).size ≤ s.size := by
        have : (li.extract 0 n).data.toList.length = (li.extract 0 n).size := by simp
        rw [K1.out, List.length_take] at this
        omega
      have g0 : ¬ (n : Int) < 0 := by omega
      have g1 : (0 : Int) ≤ (n : Int) := by omega
      have g2 : (n : Int) ≤ (li.size : Int) := by omega
      have g3 : (0 : Int) ≤ (n : Int) + 1 := by omega
      have g4 : (n : Int) + 1 ≤ (li.size : Int) := by omega
      have pw : IntKind.i64.wrap ((n : Int) + 1) = (n : Int) + 1 := by simp only [IntKind.wrap_i64]; omega
      have pl : IntKind.i64.wrap ((li.size : Int) + 1) = (li.size : Int) + 1 := by simp only [IntKind.wrap_i64]; omega
      have tn : ((n : Int) + 1).toNat = n + 1 := by omega
      have HN := hideP (rdnum_any (li.extract (n + 1) li.size) w2 hg2)
      rw [K2.out] at HN
      have HSU := hideP (fun W => sum_any (li.extract 0 n) W (by omega))
      rw [K1.out] at HSU
      have HRB := hideP (fun W (h : Gl W) => rdbody_any (li.extract 0 n) W h (by omega))
      rw [K1.out] at HRB
      clear hz hn
      go_wp2_with fail
      refine HL'.out.mono ?_
      rintro e w3 ⟨rfl, hw⟩
      rw [hw]
      clear hw HL'
      go_wp2_with fail
      refine HN.out.mono ?_
      clear HN
      rintro e w4 ⟨⟨z, rfl, hzz⟩, hb4⟩
      have b4 := b2.trans (hb4.mono b2.size)
      have x4 := x2.below hb4
      have hg4 := hg2.below hb4
      clear b2 x2 hg2 hb4
      cases hrn : rdN (l.drop (n + 1)) with
      | none =>
        rw [hrn] at HP
        have HV := hideP (show rdE s.data.toList = (9, ent0, 0) by rw [HE2.out, HP.out]; rfl)
        clear HE2 HP hrn hzz
        obtain ⟨⟨c0, c1, c2, c3⟩, ⟨f0, f1, f2, f3⟩, R⟩ := box_four x4 (.slice none 0 0) (.bool false) (.slice none 0 0) (.slice none 0 0)
        have r0 := R.cell 0 rfl
        have r1 := R.cell 1 rfl
        have r2 := R.cell 2 rfl
        have r3 := R.cell 3 rfl
        have HF := hideP (eo_four (w := w) (x := em0) x4 (Nat.le_refl _) (em0_eo _ _) b4 (.slice none 0 0) (.bool false) (.slice none 0 0) (.slice none 0 0))
        clear R x4 b4
        go_wp2_with fail
        exact bodyPost_ret (v := .tuple #[emV em0, .int .i64 0, .int .i64 9]) (by simp [results, Tryz.results32, go_sem, r0, r1, r2, r3, emV, emC, em0, noM]) rfl ⟨em0, by rw [HV.out]; rfl, by rw [HV.out]; rfl, by simp [em0], HF.out.1, HF.out.2⟩
      | some y =>
        have hzy := hzz y hrn
        subst hzy
        rw [hrn] at HP
        clear hzz hrn
        have HSU2 := hideP (HSU.out w4)
        have HRB2 := hideP (HRB.out w4 hg4)
        clear HSU HRB
        by_cases hsm : z = (sm (l.take n) : Int)
        · have HP2 := hideP (show prL l = rdB (l.take n) by rw [HP.out]; simp only; rw [if_neg (by simpa using hsm)])
          have dz : (z != (sm (l.take n) : Int)) = false := by simpa using hsm
          clear HP hsm
          generalize (sm (l.take n) : Int) = zs at dz HSU2
          go_wp2_with fail
          refine HSU2.out.mono ?_
          rintro e w5 ⟨rfl, rfl⟩
          clear HSU2
          go_wp2_with fail
          refine HRB2.out.mono ?_
          clear HRB2
          rintro e w6 ⟨x, rfl, hx, hbd, heo, hb6⟩
          have b6 := b4.trans (hb6.mono b4.size)
          have al := (Below.refl w6.heap.size w6).alloc (Nat.le_refl _) (.cells (emC x) 42)
          have b7 := b6.trans (al.mono b6.size)
          have x7 := (x4.below hb6).below al
          have heo7 := (heo.below al).mono b4.size
          have xe := Box.new w6 42 (emC x)
          rw [← HP2.out] at hx ⊢
          clear heo b6 hb6 al x4 b4 hg4
          by_cases hq : (prL l).1 = 0
          · have HV := hideP (show rdE s.data.toList = (0, (prL l).2, l.length + 1) by rw [HE2.out, if_pos hq])
            have HX := hideP (hx hq)
            have HBD := hideP hbd
            rw [hq]
            clear hq hx hbd HE2 HP2
            obtain ⟨D, c, d, isM, ⟨A, ca, cs, O, co, os⟩⟩ := x
            unfold emV
            unfold emC at b7 x7 heo7 xe ⊢
            simp only at b7 x7 heo7 xe ⊢
            have e0 := xe.cell 0 (v := .slice D d.length c) rfl
            have e1 := xe.cell 1 (v := .bool isM) rfl
            have e2 := xe.cell 2 (v := .slice A cs.length ca) rfl
            have e3 := xe.cell 3 (v := .slice O os.length co) rfl
            obtain ⟨⟨c0, c1, c2, c3⟩, ⟨f0, f1, f2, f3⟩, R⟩ := box_four x7 (.slice D d.length c) (.bool isM) (.slice A cs.length ca) (.slice O os.length co)
            have r0 := R.cell 0 rfl
            have r1 := R.cell 1 rfl
            have r2 := R.cell 2 rfl
            have r3 := R.cell 3 rfl
            have HF := hideP (eo_four (w := w) (x := ⟨D, c, d, isM, ⟨A, ca, cs, O, co, os⟩⟩) x7 (Nat.le_refl _) heo7 b7 (.slice D d.length c) (.bool isM) (.slice A cs.length ca) (.slice O os.length co))
            clear R x7 b7 heo7 xe
            go_wp2_with fail
            exact bodyPost_ret (v := .tuple #[emV ⟨D, c, d, isM, ⟨A, ca, cs, O, co, os⟩⟩, .int .i64 ((li.size : Int) + 1), .int .i64 0]) (by simp [results, Tryz.results32, go_sem, r0, r1, r2, r3, emV, emC]) rfl ⟨⟨D, c, d, isM, ⟨A, ca, cs, O, co, os⟩⟩, by rw [HV.out, HLN.out]; rfl, by rw [HV.out]; exact HX.out, HBD.out, HF.out.1, HF.out.2⟩
          · have HV := hideP (show rdE s.data.toList = ((prL l).1, ent0, 0) by rw [HE2.out, if_neg hq])
            have dq : ((prL l).1 != 0) = true := by simpa using hq
            clear hq hx hbd HE2 HP2 heo7
            generalize (prL l).1 = q at dq HV ⊢
            obtain ⟨D, c, d, isM, ⟨A, ca, cs, O, co, os⟩⟩ := x
            unfold emV
            unfold emC at b7 x7 xe ⊢
            simp only at b7 x7 xe ⊢
            clear xe
            obtain ⟨⟨c0, c1, c2, c3⟩, ⟨f0, f1, f2, f3⟩, R⟩ := box_four x7 (.slice none 0 0) (.bool false) (.slice none 0 0) (.slice none 0 0)
            have r0 := R.cell 0 rfl
            have r1 := R.cell 1 rfl
            have r2 := R.cell 2 rfl
            have r3 := R.cell 3 rfl
            have HF := hideP (eo_four (w := w) (x := em0) x7 (Nat.le_refl _) (em0_eo _ _) b7 (.slice none 0 0) (.bool false) (.slice none 0 0) (.slice none 0 0))
            clear R x7 b7
            go_wp2_with fail
            exact bodyPost_ret (v := .tuple #[emV em0, .int .i64 0, .int .i64 q]) (by simp [results, Tryz.results32, go_sem, r0, r1, r2, r3, emV, emC, em0, noM]) rfl ⟨em0, by rw [HV.out]; rfl, by rw [HV.out]; rfl, by simp [em0], HF.out.1, HF.out.2⟩
        · have hp8 : prL l = (8, ent0) := by rw [HP.out]; simp only; rw [if_pos (by simpa using hsm)]
          have HV := hideP (show rdE s.data.toList = (8, ent0, 0) by rw [HE2.out, hp8]; rfl)
          clear hp8
          have dz : (z != (sm (l.take n) : Int)) = true := by simpa using hsm
          clear HP hsm HE2 HRB2
          generalize (sm (l.take n) : Int) = zs at dz HSU2
          go_wp2_with fail
          refine HSU2.out.mono ?_
          rintro e w5 ⟨rfl, rfl⟩
          clear HSU2
          obtain ⟨⟨c0, c1, c2, c3⟩, ⟨f0, f1, f2, f3⟩, R⟩ := box_four x4 (.slice none 0 0) (.bool false) (.slice none 0 0) (.slice none 0 0)
          have r0 := R.cell 0 rfl
          have r1 := R.cell 1 rfl
          have r2 := R.cell 2 rfl
          have r3 := R.cell 3 rfl
          have HF := hideP (eo_four (w := w) (x := em0) x4 (Nat.le_refl _) (em0_eo _ _) b4 (.slice none 0 0) (.bool false) (.slice none 0 0) (.slice none 0 0))
          clear R x4 b4
          go_wp2_with fail
          exact bodyPost_ret (v := .tuple #[emV em0, .int .i64 0, .int .i64 8]) (by simp [results, Tryz.results32, go_sem, r0, r1, r2, r3, emV, emC, em0, noM]) rfl ⟨em0, by rw [HV.out]; rfl, by rw [HV.out]; rfl, by simp [em0], HF.out.1, HF.out.2⟩
end Go.Proofs.YtefdipjhjgmokaaGreatDoor

set_option linter.unusedVariables false
set_option linter.unusedSimpArgs false
namespace Go.Proofs.YtefdipjhjgmokaaGreatDoor
open Go.Lib

/-- the first lines, read: their entries and how many bytes they are -/
inductive LogTo (l : List UInt8) : List Ent → Nat → Prop
  | nil : LogTo l [] 0
  | snoc {xs : List Ent} {k : Nat} {x : Ent} {n : Nat} (h : LogTo l xs k) (hr : rdE (l.drop k) = (0, x, n)) : LogTo l (xs ++ [x]) (k + n)
/-- lines one behind the other -/
def logT (xs : List Ent) : List UInt8 := (xs.map entT).flatten
theorem logT_snoc (xs : List Ent) (x : Ent) : logT (xs ++ [x]) = logT xs ++ entT x := by simp [logT]
theorem rdE_len {l : List UInt8} {x : Ent} {n : Nat} (h : rdE l = (0, x, n)) : 2 ≤ n ∧ n ≤ l.length := by
  obtain ⟨more, h1, _, _, h4⟩ := ent_rdE h
  have h2 : 2 ≤ (entT x).length := by simp only [entT, lnT, List.length_append, List.length_cons, List.length_nil]; omega
  refine ⟨by omega, ?_⟩
  rw [h1, h4]; simp
theorem LogTo.le {l : List UInt8} {xs : List Ent} {k : Nat} (h : LogTo l xs k) : k ≤ l.length := by
  induction h with
  | nil => exact Nat.zero_le _
  | snoc h hr ih =>
    have := (rdE_len hr).2
    rw [List.length_drop] at this
    omega
/-- a log that was written is read -/
theorem log_read (xs : List Ent) (rest : List UInt8) (h : ∀ x ∈ xs, chkE x = 0) : LogTo (logT xs ++ rest) (xs.map bareE) (logT xs).length := by
  suffices H : ∀ (ys zs : List Ent), xs = ys ++ zs → LogTo (logT xs ++ rest) (ys.map bareE) (logT ys).length from H xs [] (by simp)
  intro ys
  induction hn : ys.length generalizing ys with
  | zero =>
    intro zs _
    have : ys = [] := List.length_eq_zero_iff.1 hn
    subst this
    exact LogTo.nil
  | succ n ih =>
    intro zs hx
    obtain ⟨ws, y, rfl⟩ : ∃ ws y, ys = ws ++ [y] := ⟨ys.dropLast, ys.getLast (by intro e; rw [e] at hn; simp at hn), (List.dropLast_concat_getLast _).symm⟩
    have hl : ws.length = n := by simp at hn; omega
    have h1 := ih ws hl (y :: zs) (by rw [hx]; simp)
    have hy : chkE y = 0 := h y (by rw [hx]; simp)
    have hd : (logT xs ++ rest).drop (logT ws).length = entT y ++ (logT zs ++ rest) := by
      rw [hx]
      simp [logT, List.drop_append]
    have h2 := h1.snoc (x := bareE y) (n := (entT y).length) (by rw [hd]; exact rdE_ent hy _)
    rw [List.map_append, logT_snoc, List.length_append]
    exact h2
/-- what follows has no newline -/
theorem rdE_short {l : List UInt8} (h : (10 : UInt8) ∉ l) : rdE l = (7, ent0, 0) := by
  unfold rdE; rw [cut_no h]; rfl
/-- reading goes one way -/
theorem LogTo.same {l : List UInt8} {xs : List Ent} {k : Nat} (h : LogTo l xs k) : ∀ {ys : List Ent} {m : Nat}, LogTo l ys m → xs.length = ys.length → xs = ys ∧ k = m := by
  induction h with
  | nil =>
    intro ys m h2 hl
    cases h2 with
    | nil => exact ⟨rfl, rfl⟩
    | snoc h2 hr => simp at hl
  | snoc h hr ih =>
    intro ys m h2 hl
    cases h2 with
    | nil => simp at hl
    | snoc h2 hr2 =>
      obtain ⟨rfl, rfl⟩ := ih h2 (by simpa using hl)
      rw [hr] at hr2
      injection hr2 with _ hr2
      injection hr2 with e1 e2
      exact ⟨by rw [e1], by rw [e2]⟩
end Go.Proofs.YtefdipjhjgmokaaGreatDoor

set_option linter.unusedVariables false
set_option linter.unusedSimpArgs false
namespace Go.Proofs.YtefdipjhjgmokaaGreatDoor
open Go.Lib

/-- what Log answers: the error, the entries, how many bytes -/
inductive LogIs (l : List UInt8) : Int → List Ent → Nat → Prop
  | large (h : 20000 < l.length) : LogIs l 2 [] 0
  | ok {ys : List Ent} {k : Nat} (h : l.length ≤ 20000) (hr : LogTo l ys k) (hs : (rdE (l.drop k)).1 = 7) : LogIs l 0 ys k
  | bad {ys : List Ent} {k : Nat} {q : Int} (h : l.length ≤ 20000) (hr : LogTo l ys k) (hq : (rdE (l.drop k)).1 = q) (h0 : q ≠ 0) (h7 : q ≠ 7) : LogIs l q [] 0
theorem LogTo.cut_ {l : List UInt8} {ys : List Ent} {m : Nat} (h : LogTo l ys m) : ∀ j, j < ys.length → ∃ m', LogTo l (ys.take j) m' ∧ (rdE (l.drop m')).1 = 0 := by
  induction h with
  | nil => intro j hj; simp at hj
  | @snoc xs k x n h hr ih =>
    intro j hj
    rcases Nat.lt_or_ge j xs.length with h1 | h1
    · obtain ⟨m', a, b⟩ := ih j h1
      exact ⟨m', by rw [List.take_append_of_le_length (by omega)]; exact a, b⟩
    · have e : j = xs.length := by simp at hj; omega
      subst e
      exact ⟨k, by simpa using h, by rw [hr]⟩
theorem LogTo.stop {l : List UInt8} {xs ys : List Ent} {k m : Nat} (h : LogTo l xs k) (hs : (rdE (l.drop k)).1 ≠ 0) (h2 : LogTo l ys m) : ys.length ≤ xs.length := by
  rcases Nat.lt_or_ge xs.length ys.length with hl | hl
  · obtain ⟨m', a, b⟩ := h2.cut_ _ hl
    obtain ⟨_, e⟩ := h.same a (by simp; omega)
    subst e; exact absurd b hs
  · exact hl
theorem LogTo.only {l : List UInt8} {xs ys : List Ent} {k m : Nat} (h : LogTo l xs k) (hs : (rdE (l.drop k)).1 ≠ 0) (h2 : LogTo l ys m) (hs2 : (rdE (l.drop m)).1 ≠ 0) : xs = ys ∧ k = m :=
  h.same h2 (Nat.le_antisymm (h2.stop hs2 h) (h.stop hs h2))
/-- one answer -/
theorem LogIs.same {l : List UInt8} {q q' : Int} {ys ys' : List Ent} {k k' : Nat} (h : LogIs l q ys k) (h' : LogIs l q' ys' k') : q = q' ∧ ys = ys' ∧ k = k' := by
  cases h with
  | large h =>
    cases h' with
    | large _ => exact ⟨rfl, rfl, rfl⟩
    | ok h2 _ _ => omega
    | bad h2 _ _ _ _ => omega
  | ok h hr hs =>
    cases h' with
    | large _ => omega
    | ok _ hr2 hs2 =>
      obtain ⟨rfl, rfl⟩ := hr.only (by rw [hs]; decide) hr2 (by rw [hs2]; decide)
      exact ⟨rfl, rfl, rfl⟩
    | bad _ hr2 hq h0 h7 =>
      obtain ⟨rfl, rfl⟩ := hr.only (by rw [hs]; decide) hr2 (by rw [hq]; exact h0)
      exact absurd (hq.symm.trans hs) h7
  | bad h hr hq h0 h7 =>
    cases h' with
    | large _ => omega
    | ok _ hr2 hs2 =>
      obtain ⟨rfl, rfl⟩ := hr.only (by rw [hq]; exact h0) hr2 (by rw [hs2]; decide)
      exact absurd (hq.symm.trans hs2) h7
    | bad _ hr2 hq2 _ _ =>
      obtain ⟨rfl, rfl⟩ := hr.only (by rw [hq]; exact h0) hr2 (by rw [hq2]; assumption)
      exact ⟨hq.symm.trans hq2, rfl, rfl⟩
theorem LogTo.room {l : List UInt8} {ys : List Ent} {k : Nat} (h : LogTo l ys k) : ys.length * 2 ≤ k := by
  induction h with
  | nil => simp
  | snoc h hr ih => have := (rdE_len hr).1; simp; omega
theorem logT_cons (x : Ent) (xs : List Ent) : logT (x :: xs) = entT x ++ logT xs := by simp [logT]
theorem entT_nl {x : Ent} (h : chkE x = 0) : ∃ b, entT x = b ++ [10] ∧ (10 : UInt8) ∉ b := ⟨_, by rw [show entT x = (bodyT x ++ 32 :: itoa (sm (bodyT x))) ++ [10] by simp [entT, lnT]], line_not h⟩
/-- a log that is cut off: its whole lines, and what has no newline -/
theorem log_cut (xs : List Ent) (h : ∀ x ∈ xs, chkE x = 0) : ∀ n, ∃ j rest, j ≤ xs.length ∧ (logT xs).take n = logT (xs.take j) ++ rest ∧ (10 : UInt8) ∉ rest ∧ ((logT xs).take n).count 10 = j := by
  induction xs with
  | nil => intro n; exact ⟨0, [], Nat.le_refl _, by simp [logT], by simp, by simp [logT]⟩
  | cons x r ih =>
    intro n
    obtain ⟨b, hb, hn⟩ := entT_nl (h x (by simp))
    rw [logT_cons, hb]
    rcases Nat.lt_or_ge b.length n with hlt | hge
    · obtain ⟨j, rest, h1, h2, h3, h4⟩ := ih (fun y hy => h y (by simp [hy])) (n - (b.length + 1))
      have e : (b ++ [10] ++ logT r).take n = (b ++ [10]) ++ (logT r).take (n - (b.length + 1)) := by
        rw [List.take_append, List.take_of_length_le (by simp; omega)]; simp
      refine ⟨j + 1, rest, by simp; omega, ?_, h3, ?_⟩
      · rw [e, h2, List.take_succ_cons, logT_cons, hb]; simp
      · rw [e, List.count_append, h4, List.count_append, List.count_eq_zero.2 hn]; simp; omega
    · have e : (b ++ [10] ++ logT r).take n = b.take n := by
        rw [List.append_assoc, List.take_append_of_le_length (by omega)]
      have hm : (10 : UInt8) ∉ b.take n := fun hm => hn (List.mem_of_mem_take hm)
      exact ⟨0, b.take n, Nat.zero_le _, by rw [e]; simp [logT], hm, by rw [e, List.count_eq_zero.2 hm]⟩
/-- a log that was written, and a piece of a line -/
theorem log_is (xs : List Ent) (rest : List UInt8) (h : ∀ x ∈ xs, chkE x = 0) (hr : (10 : UInt8) ∉ rest) (hl : (logT xs ++ rest).length ≤ 20000) : LogIs (logT xs ++ rest) 0 (xs.map bareE) (logT xs).length :=
  .ok hl (log_read xs rest h) (by rw [List.drop_left, rdE_short hr])
theorem logT_len (xs : List Ent) (h : ∀ x ∈ xs, chkE x = 0) : (logT xs).length ≤ xs.length * 300 := by
  induction xs with
  | nil => simp [logT]
  | cons x r ih =>
    have h1 := ih (fun y hy => h y (by simp [hy]))
    have hbl := body_len (h x (by simp))
    have hsl := itoa_length_le (sm (bodyT x) : Int) (by have := sm_lt (bodyT x); omega) (by have := sm_lt (bodyT x); omega)
    rw [logT_cons]
    have htl : (entT x).length ≤ 300 := by simp only [entT, lnT, List.length_append, List.length_cons, List.length_nil]; omega
    rw [List.length_append, List.length_cons]; omega
end Go.Proofs.YtefdipjhjgmokaaGreatDoor

set_option linter.unusedVariables false
set_option linter.unusedSimpArgs false
namespace Go.Proofs.YtefdipjhjgmokaaGreatDoor
open Go.RowKit
open Go.Lib hiding intOf

/-- what Log hands back -/
def RetLg (w : World) (l : List UInt8) (e : Ending) (w' : World) : Prop :=
  ∃ (q : Int) (A : Option Addr) (c : Nat) (xs : List Em) (k : Nat), LogIs l q (xs.map entOf) k ∧ e = .returned (.tuple #[.slice A xs.length c, .int .i64 (k : Nat), .int .i64 q]) ∧ EW w' w.heap.size A c xs ∧ Below w.heap.size w w'
/-- while the lines are read -/
def LgI (w : World) (l : List UInt8) (s i : Value) (wr : World) : Prop :=
  ∃ (A : Option Addr) (c : Nat) (xs : List Em) (k : Nat), s = .slice A xs.length c ∧ i = .int .i64 (k : Nat) ∧ LogTo l (xs.map entOf) k ∧ EW wr w.heap.size A c xs ∧ Below w.heap.size w wr
set_option maxHeartbeats 2000000 in
set_option maxRecDepth 100000 in
theorem log_any (s : ByteArray) (w : World) (hg : Gl w) :
    Calls Tryz.prog 16 #[.string s] w (RetLg w s.data.toList) := by
  have hsl : s.data.toList.length = s.size := by simp
  by_cases hbig : 20000 < s.size
  · have g1 : (20000 : Int) < (s.size : Int) := by omega
    have HL := hideP (show LogIs s.data.toList 2 (([] : List Em).map entOf) 0 from .large (by omega))
    clear hsl
    go_enter Tryz.func16, Tryz.ntmps16
    go_wp2_with fail
    go_ret3
    exact ⟨2, none, 0, [], 0, HL.out, rfl, EW.nil _ _, Below.refl _ _⟩
  · have g1 : ¬ (20000 : Int) < (s.size : Int) := by omega
    have HLE := hideP (show s.data.toList.length ≤ 20000 by omega)
    have HSL := hideP hsl
    have hs2 : s.size ≤ 20000 := by omega
    clear hsl hbig
    go_enter Tryz.func16, Tryz.ntmps16
    go_wp2_with fail
    go_loopw [5, 6] (LgI w s.data.toList) (fun _ i _ => s.size + 1 - (intOf i).toNat)
    case atStart => exact ⟨none, 0, [], 0, rfl, rfl, .nil, EW.nil _ _, Below.refl _ _⟩
    case round =>
      obtain ⟨A, c, xs, k, rfl, rfl, hto, hW, hb⟩ := hrel
      have hkl := hto.le
      have hrm := hto.room
      rw [HSL.out] at hkl
      rw [List.length_map] at hrm
      have g2 : (0 : Int) ≤ (k : Int) := by omega
      have g3 : (k : Int) ≤ (s.size : Int) := by omega
      have hxl : xs.length ≤ 20000 := by omega
      have hsz : (s.extract k s.size).size < 4294967281 := by
        have h1 : (s.extract k s.size).data.toList.length = (s.extract k s.size).size := by simp
        rw [ext_drop1, List.length_drop] at h1
        have := HSL.out
        omega
      have HR := hideP (rdentry_any (s.extract k s.size) wr (hg.below hb) hsz)
      unfold RetRe at HR
      rw [ext_drop1] at HR
      have hlen := fun x n (h : rdE (s.data.toList.drop k) = (0, x, n)) => rdE_len h
      rw [List.length_drop, HSL.out] at hlen
      obtain ⟨q, en, n, hq⟩ : ∃ q en n, rdE (s.data.toList.drop k) = (q, en, n) := ⟨_, _, _, rfl⟩
      rw [hq] at HR hlen
      have HQ := hideP hq
      have HT := hideP hto
      clear hq hto hrm hsz
      simp only at HR
      go_wp2_with fail
      refine HR.out.mono ?_
      clear HR
      rintro e w2 ⟨x, rfl, hx, hbd, heo, hb2⟩
      have b2 := hb.trans (hb2.mono hb.size)
      have hW2 := hW.below hb2
      have HX := hideP hx
      clear hx hW
      by_cases h7 : q = 7
      · subst h7
        have HL := hideP (LogIs.ok HLE.out HT.out (by rw [HQ.out]))
        have al := b2.alloc b2.size (.cells (emC x) 42)
        have hW3 := hW2.below ((Below.refl w2.heap.size w2).alloc (Nat.le_refl _) (.cells (emC x) 42))
        clear HX heo hbd hlen
        obtain ⟨D, cd, d, isM, ⟨A2, ca, cs, O, co, os⟩⟩ := x
        unfold emV
        unfold emC at al hW3 ⊢
        simp only at al hW3 ⊢
        go_wp2_with fail
        go_ret3
        exact ⟨0, A, c, xs, k, HL.out, rfl, hW3, al⟩
      · by_cases h0 : q = 0
        · subst h0
          obtain ⟨hn2, hnl⟩ := hlen en n rfl
          have HT2 := hideP (HT.out.snoc HQ.out)
          have al := (Below.refl w2.heap.size w2).alloc (Nat.le_refl _) (.cells (emC x) 42)
          have b3 := b2.alloc b2.size (.cells (emC x) 42)
          have hW3 := hW2.below al
          have heo3 := (heo.below al).mono hb.size
          have xe := Box.new w2 42 (emC x)
          obtain ⟨A', c', w4, hrun, hW4, _, hbel, _⟩ := app_ent _ w.heap.size 26 A c xs hW3 x heo3 hbd (by omega) b3.size
          have b4 := hbel _ _ (Nat.le_refl _) b3
          simp only [World.size_alloc] at hrun
          have HRN := hideP hrun
          have g4 : IntKind.i64.wrap ((k : Int) + (n : Int)) = (k : Int) + (n : Int) := by simp only [IntKind.wrap_i64]; omega
          have HXE := hideP (show (xs ++ [x]).map entOf = xs.map entOf ++ [en] by rw [List.map_append, HX.out]; rfl)
          clear hrun hW3 heo3 heo hbel al b3 hbd hb2 hW2 hlen HX
          generalize hxx : xs ++ [x] = xx at HRN hW4 HXE
          clear hxx
          obtain ⟨D, cd, d, isM, ⟨A2, ca, cs, O, co, os⟩⟩ := x
          unfold emV
          unfold emC at xe HRN ⊢
          simp only at xe HRN ⊢
          have e0 := xe.cell 0 (v := .slice D d.length cd) rfl
          have e1 := xe.cell 1 (v := .bool isM) rfl
          have e2 := xe.cell 2 (v := .slice A2 cs.length ca) rfl
          have e3 := xe.cell 3 (v := .slice O os.length co) rfl
          clear xe
          go_wp2_with (at_builtin; refine Lib.wpList_append_run _ rfl _ _ _ _ rfl _ _ rfl rfl _ _ HRN.out ?_)
          go_roundw
          case rel => exact ⟨A', c', xx, k + n, rfl, by go_num, by rw [HXE.out]; exact HT2.out, hW4, b4⟩
          case measure => simp [intOf]; omega
        · have HL := hideP (show LogIs s.data.toList q (([] : List Em).map entOf) 0 from LogIs.bad HLE.out HT.out (by rw [HQ.out]) h0 h7)
          have al := b2.alloc b2.size (.cells (emC x) 42)
          have d1 : (q == 7) = false := by simpa using h7
          have d2 : (q != 0) = true := by simpa using h0
          clear HX heo hbd hlen HQ h7 h0
          obtain ⟨D, cd, d, isM, ⟨A2, ca, cs, O, co, os⟩⟩ := x
          unfold emV
          unfold emC at al ⊢
          simp only at al ⊢
          go_wp2_with fail
          go_ret3
          exact ⟨q, none, 0, [], 0, HL.out, rfl, EW.nil _ _, al⟩
end Go.Proofs.YtefdipjhjgmokaaGreatDoor
