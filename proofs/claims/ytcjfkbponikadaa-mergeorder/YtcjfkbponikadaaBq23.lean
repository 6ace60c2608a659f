/-
  rokeep.fed, and mergeBegun.
-/
import Derived.Test.YtcjfkbponikadaaBq15
import Derived.Test.YtcjfkbponikadaaBq16
import Derived.Test.YtcjfkbponikadaaBq17
import Derived.Test.YtcjfkbponikadaaBq22
import Derived.Lib.MinMax
set_option linter.unusedVariables false
set_option linter.unusedSimpArgs false
namespace Go.Proofs.Ytcjfkbponikadaa
open Go.RowKit

theorem wait_one : waitM (closeM (List.replicate 2 [([] : List Ent)]) 1) = [0] := by decide
theorem clo_one : closeQ (List.replicate 2 [([] : List Ent)]) 1 = 0 ∧ closeN (List.replicate 2 [([] : List Ent)]) 1 = 1 ∧ closeC (List.replicate 2 [([] : List Ent)]) 1 = closeM (List.replicate 2 [([] : List Ent)]) 1 := ⟨by decide, by decide, rfl⟩
set_option maxHeartbeats 1000000 in
set_option maxRecDepth 100000 in
theorem mbegun_any (w : World) :
    Calls Try.prog 5 #[] w fun e w' => e = .returned (.bool true) ∧ Below w.heap.size w w' := by
  go_enter Try.func5, Try.ntmps5
  go_wp2_with fail
  refine (show Calls Try.prog 7 #[.int .i64 2] w (RetNm w 2) from mnew_ok 2 w (by decide) (by decide)).mono ?_
  rintro e w1 ⟨s, rfl, hs, hct, hb1⟩
  have HC := hideP (mclose_any s _ 1 w1 hs)
  rw [hct, clo_one.1, clo_one.2.1, clo_one.2.2] at HC
  go_wp2_with fail
  refine HC.out.mono ?_
  clear HC
  rintro e w2 ⟨s2, rfl, hT⟩
  have hb2 : Below w.heap.size w w2 := hT.below_ hs (Nat.le_refl _) hb1
  have HW := hideP (mwaits_any _ s2.g s2.AI s2.cI s2.ins s2.added w2 hT.ok.mg hT.ok.gm)
  have hw : waitM (ctM s2.ins) = [0] := by have := hT.ct; unfold Ms.ct at this; rw [this]; exact wait_one
  rw [hw, hT.g] at HW
  clear hw hT hs hct hb1
  go_wp2_with fail
  refine HW.out.mono ?_
  clear HW
  rintro e w3 ⟨A, c, rfl, hor, hb3⟩
  have b3 := hb2.trans (hb3.mono hb2.size)
  have al := (Below.refl w3.heap.size w3).alloc (Nat.le_refl _) (.cells #[.int .i64 0] 3)
  have b4 := b3.trans (al.mono b3.size)
  have HE := hideP (iequal_same A (some ⟨w3.heap.size, 0, none⟩) c 1 [0] _ (hor.below al).vs (VS.lit0 w3 3) (by decide))
  simp only [List.length_singleton] at HE ⊢
  clear hor hb3 b3 al hb2
  go_wp2_with fail
  refine HE.out.mono ?_
  rintro e w4 ⟨rfl, h4⟩
  have b5 := b4.trans (h4.mono b4.size)
  go_wp2_with fail
  go_ret
  exact ⟨rfl, b5⟩

theorem slice_rows (T : Option Addr) (n ct m : Nat) (z : Int) (hz : z = (m : Int)) (hm : m ≤ ct) (hn : T = none → ct = 0) (w : World) : (Instr.slice 22 (.slice T n ct) none (some (.int .i64 z)) none).run Try.prog w = .ok (.slice T m ct) w := by
  subst hz
  have g1 : (0 : Int) ≤ (m : Int) := by omega
  have g2 : (m : Int) ≤ (ct : Int) := by omega
  cases T with
  | none =>
    obtain rfl := hn rfl
    obtain rfl : m = 0 := by omega
    clear hn hm
    go_simp
  | some a =>
    clear hn hm
    go_simp
/-- what rows of numbers ask -/
def fdStep (n : Nat) (xs : List Ent) (p : List (Nat × Option Ent) × Nat) (c : List Int) : List (Nat × Option Ent) × Nat :=
  if c.length < 2 then p
  else if wi (c.getD 0 0) 3 < 2 then (match xs[p.2]? with | some x => (p.1 ++ [(wi (c.getD 1 0) n, some x)], p.2 + 1) | none => p)
  else (p.1 ++ [(wi (c.getD 1 0) n, none)], p.2)
def fdS (n : Nat) (xs : List Ent) (cs : List (List Int)) : List (Nat × Option Ent) × Nat := cs.foldl (fdStep n xs) ([], 0)
theorem fdS_next (n : Nat) (xs : List Ent) (cs : List (List Int)) (k : Nat) (c : List Int) (h : cs[k]? = some c) : fdS n xs (cs.take (k + 1)) = fdStep n xs (fdS n xs (cs.take k)) c := by
  obtain ⟨hk, rfl⟩ := List.getElem?_eq_some_iff.1 h
  unfold fdS
  rw [List.take_succ_eq_append_getElem hk, List.foldl_append]
  rfl
/-- how much is held, at most -/
structure Lim {α : Type} (ct : List (List (List α))) (t m : Nat) : Prop where
  tot : totM ct ≤ t
  bs : ∀ b ∈ ct, b.length ≤ m
theorem Lim.mono {α : Type} {ct : List (List (List α))} {t m t' m' : Nat} (h : Lim ct t m) (ht : t ≤ t') (hm : m ≤ m') : Lim ct t' m' := ⟨Nat.le_trans h.tot ht, fun b hb => Nat.le_trans (h.bs b hb) hm⟩
theorem Lim.add {α : Type} {ct : List (List (List α))} {t m i : Nat} {b : List (List α)} (h : Lim ct t m) (x : α) (hi : ct[i]? = some b) (hb : b ≠ []) : Lim (addM ct i x) (t + 1) m :=
  ⟨by rw [tot_add x hi hb]; have := h.tot; omega, fun c hc => by
    rcases mem_modify hc with hc | ⟨a, ha, rfl⟩
    · exact h.bs c hc
    · rw [List.length_modify]; exact h.bs a (List.mem_of_getElem? ha)⟩
theorem Lim.close {α : Type} {ct : List (List (List α))} {t m i : Nat} {b : List (List α)} (h : Lim ct t m) (hi : ct[i]? = some b) : Lim (closeM ct i) t (m + 1) :=
  ⟨by rw [tot_close hi]; exact h.tot, fun c hc => by
    rcases mem_modify hc with hc | ⟨a, ha, rfl⟩
    · exact Nat.le_succ_of_le (h.bs c hc)
    · have := h.bs a (List.mem_of_getElem? ha); simp; omega⟩
/-- while the rows are gone through -/
structure FdH (w : World) (B n m : Nat) (s : Ms) (es : List Ent) (rows : List (List Int)) (t0 m0 k nx : Nat) (s' : Ms) (acts : List (Nat × Option Ent)) (wr : World) : Prop where
  to_ : s.To w B s' wr (runM s.ct acts)
  st : fdS n es (rows.take k) = (acts, nx)
  lim : Lim s'.ct (t0 + k) (m0 + k)
  nx : nx ≤ k
  len : s'.ct.length = n
theorem FdH.skip {w wr : World} {B n m t0 m0 k nx : Nat} {s s' : Ms} {es : List Ent} {rows : List (List Int)} {acts : List (Nat × Option Ent)} (h : FdH w B n m s es rows t0 m0 k nx s' acts wr) {c : List Int} (hc : rows[k]? = some c) (hs : fdStep n es (acts, nx) c = (acts, nx)) : FdH w B n m s es rows t0 m0 (k + 1) nx s' acts wr :=
  ⟨h.to_, by rw [fdS_next n es rows k c hc, h.st, hs], h.lim.mono (Nat.le_succ _) (Nat.le_succ _), Nat.le_succ_of_le h.nx, h.len⟩
theorem FdH.act {w wr w' : World} {B n m t0 m0 k nx nx' : Nat} {s s' s2 : Ms} {es : List Ent} {rows : List (List Int)} {acts : List (Nat × Option Ent)} (h : FdH w B n m s es rows t0 m0 k nx s' acts wr) {c : List Int} {a : Nat × Option Ent} (hc : rows[k]? = some c) (hs : fdStep n es (acts, nx) c = (acts ++ [a], nx')) (hnx : nx' ≤ k + 1)
    (hT : s'.To wr B s2 w' (stM s'.ct a)) (hL : Lim (stM s'.ct a) (t0 + k + 1) (m0 + k + 1)) : FdH w B n m s es rows t0 m0 (k + 1) nx' s2 (acts ++ [a]) w' :=
  ⟨by
    have := h.to_.trans hT
    rw [h.to_.ct, ← runM_snoc] at this
    exact this, by rw [fdS_next n es rows k c hc, h.st, hs], by rw [hT.ct]; exact hL, hnx, by rw [hT.ct, stM_len]; exact h.len⟩
def FdI (w : World) (B n m : Nat) (s : Ms) (es : List Ent) (rows : List (List Int)) (t0 m0 : Nat) (v i : Value) (wr : World) : Prop :=
  ∃ (k nx : Nat) (s' : Ms) (acts : List (Nat × Option Ent)), k ≤ m ∧ i = .int .i64 k ∧ v = .int .i64 nx ∧ FdH w B n m s es rows t0 m0 k nx s' acts wr
/-- what fed leaves -/
def RetFd' (w : World) (B n m : Nat) (s : Ms) (es : List Ent) (rows : List (List Int)) (t0 m0 : Nat) (e : Ending) (w' : World) : Prop :=
  e = .returned (.bool true) ∧ ∃ (nx : Nat) (s' : Ms) (acts : List (Nat × Option Ent)), FdH w B n m s es rows t0 m0 m nx s' acts w'
set_option maxHeartbeats 8000000 in
set_option maxRecDepth 100000 in
theorem fed_any (s : Ms) (B n : Nat) (A1 A2 : Option Addr) (c1 c2 m t0 m0 : Nat) (cs : List Cl) (xs : List Em) (w : World) (hs : s.Ok w B) (hn1 : 1 ≤ n) (hn4 : n ≤ 4) (hlen : s.ct.length = n) (hl1 : cs.length ≤ c1) (hc1 : c1 ≤ 9223372036854775807) (hnn : A1 = none → c1 = 0)
    (hm : m = min cs.length 40) (HL : ∀ w', Fr s.F w w' → LS w' A1 cs) (HX : ∀ w', Fr s.F w w' → EL w' A2 xs) (hgd : ∀ x ∈ xs, chkE (entOf x) = 0 ∧ dropE (entOf x) = entOf x) (hlim : Lim s.ct t0 m0) (ht : t0 + m ≤ 60) (hm0 : m0 + m ≤ 61) :
    Calls Try.prog 11 #[.pointer (some ⟨s.g, 0, none⟩), .int .i64 (n : Int), .slice A1 cs.length c1, .slice A2 xs.length c2] w (RetFd' w B n m s (xs.map entOf) (cs.map (·.zs)) t0 m0) := by
  have hsl := fun w => slice_rows A1 cs.length c1 m (min (cs.length : Int) 40) (by omega) (by omega) hnn w
  have HS := hideP (show FdH w B n m s (xs.map entOf) (cs.map (·.zs)) t0 m0 0 0 s [] w from ⟨Ms.To.same hs (Below.refl _ _), rfl, hlim, Nat.le_refl _, hlen⟩)
  have hml : m ≤ cs.length := by omega
  have hm40 : m ≤ 40 := by omega
  clear hs hlim hlen hm hnn
  go_enter Try.func11, Try.ntmps11
  go_wp2_with fail
  go_loopw [9, 21] (FdI w B n m s (xs.map entOf) (cs.map (·.zs)) t0 m0) (fun _ i _ => m - (intOf i).toNat)
  case atStart => exact ⟨0, 0, s, [], Nat.zero_le _, rfl, rfl, HS.out⟩
  case round =>
    clear HS hsl
    obtain ⟨k, nx, s', acts, hk, rfl, rfl, hH⟩ := hrel
    have hnx := hH.nx
    by_cases hlt : k < m
    · have hkc : k < cs.length := by omega
      have hrow : (cs.map (·.zs))[k]? = some cs[k].zs := by rw [List.getElem?_map, List.getElem?_eq_getElem hkc]; rfl
      have hL := HL wr hH.to_.fr
      obtain ⟨b, o, hA, hbl, q1⟩ := hL.vs k (clV cs[k]) (by simp [hkc])
      obtain ⟨hI, hzc, hcc⟩ := hL.is_ _ (List.getElem_mem hkc)
      subst hA
      generalize cs[k] = x at hrow q1 hI hzc hcc
      obtain ⟨Ac, cc, zs⟩ := x
      simp only [clV] at q1
      simp only at hrow hI hzc hcc
      have g1 : (0 : Int) ≤ (k : Int) := by omega
      have g2 : (k : Int) < (m : Int) := by omega
      by_cases h2 : zs.length < 2
      · have g3 : (zs.length : Int) < 2 := by omega
        have hH2 := hH.skip hrow (by unfold fdStep; rw [if_pos h2])
        clear hH hL hI
        go_wp2_with fail
        go_roundw
        case rel => exact ⟨k + 1, nx, s', acts, by omega, by go_num, rfl, hH2⟩
        case measure => simp [intOf]; omega
      · have g3 : ¬ (zs.length : Int) < 2 := by omega
        obtain ⟨bz, oz, hz, hblz, z1⟩ := hI 1 _ (List.getElem?_eq_getElem (by omega))
        obtain ⟨_, _, e, _, z0⟩ := hI 0 _ (List.getElem?_eq_getElem (by omega))
        rw [hz] at e
        injection e with e
        injection e with e1 e2 _
        subst e1; subst e2
        subst hz
        rw [Nat.add_zero] at z0
        have HW1 := hideP (within_any zs[1] n hn1 (by omega) wr)
        have HW0 := hideP (show Calls Try.prog 6 #[.int .i64 zs[0], .int .i64 3] wr fun e w' => e = .returned (.int .i64 (wi zs[0] 3)) ∧ wr = w' from within_any zs[0] 3 (by decide) (by decide) wr)
        have HSTEP := hideP (show ∀ p, fdStep n (xs.map entOf) p zs = if wi zs[0] 3 < 2 then (match (xs.map entOf)[p.2]? with | some x => (p.1 ++ [(wi zs[1] n, some x)], p.2 + 1) | none => p) else (p.1 ++ [(wi zs[1] n, none)], p.2) from fun p => by
          unfold fdStep
          rw [if_neg h2]
          simp [show 0 < zs.length by omega, show 1 < zs.length by omega])
        have hwi := wi_lt zs[1] n hn1
        have g4 : (1 : Int) < (zs.length : Int) := by omega
        have g5 : (0 : Int) < (zs.length : Int) := by omega
        generalize zs[1] = y1 at z1 HW1 HSTEP hwi
        generalize zs[0] = y0 at z0 HW0 HSTEP
        generalize wi y1 n = ix at HW1 HSTEP hwi
        obtain ⟨bi, hbi⟩ : ∃ bi, s'.ct[ix]? = some bi := ⟨_, List.getElem?_eq_getElem (by rw [hH.len]; exact hwi)⟩
        have hbim := List.mem_of_getElem? hbi
        have hbne : bi ≠ [] := by
          obtain ⟨xi, hxi, rfl⟩ := List.mem_map.1 (show bi ∈ s'.ins.map ctI from hbim)
          obtain ⟨j, hj⟩ := List.mem_iff_getElem?.1 hxi
          intro e
          have := congrArg List.length e
          simp [ctI] at this
          exact hH.to_.ok.mg.ne j xi hj this
        by_cases hw2 : wi y0 3 < 2
        · have d1 : ((wi y0 3 : Nat) : Int) < 2 := by omega
          by_cases hnl : nx < xs.length
          · have hE := HX wr hH.to_.fr
            obtain ⟨bb, oo, hA2, hbl2, p0, p1, p2, p3⟩ := hE.cells nx xs[nx] (List.getElem?_eq_getElem hnl)
            have hes := hE.es _ (List.getElem_mem hnl)
            have hg := hgd _ (List.getElem_mem hnl)
            have hxe : (xs.map entOf)[nx]? = some (entOf xs[nx]) := by rw [List.getElem?_map, List.getElem?_eq_getElem hnl]; rfl
            have htl := hH.lim.tot
            have HN := hideP (fun (w' : World) (s2 : Ms) (hT : s'.To wr B s2 w' (addM s'.ct ix (entOf xs[nx]))) => hH.act (nx' := nx + 1) (a := (ix, some (entOf xs[nx]))) hrow (by rw [HSTEP.out, if_pos hw2]; simp only; rw [hxe]) (by omega) hT ((hH.lim.add (entOf xs[nx]) hbi hbne).mono (Nat.le_refl _) (Nat.le_succ _)))
            have HAD := hideP (madd_any s' B (ix : Int) xs[nx] wr hH.to_.ok hes)
            obtain ⟨q1', q2⟩ := addQ_ok (ct := s'.ct) (i := ix) (x := entOf xs[nx]) (List.getElem?_eq_some_iff.1 hbi).1 hg.1 (by omega)
            rw [q1', q2, hg.2, hH.to_.g] at HAD
            generalize xs[nx] = x at p0 p1 p2 p3 HN HAD
            subst hA2
            have g6 : (0 : Int) ≤ (nx : Int) := by omega
            have g7 : (nx : Int) < (xs.length : Int) := by omega
            have g8 : IntKind.i64.wrap ((nx : Int) + 1) = ((nx + 1 : Nat) : Int) := by simp only [IntKind.wrap_i64]; omega
            generalize wi y0 3 = y at HW0 d1
            clear hH hL hI HSTEP hw2 hbi hbim hbne q1' q2 hrow hE hes hg hxe htl
            unfold emV emC at HAD
            go_wp2_with fail
            refine HW1.out.mono ?_
            rintro e w' ⟨rfl, rfl⟩
            go_wp2_with fail
            refine HW0.out.mono ?_
            rintro e w' ⟨rfl, rfl⟩
            go_wp2_with fail
            refine HAD.out.mono ?_
            rintro e w2 ⟨s2, rfl, hT⟩
            have hH2 := HN.out w2 s2 hT
            clear HN HAD hT
            go_wp2_with fail
            go_roundw
            case rel => exact ⟨k + 1, nx + 1, s2, _, by omega, by go_num, by go_num, hH2⟩
            case measure => simp [intOf]; omega
          · have hH2 := hH.skip hrow (by rw [HSTEP.out, if_pos hw2]; simp only; rw [List.getElem?_eq_none (by rw [List.length_map]; omega)])
            have g6 : ¬ (nx : Int) < (xs.length : Int) := by omega
            generalize wi y0 3 = y at HW0 d1
            clear hH hL hI HSTEP hw2 hbi hbim hbne
            go_wp2_with fail
            refine HW1.out.mono ?_
            rintro e w' ⟨rfl, rfl⟩
            go_wp2_with fail
            refine HW0.out.mono ?_
            rintro e w' ⟨rfl, rfl⟩
            go_wp2_with fail
            go_roundw
            case rel => exact ⟨k + 1, nx, s', acts, by omega, by go_num, rfl, hH2⟩
            case measure => simp [intOf]; omega
        · have d1 : ¬ ((wi y0 3 : Nat) : Int) < 2 := by omega
          have hbl3 := hH.lim.bs bi hbim
          obtain ⟨q1', q2, q3⟩ := closeQ_ok hbi (by omega)
          have HCL := hideP (mclose_any s' B (ix : Int) wr hH.to_.ok)
          rw [q1', q2, q3, hH.to_.g] at HCL
          have HN := hideP (fun (w' : World) (s2 : Ms) (hT : s'.To wr B s2 w' (closeM s'.ct ix)) => hH.act (nx' := nx) (a := (ix, none)) hrow (by rw [HSTEP.out, if_neg hw2]) (by omega) hT ((hH.lim.close hbi).mono (Nat.le_succ _) (Nat.le_refl _)))
          generalize wi y0 3 = y at HW0 d1
          clear hH hL hI HSTEP hw2 hbi hbim hbne q1' q2 q3 hrow hbl3
          go_wp2_with fail
          refine HW1.out.mono ?_
          rintro e w' ⟨rfl, rfl⟩
          go_wp2_with fail
          refine HW0.out.mono ?_
          rintro e w' ⟨rfl, rfl⟩
          go_wp2_with fail
          refine HCL.out.mono ?_
          rintro e w2 ⟨s2, rfl, hT⟩
          have hH2 := HN.out w2 s2 hT
          clear HN HCL hT
          go_wp2_with fail
          go_roundw
          case rel => exact ⟨k + 1, nx, s2, _, by omega, by go_num, rfl, hH2⟩
          case measure => simp [intOf]; omega
    · obtain rfl : k = m := by omega
      have HF := hideP (show RetFd' w B n k s (xs.map entOf) (cs.map (·.zs)) t0 m0 (.returned (.bool true)) wr from ⟨rfl, nx, s', acts, hH⟩)
      clear hH
      go_wp2_with fail
      go_ret
      exact HF.out
end Go.Proofs.Ytcjfkbponikadaa
