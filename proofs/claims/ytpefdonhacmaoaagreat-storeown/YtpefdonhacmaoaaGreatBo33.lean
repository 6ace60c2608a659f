/-
  The schedule that picks select, plainly (no program in it).
  plan.check.
  plan.fill and plan.choice.
  Rows that make lays, a slice cut short.
-/
import Derived.Test.YtpefdonhacmaoaaGreatBo32
import Derived.Test.YtpefdonhacmaoaaGreatBo28
import Derived.Test.YtpefdonhacmaoaaGreatBo10
import Derived.Test.YtpefdonhacmaoaaGreatBo30
import Derived.Test.YtpefdonhacmaoaaGreatBo17
import Derived.Laws.MakeOwn
import Derived.WalkKit
import Derived.WalkSpells
import Derived.WalkLawsBesides
set_option linter.unusedVariables false
set_option linter.unusedSimpArgs false
namespace Go.Proofs.YtpefdonhacmaoaaGreat

/-- which of k a step takes -/
def chV (ps : List Int) (step k : Nat) : Nat := if step < ps.length then wi (ps.getD step 0) k else 0
theorem chV_lt (ps : List Int) (step : Nat) {k : Nat} (h : 1 ≤ k) : chV ps step k < k := by
  unfold chV
  split
  · exact wi_lt _ _ h
  · omega
/-- is a number among those that are gone? -/
def inN (o : List Nat) (i : Nat) : Bool := o.any fun x => decide (x = i)
theorem inN_iff {o : List Nat} {i : Nat} : inN o i = true ↔ i ∈ o := by simp [inN]
theorem inN_no {o : List Nat} {i : Nat} : inN o i = false ↔ i ∉ o := by rw [← Bool.not_eq_true, inN_iff]
theorem inN_snoc (o : List Nat) (s : Nat) : inN (o ++ [s]) = fun i => inN o i || decide (i = s) := funext fun i => by
  unfold inN
  rw [List.any_append]
  simp [eq_comm]
/-- those that may go on, once those of o are gone -/
def rdyO (dd : List (List Opr)) (o : List Nat) : List Nat := (List.range dd.length).filter fun i => !inN o i && !wtB dd (inN o) i i
theorem rdyO_mem {dd : List (List Opr)} {o : List Nat} {i : Nat} : i ∈ rdyO dd o ↔ i < dd.length ∧ i ∉ o ∧ ∀ j, j < i → j ∉ o → clB (dd.getD j []) (dd.getD i []) = false := by
  unfold rdyO
  rw [List.mem_filter, List.mem_range, Bool.and_eq_true, Bool.not_eq_true', Bool.not_eq_true', inN_no, wtB_iff]
  simp only [inN_no]
theorem rdyO_some {dd : List (List Opr)} {o : List Nat} {i : Nat} (hi : i < dd.length) (hm : i ∉ o) : 1 ≤ (rdyO dd o).length := by
  induction i using Nat.strongRecOn with
  | _ i ih =>
    by_cases h : ∃ j, j < i ∧ j ∉ o
    · obtain ⟨j, hj, hjo⟩ := h
      exact ih j hj (by omega) hjo
    · have : i ∈ rdyO dd o := rdyO_mem.2 ⟨hi, hm, fun j hj hjo => absurd ⟨j, hj, hjo⟩ h⟩
      exact List.length_pos_of_mem this
/-- the next one -/
def nextO (dd : List (List Opr)) (ps : List Int) (o : List Nat) : Nat := (rdyO dd o).getD (chV ps o.length (rdyO dd o).length) 0
/-- the first k of the schedule -/
def playN (dd : List (List Opr)) (ps : List Int) : Nat → List Nat
  | 0 => []
  | k + 1 => playN dd ps k ++ [nextO dd ps (playN dd ps k)]
/-- the values and the outcomes behind them -/
def plS (dd : List (List Opr)) (ps : List Int) (v : VF) : Nat → VF × List Bool
  | 0 => (v, List.replicate dd.length false)
  | k + 1 => ((doneV (plS dd ps v k).1 (dd.getD (nextO dd ps (playN dd ps k)) [])).1, (plS dd ps v k).2.set (nextO dd ps (playN dd ps k)) (doneV (plS dd ps v k).1 (dd.getD (nextO dd ps (playN dd ps k)) [])).2)
section
variable {dd : List (List Opr)} {ps : List Int}
theorem playN_len (dd : List (List Opr)) (ps : List Int) (k : Nat) : (playN dd ps k).length = k := by
  induction k with
  | zero => rfl
  | succ k ih => simp [playN, ih]
theorem next_mem {o : List Nat} (h : 1 ≤ (rdyO dd o).length) : nextO dd ps o ∈ rdyO dd o := by
  have hl := chV_lt ps o.length h
  unfold nextO
  rw [List.getD_eq_getElem?_getD, List.getElem?_eq_getElem hl]
  exact List.getElem_mem hl
/-- what stands of the first k -/
structure Pl (dd : List (List Opr)) (ps : List Int) (k : Nat) : Prop where
  nodup : (playN dd ps k).Nodup
  lt : ∀ x ∈ playN dd ps k, x < dd.length
  ord : (playN dd ps k).Pairwise fun s x => x < s → clB (dd.getD x []) (dd.getD s []) = false
  past : ∀ j (hj : j < k) x, x ∉ playN dd ps k → x < (playN dd ps k)[j]'(by rw [playN_len]; exact hj) → clB (dd.getD x []) (dd.getD ((playN dd ps k)[j]'(by rw [playN_len]; exact hj)) []) = false
theorem Pl.room {k : Nat} (h : Pl dd ps k) (hk : k < dd.length) : 1 ≤ (rdyO dd (playN dd ps k)).length := by
  refine Classical.byContradiction fun hn => ?_
  have hall : ∀ i, i < dd.length → i ∈ playN dd ps k := fun i hi => Classical.byContradiction fun hm => hn (rdyO_some hi hm)
  have := (List.nodup_range (n := dd.length)).length_le_of_subset (l₂ := playN dd ps k) fun i hi => hall i (List.mem_range.1 hi)
  rw [List.length_range, playN_len] at this
  omega
theorem Pl.step {k : Nat} (h : Pl dd ps k) (hk : k < dd.length) : Pl dd ps (k + 1) := by
  obtain ⟨h1, h2, h3⟩ := rdyO_mem.1 (next_mem (ps := ps) (h.room hk))
  refine ⟨?_, fun x hx => ?_, ?_, ?_⟩
  · show (playN dd ps k ++ [_]).Nodup
    rw [List.nodup_append]
    exact ⟨h.nodup, by simp, fun a ha b hb e => by rw [List.mem_singleton.1 hb] at e; subst e; exact h2 ha⟩
  · rcases List.mem_append.1 hx with hx | hx
    · exact h.lt x hx
    · rw [List.mem_singleton.1 hx]; exact h1
  · show (playN dd ps k ++ [_]).Pairwise _
    rw [List.pairwise_append]
    refine ⟨h.ord, by simp, fun s hs x hx hlt => ?_⟩
    have hx := List.mem_singleton.1 hx
    subst hx
    -- s was taken while the later one still stood: it waited for nobody
    obtain ⟨j, hj, e⟩ := List.getElem_of_mem hs
    subst e
    exact h.past j (by rw [playN_len] at hj; exact hj) _ h2 hlt
  · intro j hj x hx hlt
    have hx' : x ∉ playN dd ps k := fun e => hx (List.mem_append_left _ e)
    by_cases e : j < k
    · have he : (playN dd ps (k + 1))[j]'(by rw [playN_len]; exact hj) = (playN dd ps k)[j]'(by rw [playN_len]; exact e) := List.getElem_append_left (by rw [playN_len]; exact e)
      rw [he] at hlt ⊢
      exact h.past j e x hx' hlt
    · have he : (playN dd ps (k + 1))[j]'(by rw [playN_len]; exact hj) = nextO dd ps (playN dd ps k) := by
        have : j = k := by omega
        subst this
        have h' : (playN dd ps (j + 1))[j]? = some (nextO dd ps (playN dd ps j)) := by
          simp only [playN]; rw [List.getElem?_append_right (by rw [playN_len]; exact Nat.le_refl _), playN_len]; simp
        exact (List.getElem?_eq_some_iff.1 h').2
      rw [he] at hlt ⊢
      exact h3 x hlt hx'
theorem pl_all (dd : List (List Opr)) (ps : List Int) (k : Nat) (hk : k ≤ dd.length) : Pl dd ps k := by
  induction k with
  | zero => exact ⟨List.nodup_nil, by simp [playN], List.Pairwise.nil, fun j hj => by omega⟩
  | succ k ih => exact (ih (by omega)).step (by omega)
/-- the whole schedule keeps the order of conflicts -/
theorem play_kept (dd : List (List Opr)) (ps : List Int) : Kept dd dd.length (playN dd ps dd.length) := by
  have h := pl_all dd ps dd.length (Nat.le_refl _)
  refine ⟨h.nodup, fun x => ⟨h.lt x, fun hx => Classical.byContradiction fun hm => ?_⟩, h.ord⟩
  have h2 := (List.nodup_cons.2 ⟨hm, h.nodup⟩).length_le_of_subset (l₂ := List.range dd.length) fun y hy => by
    rcases List.mem_cons.1 hy with rfl | hy
    · exact List.mem_range.2 hx
    · exact List.mem_range.2 (h.lt y hy)
  rw [List.length_cons, List.length_range, playN_len] at h2
  omega
theorem play_done (dd : List (List Opr)) (ps : List Int) : rdyO dd (playN dd ps dd.length) = [] := by
  apply List.eq_nil_iff_forall_not_mem.2
  intro i hi
  obtain ⟨h1, h2, _⟩ := rdyO_mem.1 hi
  exact h2 (((play_kept dd ps).mem i).2 h1)
theorem plS_len (v : VF) (k : Nat) : (plS dd ps v k).2.length = dd.length := by
  induction k with
  | zero => simp [plS]
  | succ k ih => simp only [plS, List.length_set, ih]
theorem plS_ex (v : VF) (k : Nat) : (plS dd ps v k).1 = exO dd v (playN dd ps k) := by
  induction k with
  | zero => rfl
  | succ k ih => simp only [plS, playN, exO_append, ih]; rfl
theorem plS_out (v : VF) (k : Nat) (hk : k ≤ dd.length) : ∀ i b, i ∈ playN dd ps k → (plS dd ps v k).2[i]? = some b → (i, b) ∈ outO dd v (playN dd ps k) := by
  induction k with
  | zero => intro i b hi; simp [playN] at hi
  | succ k ih =>
    intro i b hi hb
    have hp := pl_all dd ps k (by omega)
    obtain ⟨h1, h2, _⟩ := rdyO_mem.1 (next_mem (ps := ps) (hp.room (by omega)))
    simp only [playN] at hi ⊢
    rw [outO_append, List.mem_append]
    simp only [plS] at hb
    rw [List.getElem?_set] at hb
    by_cases e : nextO dd ps (playN dd ps k) = i
    · rw [if_pos e, if_pos (by rw [plS_len]; exact h1)] at hb
      injection hb with hb
      subst e
      refine .inr ?_
      rw [← hb, plS_ex]
      exact List.mem_singleton.2 rfl
    · rw [if_neg e] at hb
      refine .inl (ih (by omega) i b ?_ hb)
      rcases List.mem_append.1 hi with hi | hi
      · exact hi
      · exact absurd (List.mem_singleton.1 hi).symm e
/-- the schedule makes what serial execution makes -/
theorem play_serial (hd : ∀ d ∈ dd, chkD d = 0) (v : VF) : plS dd ps v dd.length = serV v dd := by
  have hk := play_kept dd ps
  obtain ⟨h1, h2⟩ := kept_same hd dd.length (Nat.le_refl _) _ hk v
  have s3 := (serV_atD (dd := dd) v (List.range dd.length)).1
  rw [atD_range] at s3
  refine Prod.ext (by rw [plS_ex, h1, s3]) (List.ext_getElem? fun i => ?_)
  by_cases hi : i < dd.length
  · have hl : i < (plS dd ps v dd.length).2.length := by rw [plS_len]; exact hi
    rw [List.getElem?_eq_getElem hl]
    have hm := plS_out (dd := dd) (ps := ps) v dd.length (Nat.le_refl _) i _ ((hk.mem i).2 hi) (List.getElem?_eq_getElem hl)
    exact (mem_out.1 ((h2 _).1 hm)).symm
  · rw [List.getElem?_eq_none (by rw [plS_len]; omega), List.getElem?_eq_none (by rw [serV_len]; omega)]
end
end Go.Proofs.YtpefdonhacmaoaaGreat

set_option linter.unusedVariables false
set_option linter.unusedSimpArgs false
namespace Go.Proofs.YtpefdonhacmaoaaGreat
open Go.RowKit

/-- the error of a list of transactions -/
def chkP (dd : List (List Opr)) : Int := if 60 < dd.length then 2 else chkDs dd
theorem chkP_zero {dd : List (List Opr)} : chkP dd = 0 ↔ dd.length ≤ 60 ∧ ∀ d ∈ dd, chkD d = 0 := by
  unfold chkP
  by_cases h : 60 < dd.length
  · rw [if_pos h]; exact ⟨fun e => absurd e (by decide), fun e => by omega⟩
  · rw [if_neg h, chkDs_zero]; exact ⟨fun e => ⟨by omega, e⟩, fun e => e.2⟩

set_option maxHeartbeats 400000 in
set_option maxRecDepth 100000 in
theorem pcheck_any (A : Option Addr) (c : Nat) (ds : List Dl) (w : World) (hD : DS w A ds) (hl : ds.length ≤ 9223372036854775807) :
    Calls Tryz.prog 68 #[.slice A ds.length c] w fun e w' => e = .returned (.int .i64 (chkP (ddOf ds))) ∧ Below w.heap.size w w' := by
  by_cases h60 : 60 < ds.length
  · have HC := hideP (show chkP (ddOf ds) = 2 by unfold chkP; rw [ddOf_len, if_pos h60])
    have g1 : (60 : Int) < (ds.length : Int) := by omega
    go_enter Tryz.func68, Tryz.ntmps68
    go_wp2_with fail
    go_ret
    exact ⟨ret_int HC.out.symm, Below.refl _ _⟩
  have HC := hideP (show chkP (ddOf ds) = chkDs (ddOf ds) by unfold chkP; rw [ddOf_len, if_neg h60])
  have g1 : ¬ (60 : Int) < (ds.length : Int) := by omega
  go_enter Tryz.func68, Tryz.ntmps68
  go_wp2_with fail
  go_loopw [11] (fun i wr => ∃ k : Nat, k ≤ ds.length ∧ i = .int .i64 k ∧ chkDs (ddOf ds) = chkDs ((ddOf ds).drop k) ∧ Below w.heap.size w wr) (fun i _ => ds.length - (intOf i).toNat)
  case atStart => exact ⟨0, Nat.zero_le _, rfl, rfl, Below.refl _ _⟩
  case round =>
    obtain ⟨k, hk, rfl, hchk, hb⟩ := hrel
    by_cases hlt : k < ds.length
    · rw [chkDs_next (by rw [ddOf_len]; exact hlt)] at hchk
      obtain ⟨⟨b, o, rfl, hbl, q1⟩, hos⟩ := (hD.below hb).at_ hlt
      have hdk : (ddOf ds)[k]'(by rw [ddOf_len]; exact hlt) = ds[k].d := by simp [ddOf]
      rw [hdk] at hchk
      generalize ds[k] = x at hchk q1 hos
      obtain ⟨Dx, cx, dx⟩ := x
      simp only [dlV] at q1 hos hchk
      have HK := hideP hchk
      have hab := (Below.refl wr.heap.size wr).alloc (Nat.le_refl _) (.cells #[.slice Dx dx.length cx] 39)
      have hb2 := hb.alloc hb.size (.cells #[.slice Dx dx.length cx] 39)
      have hos2 := hos.go hab
      clear hchk hdk hD hos hab
      go_wp2_with fail
      refine (dcheck_any Dx cx dx _ hos2).mono ?_
      rintro e w3 ⟨rfl, hb3⟩
      have hb4 := hb2.trans (hb3.mono hb2.size)
      clear hb hb2 hb3 hos2
      by_cases h0 : chkD dx = 0
      · have H0 := hideP h0
        rw [h0]
        clear h0
        go_wp2_with fail
        go_roundw
        case rel => exact ⟨k + 1, by omega, by go_num, by rw [HK.out, if_pos H0.out], hb4⟩
        case measure => simp [intOf]; omega
      · have H0 := hideP h0
        have d0 : (chkD dx != 0) = true := by simp [h0]
        clear h0
        generalize hq : chkD dx = q at d0
        have HQ := hideP hq
        clear hq
        go_wp2_with fail
        go_ret
        exact ⟨ret_int (by rw [HC.out, HK.out, if_neg H0.out, HQ.out]), hb4⟩
    · go_wp2_with fail
      go_ret
      exact ⟨ret_int (by rw [HC.out, hchk, List.drop_of_length_le (by rw [ddOf_len]; omega)]; rfl), hb⟩
end Go.Proofs.YtpefdonhacmaoaaGreat

set_option linter.unusedVariables false
set_option linter.unusedSimpArgs false
namespace Go.Proofs.YtpefdonhacmaoaaGreat
open Go.RowKit Go.WideMaps Go.Maps

/-- a table that holds all -/
def RetFill (w : World) (ds : List Dl) (e : Ending) (w' : World) : Prop :=
  ∃ g left, e = .returned (.pointer (some ⟨g, 0, none⟩)) ∧ TB w' w.heap.size g ds.length left ∧ Lk left (ddOf ds) (fun _ => false) ∧ Below w.heap.size w w'
/-- while they are added -/
def FillInv (w1 : World) (g : Nat) (ds : List Dl) (i : Value) (wr : World) : Prop :=
  ∃ (k : Nat) (left : List En), k ≤ ds.length ∧ i = .int .i64 k ∧ TB wr w1.heap.size g k left ∧ Lk left (ddOf (ds.take k)) (fun _ => false) ∧ Below w1.heap.size w1 wr

set_option maxHeartbeats 1000000 in
set_option maxRecDepth 100000 in
theorem fill_any (A : Option Addr) (c : Nat) (ds : List Dl) (w : World) (hDS : DS w A ds) (hc : chkP (ddOf ds) = 0) :
    Calls Tryz.prog 69 #[.slice A ds.length c] w (RetFill w ds) := by
  obtain ⟨hlen, hchk⟩ := chkP_zero.1 hc
  rw [ddOf_len] at hlen
  have HCK := hideP hchk
  clear hc hchk
  go_enter Tryz.func69, Tryz.ntmps69
  go_wp2_with fail
  refine (new_any _).mono ?_
  rintro e w2 ⟨rfl, hTB2, hb3, hlt3⟩
  have HI := hideP (show FillInv w w.heap.size ds (.int .i64 0) w2 from ⟨0, [], Nat.zero_le _, rfl, hTB2, Lk.nil _, hb3⟩)
  clear hTB2 hb3 hlt3
  go_wp2_with fail
  obtain ⟨g, hg⟩ : ∃ g, g = w.heap.size := ⟨_, rfl⟩
  rw [show FillInv w w.heap.size ds = FillInv w g ds by rw [hg]] at HI
  rw [← hg]
  have HG := hideP hg
  clear hg
  go_loopw [9] (FillInv w g ds) (fun i _ => ds.length - (intOf i).toNat)
  case atStart => exact HI.out
  case round =>
    clear HI
    obtain ⟨k, left, hk, rfl, hTB, hLk, hbw⟩ := hrel
    by_cases hkl : k < ds.length
    · obtain ⟨⟨b, o, rfl, hbl, q1⟩, hos⟩ := (hDS.below hbw).at_ hkl
      have hck := HCK.out _ (show ds[k].d ∈ ddOf ds from List.mem_map.2 ⟨_, List.getElem_mem hkl, rfl⟩)
      have HT := hideP (ddOf_take hkl)
      have hdl : (ddOf (ds.take k)).length = k := by rw [ddOf_len, List.length_take]; omega
      generalize ds[k] = x at q1 hos hck HT
      obtain ⟨Dx, cx, dx⟩ := x
      simp only [dlV] at q1 hos hck HT
      have hb4 := (Below.refl wr.heap.size wr).alloc (Nat.le_refl _) (.cells #[.slice Dx dx.length cx] 39)
      have hTB4 := hTB.below hb4
      have hos4 := hos.go hb4
      have hbw4 := hbw.trans (hb4.mono hbw.size)
      have HL := hideP (fun A c => hLk.add rfl A c dx)
      rw [hdl, ← HT.out] at HL
      have r1 : (wr.alloc (.cells #[.slice Dx dx.length cx] 39)).cell? ⟨wr.heap.size, 0, none⟩ = some (.slice Dx dx.length cx) := by simp
      have hv : addV k dx = (k, 0) := by unfold addV; rw [if_pos hck, if_pos (by omega)]
      have g1 : (0 : Int) ≤ (k : Int) := by omega
      have g2 : (k : Int) < (ds.length : Int) := by omega
      have HV := hideP hv
      clear hTB hLk hos hb4 hDS HT hv
      go_wp2_with fail
      refine (add_any g w.heap.size k left Dx cx dx _ hTB4 hbw4.size hos4).mono ?_
      rintro e w5 ⟨he, hK5, hT5⟩
      rw [HV.out] at he hT5
      subst he
      obtain ⟨A5, c5, hT6⟩ : ∃ A c, TB w5 w.heap.size g (k + 1) (left ++ [⟨k, A, c, dx⟩]) := by
        rcases hT5 with ⟨_, h⟩ | ⟨h, _⟩
        · exact h
        · exact absurd rfl h
      have hb6 := hbw4.trans hK5.bel
      have hL6 := HL.out A5 c5
      clear hT5 hK5 hTB4 hos4 r1 HV HL
      go_wp2_with fail
      go_roundw
      case rel => exact ⟨k + 1, _, by omega, by go_num, hT6, hL6, hb6⟩
      case measure => simp [intOf] <;> omega
    · have hkk : k = ds.length := by omega
      subst hkk
      rw [List.take_length] at hLk
      have HR := hideP (show RetFill w ds (.returned (.pointer (some ⟨g, 0, none⟩))) wr from ⟨g, left, rfl, hTB, hLk, hbw⟩)
      clear hTB hLk
      go_wp2_with fail
      go_ret
      exact HR.out

set_option maxHeartbeats 400000 in
set_option maxRecDepth 100000 in
theorem choice_any (P : Option Addr) (c : Nat) (ps : List Int) (s k : Nat) (w : World) (hP : IS w P ps) (hl : ps.length ≤ 9223372036854775807) (h1 : 1 ≤ k) (h2 : k ≤ 60) (hs : s ≤ 60) :
    Calls Tryz.prog 71 #[.slice P ps.length c, .int .i64 (s : Int), .int .i64 (k : Int)] w fun e w' => e = .returned (.int .i64 (chV ps s k : Int)) ∧ w = w' := by
  by_cases h : s < ps.length
  · have HC := hideP (show chV ps s k = wi ps[s] k by unfold chV; rw [if_pos h, List.getD_eq_getElem?_getD, List.getElem?_eq_getElem h]; rfl)
    obtain ⟨b, o, rfl, hbl, q1⟩ := hP s _ (List.getElem?_eq_getElem h)
    generalize ps[s] = z at q1 HC
    have HW := hideP (wi_eq z k h1 (by omega))
    have g1 : (0 : Int) ≤ (s : Int) := by omega
    have g2 : (s : Int) < (ps.length : Int) := by omega
    have g3 : (1 : Int) ≤ (k : Int) := by omega
    go_enter Tryz.func71, Tryz.ntmps71
    go_wp2_with fail
    go_ret
    exact ⟨ret_int (by rw [HC.out]; exact HW.out), rfl⟩
  · have HC := hideP (show chV ps s k = 0 by unfold chV; rw [if_neg h])
    have g1 : (ps.length : Int) ≤ (s : Int) := by omega
    go_enter Tryz.func71, Tryz.ntmps71
    go_wp2_with fail
    go_ret
    exact ⟨ret_int (by rw [HC.out]; rfl), rfl⟩
end Go.Proofs.YtpefdonhacmaoaaGreat

set_option linter.unusedVariables false
set_option linter.unusedSimpArgs false
namespace Go.Proofs.YtpefdonhacmaoaaGreat
open Go.RowKit

theorem made_bools (n : Nat) : (madeCells (Value.bool false).cells (n * 1)).toList = (List.replicate n false).map Value.bool := by
  rw [Nat.mul_one, madeCells, Array.toList_map]
  apply List.ext_getElem?
  intro i
  simp [Value.cells, Nat.mod_one]
  by_cases h : i < n <;> simp [h, List.getElem?_replicate]
theorem rep_false (n i : Nat) : (List.replicate n false).getD i false = false := by
  rw [List.getD_eq_getElem?_getD, List.getElem?_replicate]; split <;> rfl
theorem slice_upto (T : Option Addr) (n ct m : Nat) (hm : m ≤ ct) (hn : T = none → ct = 0) (w : World) : (Instr.slice 22 (.slice T n ct) none (some (.int .i64 (m : Int))) none).run Tryz.prog w = .ok (.slice T m ct) w := by
  have g1 : (0 : Int) ≤ (m : Int) := by omega
  have g2 : (m : Int) ≤ (ct : Int) := by omega
  cases T with
  | none =>
    obtain rfl := hn rfl
    obtain rfl : m = 0 := by omega
    clear hn hm
    go_simp
  | some a =>
    clear hn hm
    go_simp
theorem made_ints (n : Nat) : (madeCells (Value.int .i64 0).cells (n * 1)).toList = nV (List.replicate n 0) := by
  rw [Nat.mul_one, madeCells, Array.toList_map]
  apply List.ext_getElem?
  intro i
  simp [Value.cells, Nat.mod_one, nV]
  by_cases h : i < n <;> simp [h, List.getElem?_replicate]
end Go.Proofs.YtpefdonhacmaoaaGreat
