/-
  roref.Deeds and roref.Serial.
-/
import Derived.Test.YtkikhananegclaaDoorRRun
set_option linter.unusedVariables false
set_option linter.unusedSimpArgs false
namespace Go.Proofs.YtkikhananegclaaDoor
open Go.RowKit Go.WideMaps Go.Maps

/-- what Deeds answers -/
def chkL (ds : List (List Opr)) : Int := if 60 < ds.length then 2 else chkDs ds
set_option maxRecDepth 100000 in
set_option maxHeartbeats 1000000 in
theorem rdeeds_any (D : Option Addr) (cd : Nat) (ds : List Dl) (w : World) (hD : DS w D ds) :
    Calls Tryd.prog 20 #[.slice D ds.length cd] w fun e w' => e = .returned (.int .i64 (chkL (ds.map (·.d)))) ∧ Below w.heap.size w w' := by
  by_cases h60 : 60 < ds.length
  · have HC := hideP (show chkL (ds.map (·.d)) = 2 by unfold chkL; rw [if_pos (by simpa using h60)])
    have g1 : (60 : Int) < (ds.length : Int) := by omega
    go_enter Tryd.func20, Tryd.ntmps20
    go_wp2_with fail
    go_ret
    exact ⟨ret_int HC.out.symm, Below.refl _ _⟩
  · have HC := hideP (show chkL (ds.map (·.d)) = chkDs (ds.map (·.d)) by unfold chkL; rw [if_neg (by simpa using h60)])
    have g1 : ¬ (60 : Int) < (ds.length : Int) := by omega
    go_enter Tryd.func20, Tryd.ntmps20
    go_wp2_with fail
    go_loopw [11] (fun i wr => ∃ k : Nat, k ≤ ds.length ∧ i = .int .i64 k ∧ chkDs (ds.map (·.d)) = chkDs ((ds.map (·.d)).drop k) ∧ Below w.heap.size w wr) (fun i _ => ds.length - (intOf i).toNat)
    case atStart => exact ⟨0, Nat.zero_le _, rfl, rfl, Below.refl _ _⟩
    case round =>
      obtain ⟨k, hk, rfl, hchk, hb⟩ := hrel
      by_cases hlt : k < ds.length
      · have hnext := chkDs_next (l := ds.map (·.d)) (k := k) (by simpa using hlt)
        obtain ⟨⟨b, o, rfl, hbl, q1⟩, hos⟩ := (hD.below hb).at_ hlt
        rw [List.getElem_map] at hnext
        generalize ds[k] = x at hnext q1 hos
        have HK := hideP hchk
        have HN := hideP hnext
        clear hchk hnext hD
        obtain ⟨Dx, cx, dx⟩ := x
        simp only [dlV] at q1
        simp only at hos
        have hab := (Below.refl wr.heap.size wr).alloc (Nat.le_refl _) (.cells #[.slice Dx dx.length cx] 24)
        have hb0 := hb.alloc hb.size (.cells #[.slice Dx dx.length cx] 24)
        have hos0 := hos.go hab
        go_wp2_with fail
        refine (rdeed_any Dx cx dx _ hos0).mono ?_
        rintro e w1 ⟨rfl, hb1⟩
        have hb2 := hb0.trans (hb1.mono hb0.size)
        clear hab hb0 hb1 hos hos0
        by_cases h0 : chkD dx = 0
        · have HF := hideP (show chkDs (ds.map (·.d)) = chkDs ((ds.map (·.d)).drop (k + 1)) by rw [HK.out, HN.out, if_pos h0])
          rw [h0]
          clear h0
          go_wp2_with fail
          go_roundw
          case rel => exact ⟨k + 1, by omega, by go_num, HF.out, hb2⟩
          case measure => simp [intOf]; omega
        · have HF := hideP (show chkDs (ds.map (·.d)) = chkD dx by rw [HK.out, HN.out, if_neg h0])
          have d0 : (chkD dx != 0) = true := by simp [h0]
          clear h0
          generalize chkD dx = q at d0 HF ⊢
          go_wp2_with fail
          go_ret
          exact ⟨ret_int (by rw [HC.out, HF.out]), hb2⟩
      · go_wp2_with fail
        go_ret
        exact ⟨ret_int (by rw [HC.out, hchk, List.drop_of_length_le (by simp; omega)]; rfl), hb⟩
/-- a map's block is not a row's -/
theorem map_not_row {w : World} {b n B : Nat} {D : DataW Unit} {t : TypeId} {A : Option Addr} {c : Nat} {xs : List Value} (h : w.ownsMap Tryd.prog 9 (plainElem Tryd.prog 3) b n D) (hr : OR w B t A c xs) : (Value.slice A xs.length c).ownBlock ≠ some b := fun e => by
  obtain ⟨es, clock, hb, _⟩ := h
  rcases hr.2 with ⟨hv, _⟩ | ⟨g, cap, cur, hv, _, hg, _⟩
  · rw [hv] at e; cases e
  · rw [hv] at e
    have : g = b := by simpa [Value.ownBlock] using e
    rw [this, hb] at hg; cases hg
/-- while the transactions are executed -/
def SerRInv (w : World) (n : Nat) (f : VF) (ds : List (List Opr)) (v s i : Value) (wr : World) : Prop :=
  ∃ (k b : Nat) (A : Option Addr) (c : Nat), k ≤ ds.length ∧ i = .int .i64 k ∧ v = .map (some b) ∧ s = .slice A (serV f (ds.take k)).2.length c ∧ MV wr b (n + 16 * k) (serV f (ds.take k)).1 ∧ (∀ j, valB ((serV f (ds.take k)).1 j) = true) ∧
    OR wr w.heap.size 4 A c ((serV f (ds.take k)).2.map Value.bool) ∧ Below w.heap.size w wr
theorem runV_vb {d : List Opr} (hd : ∀ o ∈ d, chkO o = 0) {v u : VF} (hv : ∀ k, valB (v k) = true) (h : runV v d = some u) : ∀ k, valB (u k) = true := by
  induction d generalizing v with
  | nil => injection h with h; rw [← h]; exact hv
  | cons o r ih =>
    rw [runV_cons] at h
    cases hs : stepV v o with
    | none => rw [hs] at h; cases h
    | some x => rw [hs] at h; exact ih (fun q hq => hd q (by simp [hq])) (stepV_vb (hd o (by simp)) hv hs) h
theorem doneV_vb {d : List Opr} (hd : ∀ o ∈ d, chkO o = 0) {v : VF} (hv : ∀ k, valB (v k) = true) : ∀ k, valB ((doneV v d).1 k) = true := by
  cases hr : runV v d with
  | none => rw [doneV_none hr]; exact hv
  | some u => rw [doneV_some hr]; exact runV_vb hd hv hr
/-- Run at a valid transaction: what it leaves -/
theorem rrunR_done (b n : Nat) (f : VF) (A : Option Addr) (c : Nat) (d : List Opr) (w : World) (hM : MV w b n f) (hn : n ≤ 500000000) (hf : ∀ k, valB (f k) = true) (hA : OS w w.heap.size A d) (hd : chkD d = 0) :
    Calls Tryd.prog 17 #[.map (some b), .agg #[.slice A d.length c]] w fun e w' => ∃ b', e = .returned (.tuple #[.map (some b'), .bool (doneV f d).2]) ∧ MV w' b' (n + 16) (doneV f d).1 ∧ Below w.heap.size w w' := by
  refine (rrunR_any b n f A c d w hM hn hf hA hd).mono ?_
  rintro e w' (⟨u, bo, hr, rfl, hM', _, hb⟩ | ⟨hr, rfl, hb⟩)
  · rw [doneV_some hr]; exact ⟨bo, rfl, hM', hb⟩
  · rw [doneV_none hr]; exact ⟨b, rfl, (hM.below hb).mono (by omega), hb⟩

set_option maxRecDepth 100000 in
set_option maxHeartbeats 1000000 in
theorem rserial_any (b n : Nat) (f : VF) (D : Option Addr) (cd : Nat) (ds : List Dl) (w : World) (hM : MV w b n f) (hn : n ≤ 400000000) (hf : ∀ k, valB (f k) = true) (hD : DS w D ds) (hl : ds.length ≤ 60) (hc : ∀ x ∈ ds, chkD x.d = 0) :
    Calls Tryd.prog 21 #[.map (some b), .slice D ds.length cd] w fun e w' => ∃ b' A c, e = .returned (.tuple #[.map (some b'), .slice A (serV f (ds.map (·.d))).2.length c]) ∧ MV w' b' (n + 1000) (serV f (ds.map (·.d))).1 ∧ OR w' w.heap.size 4 A c ((serV f (ds.map (·.d))).2.map Value.bool) ∧ Below w.heap.size w w' := by
  go_enter Tryd.func21, Tryd.ntmps21
  go_wp2_with fail
  go_loopw [0, 6, 12] (SerRInv w n f (ds.map (·.d))) (fun _ _ i _ => ds.length - (intOf i).toNat)
  case atStart => exact ⟨0, b, none, 0, Nat.zero_le _, rfl, rfl, rfl, hM, hf, OR.nil _ _ _, Below.refl _ _⟩
  case round =>
    obtain ⟨k, bk, A, c, hk, rfl, rfl, rfl, hMk, hvk, hor, hb⟩ := hrel
    clear hM
    simp only [List.length_map] at hk
    by_cases hlt : k < ds.length
    · have htake := serV_take (v := f) (a := ds.map (·.d)) (k := k) (by simpa using hlt)
      obtain ⟨⟨b1, o1, rfl, hbl, q1⟩, hos⟩ := (hD.below hb).at_ hlt
      have hcd := hc _ (List.getElem_mem hlt)
      have hlen := serV_len f ((ds.map (·.d)).take k)
      rw [List.getElem_map] at htake
      generalize ds[k] = x at htake q1 hos hcd
      have HT := hideP htake
      have HL := hideP hlen
      clear htake hD hc hlen
      obtain ⟨Dx, cx, dx⟩ := x
      simp only [dlV] at q1
      simp only at hos hcd HT
      have hab := (Below.refl wr.heap.size wr).alloc (Nat.le_refl _) (.cells #[.slice Dx dx.length cx] 24)
      have hb0 := hb.alloc hb.size (.cells #[.slice Dx dx.length cx] 24)
      have hos0 := hos.go hab
      have hM0 := hMk.below hab
      have hor0 := hor.below hab
      have hvd := hideP (doneV_vb (chkD_zero.1 hcd).2.2 hvk)
      generalize serV f ((ds.map (·.d)).take k) = r at HT HL hM0 hvk hor0 hvd ⊢
      go_wp2_with fail
      generalize wr.alloc (.cells #[.slice Dx dx.length cx] 24) = w5 at hb0 hos0 hM0 hor0 ⊢
      refine (rrunR_done bk _ r.1 Dx cx dx _ hM0 (by omega) hvk hos0 hcd).mono ?_
      rintro e w6 ⟨b', rfl, hM6, hb6⟩
      have hb7 := hb0.trans (hb6.mono hb0.size)
      have hor6 := hor0.below hb6
      clear hab hos hos0 hb0 hb6 hM0 hor0 hor hMk hb
      generalize hdn : doneV r.1 dx = dn at HT hvd hM6 ⊢
      clear hdn
      have hl60 : r.2.length ≤ 60 := by rw [HL.out]; simp; omega
      obtain ⟨A7, c7, w7, hrun, hor7, hbel, hgr, _⟩ := app_row (P := Tryd.prog) Tryd.underlying42 boolInfo rfl w6 w.heap.size 42 A c _ hor6 [.bool dn.2] (by simp [Value.oneCell']) (by simp; omega) (by decide) hb7.size
      have hm6 := hM6.lt
      have hM7 : MV w7 b' (n + 16 * k + 16) dn.1 := MV.kept (MV.below hM6 ((Below.refl _ _).alloc (Nat.le_refl _) (.cells #[.bool dn.2] 4))) hgr (fun e => by
        obtain ⟨Dm, hown, _⟩ := hM6.ex
        exact map_not_row hown hor6 e.symm)
      have hb8 := hbel w.heap.size w (Nat.le_refl _) hb7
      have hl7 : (r.2.map Value.bool ++ [Value.bool dn.2]) = (serV f ((ds.map (·.d)).take (k + 1))).2.map Value.bool := by rw [HT.out]; simp
      rw [hl7] at hrun hor7
      simp only [List.length_map] at hrun
      have HR := hideP hrun
      have HM8 := hideP (show MV w7 b' (n + 16 * (k + 1)) (serV f ((ds.map (·.d)).take (k + 1))).1 by rw [HT.out]; exact hM7.mono (by omega))
      have HV8 := hideP (show ∀ j, valB ((serV f ((ds.map (·.d)).take (k + 1))).1 j) = true by rw [HT.out]; exact hvd.out)
      clear hrun hgr hbel hor6 hM6 hM7 hb7 hl7 hvd
      go_wp2_with (at_builtin; refine Lib.wpList_append_run _ rfl _ _ _ _ rfl _ _ rfl rfl _ _ HR.out ?_)
      go_roundw
      case rel => exact ⟨k + 1, b', A7, c7, by simp; omega, by go_num, rfl, rfl, HM8.out, HV8.out, hor7, hb8⟩
      case measure => simp [intOf]; omega
    · rw [List.take_of_length_le (by simp; omega)] at hMk hor ⊢
      have hMf := hMk.mono (show n + 16 * k ≤ n + 1000 by omega)
      clear hMk
      go_wp2_with fail
      go_ret2
      exact ⟨bk, A, c, rfl, hMf, hor, hb⟩
end Go.Proofs.YtkikhananegclaaDoor
