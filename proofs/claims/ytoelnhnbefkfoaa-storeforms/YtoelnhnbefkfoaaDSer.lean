/-
  deed.Serial.
-/
import Derived.Test.YtoelnhnbefkfoaaDRun
import Derived.Test.YtoelnhnbefkfoaaDDs
set_option linter.unusedVariables false
set_option linter.unusedSimpArgs false
namespace Go.Proofs.Ytoelnhnbefkfoaa
open Go.RowKit

/-- what Serial hands back -/
def RetSer (w : World) (r : VF × List Bool) (e : Ending) (w' : World) : Prop :=
  ∃ A c l A2 c2, e = .returned (.tuple #[.slice A (l : List Pr).length c, .slice A2 r.2.length c2, .int .i64 0]) ∧ OV w' w.heap.size A c l ∧ Ok l ∧ valOf l = r.1 ∧ OR w' w.heap.size 4 A2 c2 (r.2.map Value.bool) ∧ Below w.heap.size w w'
/-- while the transactions are executed -/
def SerInv (B : Nat) (w4 : World) (v : VF) (ds : List (List Opr)) (s x i : Value) (wr : World) : Prop :=
  ∃ (k : Nat) (A : Option Addr) (c : Nat) (l : List Pr) (A2 : Option Addr) (c2 : Nat), k ≤ ds.length ∧ i = .int .i64 k ∧ s = .slice A l.length c ∧ x = .slice A2 (serV v (ds.take k)).2.length c2 ∧ OV wr B A c l ∧ Ok l ∧ valOf l = (serV v (ds.take k)).1 ∧
    OR wr w4.heap.size 4 A2 c2 ((serV v (ds.take k)).2.map Value.bool) ∧ chkDs ds = chkDs (ds.drop k) ∧ Below w4.heap.size w4 wr

set_option maxHeartbeats 1000000 in
set_option maxRecDepth 100000 in
theorem serial_any (A D : Option Addr) (c cd : Nat) (l : List Pr) (ds : List Dl) (w : World) (hA : SV w A c l) (h : Ok l) (hD : DS w D ds) (hn : ds.length ≤ 60) :
    Calls Try.prog 27 #[.slice A l.length c, .slice D ds.length cd] w fun e w' =>
      (chkDs (ds.map (·.d)) = 0 ∧ RetSer w (serV (valOf l) (ds.map (·.d))) e w') ∨ (chkDs (ds.map (·.d)) ≠ 0 ∧ e = .returned (.tuple #[.slice none 0 0, .slice none 0 0, .int .i64 (chkDs (ds.map (·.d)))]) ∧ Below w.heap.size w w') := by
  have hll := h.small
  have HC := hideP (chk_ok.2 h)
  have g1 : ¬ (60 : Int) < (ds.length : Int) := by omega
  go_enter Try.func27, Try.ntmps27
  go_wp2_with fail
  refine (check_any A c l _ hA.ps (by omega)).mono ?_
  rintro e w1 ⟨rfl, hb1⟩
  rw [HC.out]
  have hA1 := hA.below hb1
  have hD1 := hD.below hb1
  clear hA hD
  go_wp2_with fail
  refine (concat1 _ _ rfl A _ c l rfl hA1.ps (by omega)).mono ?_
  rintro e w4 ⟨v4, rfl, hown, hb5⟩
  obtain ⟨A4, c4, rfl, hO⟩ := OV.of_own hown
  have hb6 := (Below.refl w1.heap.size w1).alloc (Nat.le_refl _) (.cells #[.slice A l.length c] 45)
  have hb7 := hb6.trans (hb5.mono hb6.size)
  have hD4 := hD1.below hb7
  have hb8 := hb1.trans (hb7.mono hb1.size)
  have hO4 : OV w4 w.heap.size A4 c4 l := hO.mono (Nat.le_trans hb1.size hb6.size)
  clear hA1 hD1 hb1 hb5 hb6 hb7 hO hown
  go_wp2_with fail
  go_loopw [8, 9, 28] (SerInv w.heap.size w4 (valOf l) (ds.map (·.d))) (fun _ _ i _ => ds.length - (intOf i).toNat)
  case atStart => exact ⟨0, A4, c4, l, none, 0, Nat.zero_le _, rfl, rfl, rfl, hO4, h, rfl, OR.nil _ _ _, rfl, Below.refl _ _⟩
  case round =>
    obtain ⟨k, Ak, ck, lk, A2, c2, hk, rfl, rfl, rfl, hOk, hok, hval, hor, hchk, hb⟩ := hrel
    have HV := hideP hval
    have HK := hideP hchk
    clear hval hchk hO4
    simp only [List.length_map] at hk
    by_cases hlt : k < ds.length
    · have hkm : k < (ds.map (·.d)).length := by simpa using hlt
      have hnext := chkDs_next hkm
      have htake := serV_take (v := valOf l) hkm
      obtain ⟨⟨b, o, rfl, hbl, q1⟩, hos⟩ := (hD4.below hb).at_ hlt
      rw [List.getElem_map] at hnext htake
      generalize ds[k] = x at hnext htake q1 hos
      have HN := hideP hnext
      have HT := hideP htake
      clear hnext htake hD4
      obtain ⟨Dx, cx, dx⟩ := x
      simp only [dlV] at q1
      simp only at hos
      have hsz := Nat.le_trans hb8.size hb.size
      have hlen := hideP (serV_len (valOf l) ((ds.map (·.d)).take k))
      have hab := (Below.refl wr.heap.size wr).alloc (Nat.le_refl _) (.cells #[.slice Dx dx.length cx] 81)
      have hb9 := hb.alloc hb.size (.cells #[.slice Dx dx.length cx] 81)
      have hO9 := hOk.below hab
      have hor9 := hor.below hab
      have hos9 := hos.go hab
      have hat : (wr.alloc (.cells #[.slice Dx dx.length cx] 81)).cell? ⟨wr.heap.size, 0, none⟩ = some (.slice Dx dx.length cx) := by simp
      go_wp2_with fail
      generalize wr.alloc (.cells #[.slice Dx dx.length cx] 81) = w5 at hb9 hO9 hor9 hos9 hat ⊢
      clear hab hOk hor hos
      by_cases h0 : chkD dx = 0
      · refine (run_ok Ak Dx ck cx lk dx _ hO9.sv hok hos9 h0).mono ?_
        rintro e w6 ⟨A6, c6, l6, rfl, hO6, hok6, hv6, hb10⟩
        have hb11 := hb9.trans (hb10.mono hb9.size)
        have hor6 := hor9.below hb10
        have hO7 : OV w6 w.heap.size A6 c6 l6 := hO6.mono (Nat.le_trans hb8.size hb9.size)
        have hsz6 := Nat.le_trans hb8.size hb11.size
        have HV6 := hideP hv6
        have H0 := hideP h0
        rw [HV.out] at HV6 ⊢
        generalize hdn : doneV (serV (valOf l) ((ds.map (·.d)).take k)).1 dx = dn at HV6 HT ⊢
        clear hdn hv6 h0
        have hl60 : (serV (valOf l) ((ds.map (·.d)).take k)).2.length ≤ 60 := by rw [hlen.out]; simp; omega
        have hsz7 := hb11.size
        have hne := rows_apart (m := w5.heap.size) (fun k hk => (World.ownsRow.lt hO6 k hk).1) (fun k hk => (World.ownsRow.lt hor9 k hk).2)
        obtain ⟨A7, c7, w7, hrun, hor7, hbel, hgr, _⟩ := app_row (P := Try.prog) Try.underlying56 boolInfo rfl w6 w4.heap.size 56 A2 c2 _ hor6 [.bool dn.2] (by simp [Value.oneCell']) (by simp; omega) (by decide) hsz7
        have hO8 : OV w7 w.heap.size A6 c6 l6 := World.ownsRow.kept (World.ownsRow.alloc hO7 _) hgr hne
        have hb12 := hbel w4.heap.size w4 (Nat.le_refl _) hb11
        have hl7 : ((serV (valOf l) ((ds.map (·.d)).take k)).2.map Value.bool ++ [Value.bool dn.2]) = (serV (valOf l) ((ds.map (·.d)).take (k + 1))).2.map Value.bool := by rw [HT.out]; simp
        rw [hl7, List.length_map, List.length_map] at hrun
        rw [hl7] at hor7
        have HR := hideP hrun
        have HC6 := hideP (show chkDs (ds.map (·.d)) = chkDs ((ds.map (·.d)).drop (k + 1)) by rw [HK.out, HN.out, if_pos H0.out])
        have HV7 := hideP (show valOf l6 = (serV (valOf l) ((ds.map (·.d)).take (k + 1))).1 by rw [HV6.out, HT.out])
        clear hrun hl7 hne hgr hbel hor6 hO7 hO6 hor9 hb11 hb10 hb9 hO9 hos9
        go_wp2_with (at_builtin; refine Lib.wpList_append_run _ rfl _ _ _ _ rfl _ _ rfl rfl _ _ HR.out ?_)
        go_roundw
        case rel => exact ⟨k + 1, A6, c6, l6, A7, c7, by simp; omega, by go_num, rfl, rfl, hO8, hok6, HV7.out, hor7, HC6.out, hb12⟩
        case measure => simp [intOf]; omega
      · refine (run_bad Ak Dx ck cx lk dx _ hO9.sv (by have := hok.small; omega) hos9 (by simp [chkR, chk_ok.2 hok, h0])).mono ?_
        rintro e w6 ⟨rfl, hb10⟩
        have hcr : chkR lk dx = chkD dx := by simp [chkR, chk_ok.2 hok]
        rw [hcr]
        have d0 : (chkD dx != 0) = true := by simp [h0]
        have HF := hideP (show chkDs (ds.map (·.d)) = chkD dx by rw [HK.out, HN.out, if_neg h0])
        have H0 := hideP h0
        clear hcr h0
        generalize hq : chkD dx = q at d0
        have HQ := hideP hq
        clear hq
        have hb11 := hb9.trans (hb10.mono hb9.size)
        have hb12 := hb8.trans (hb11.mono hb8.size)
        go_wp2_with fail
        go_ret3
        exact .inr ⟨by rw [HF.out]; exact H0.out, by rw [HF.out, HQ.out]; rfl, hb12⟩
    · have hall : (ds.map (·.d)).take k = ds.map (·.d) := List.take_of_length_le (by simp; omega)
      rw [hall] at HV hor ⊢
      have HF := hideP (show chkDs (ds.map (·.d)) = 0 by rw [HK.out, List.drop_of_length_le (by simp; omega)]; rfl)
      have hb12 := hb8.trans (hb.mono hb8.size)
      go_wp2_with fail
      go_ret3
      exact .inl ⟨HF.out, Ak, ck, lk, A2, c2, rfl, hOk, hok, HV.out, hor.mono hb8.size, hb12⟩
end Go.Proofs.Ytoelnhnbefkfoaa
