/-
  rolaw.DeedRuns: the law answers true.
-/
import Derived.Test.YtkikhananegclaaDoorRSer
import Derived.Test.YtkikhananegclaaDoorBEq
import Derived.Test.YtkikhananegclaaDoorEqual
import Derived.Test.YtkikhananegclaaDoorLits
set_option linter.unusedVariables false
set_option linter.unusedSimpArgs false
namespace Go.Proofs.YtkikhananegclaaDoor
open Go.RowKit Go.WideMaps Go.Maps

def ka : ByteArray := ⟨#[97]⟩
theorem a5_ok : Ok [(ka, 5)] := chk_ok.1 (by decide +kernel)
theorem begun_set : doneV (valOf []) [⟨1, ka, ByteArray.empty, 5⟩] = (valOf [(ka, 5)], true) := by
  refine doneV_some ?_
  rw [runV_cons]
  have : stepV (valOf []) ⟨1, ka, ByteArray.empty, 5⟩ = some (valOf [(ka, 5)]) := by
    unfold stepV putV
    simp only [if_true]
    rw [if_pos (by decide)]
    congr 1
    funext j
    by_cases h1 : j = ka
    · subst h1; rw [upd_same]; exact (valOf_mem a5_ok.srt (p := (ka, 5)) (by simp)).symm
    · rw [upd_other _ _ h1, valOf_nil, valOf_none]
      intro p hp e; simp at hp; rw [hp] at e; exact h1 e.symm
  rw [this]; rfl
/-- what Run hands back for a valid store, whatever the transaction -/
def RunRes (w : World) (f : VF) (d : List Opr) (e : Ending) (w' : World) : Prop :=
  ∃ A c lx ok ec, e = .returned (.tuple #[.slice A (lx : List Pr).length c, .bool ok, .int .i64 ec]) ∧ SV w' A c lx ∧ Below w.heap.size w w' ∧
    ((chkD d ≠ 0 ∧ ec = chkD d ∧ lx = [] ∧ ok = false) ∨ (chkD d = 0 ∧ ec = 0 ∧ Ok lx ∧ valOf lx = (doneV f d).1 ∧ ok = (doneV f d).2))
theorem run_res (A D : Option Addr) (c cd : Nat) (l : List Pr) (d : List Opr) (w : World) (hA : SV w A c l) (h : Ok l) (hD : OS w w.heap.size D d) :
    Calls Tryd.prog 13 #[.slice A l.length c, .agg #[.slice D d.length cd]] w (RunRes w (valOf l) d) := by
  by_cases hd : chkD d = 0
  · refine (run_ok A D c cd l d w hA h hD hd).mono ?_
    rintro e w' ⟨A', c', l', rfl, ho, hok, hv, hb⟩
    exact ⟨A', c', l', _, 0, rfl, ho.sv, hb, .inr ⟨hd, rfl, hok, hv, rfl⟩⟩
  · have hr : chkR l d = chkD d := by simp [chkR, chk_ok.2 h]
    refine (run_bad A D c cd l d w hA (by have := h.small; omega) hD (by rw [hr]; exact hd)).mono ?_
    rintro e w' ⟨rfl, hb⟩
    exact ⟨none, 0, [], false, _, by rw [hr]; rfl, SV.nil w', hb, .inl ⟨hd, rfl, rfl, rfl⟩⟩
/-- what Serial hands back for a valid store, whatever the transactions -/
def SerRes (w : World) (f : VF) (ds : List (List Opr)) (e : Ending) (w' : World) : Prop :=
  ∃ A c ly A2 c2 bs ec, e = .returned (.tuple #[.slice A (ly : List Pr).length c, .slice A2 (bs : List Bool).length c2, .int .i64 ec]) ∧ SV w' A c ly ∧ VS w' A2 (bs.map Value.bool) ∧ Below w.heap.size w w' ∧
    ((chkL ds ≠ 0 ∧ ec = chkL ds ∧ ly = [] ∧ bs = []) ∨ (chkL ds = 0 ∧ ec = 0 ∧ Ok ly ∧ valOf ly = (serV f ds).1 ∧ bs = (serV f ds).2))
set_option maxHeartbeats 400000 in
set_option maxRecDepth 100000 in
theorem serial_big (A D : Option Addr) (c cd : Nat) (l : List Pr) (ds : List Dl) (w : World) (hA : SV w A c l) (h : Ok l) (hn : 60 < ds.length) :
    Calls Tryd.prog 14 #[.slice A l.length c, .slice D ds.length cd] w fun e w' => e = .returned (.tuple #[.slice none 0 0, .slice none 0 0, .int .i64 2]) ∧ Below w.heap.size w w' := by
  have hll := h.small
  have HC := hideP (chk_ok.2 h)
  have g1 : (60 : Int) < (ds.length : Int) := by omega
  go_enter Tryd.func14, Tryd.ntmps14
  go_wp2_with fail
  refine (check_any A c l _ hA.ps (by omega)).mono ?_
  rintro e w1 ⟨rfl, hb1⟩
  rw [HC.out]
  go_wp2_with fail
  go_ret3
  exact ⟨rfl, hb1⟩
set_option maxHeartbeats 400000 in
set_option maxRecDepth 100000 in
theorem serial_bad (A D : Option Addr) (c cd : Nat) (l : List Pr) (n : Nat) (w : World) (hA : SV w A c l) (hl : l.length < 4611686018427387904) (h : chk ByteArray.empty l ≠ 0) :
    Calls Tryd.prog 14 #[.slice A l.length c, .slice D n cd] w fun e w' => e = .returned (.tuple #[.slice none 0 0, .slice none 0 0, .int .i64 (chk ByteArray.empty l)]) ∧ Below w.heap.size w w' := by
  have d0 : (chk ByteArray.empty l != 0) = true := by simp [h]
  clear h
  generalize hq : chk ByteArray.empty l = q at d0
  have HQ := hideP hq
  clear hq
  go_enter Tryd.func14, Tryd.ntmps14
  go_wp2_with fail
  refine (check_any A c l _ hA.ps hl).mono ?_
  rintro e w1 ⟨rfl, hb1⟩
  rw [HQ.out]
  go_wp2_with fail
  go_ret3
  exact ⟨rfl, hb1⟩
theorem serial_res (A D : Option Addr) (c cd : Nat) (l : List Pr) (ds : List Dl) (w : World) (hA : SV w A c l) (h : Ok l) (hD : DS w D ds) :
    Calls Tryd.prog 14 #[.slice A l.length c, .slice D ds.length cd] w (SerRes w (valOf l) (ds.map (·.d))) := by
  by_cases hn : ds.length ≤ 60
  · have hL : chkL (ds.map (·.d)) = chkDs (ds.map (·.d)) := by unfold chkL; rw [if_neg (by simp; omega)]
    refine (serial_any A D c cd l ds w hA h hD hn).mono ?_
    rintro e w' (⟨h0, A', c', l', A2, c2, rfl, ho, hok, hv, hor, hb⟩ | ⟨h0, rfl, hb⟩)
    · exact ⟨A', c', l', A2, c2, _, 0, rfl, ho.sv, hor.vs, hb, .inr ⟨by rw [hL]; exact h0, rfl, hok, hv, rfl⟩⟩
    · exact ⟨none, 0, [], none, 0, [], _, by rw [← hL]; rfl, SV.nil w', VS.nil, hb, .inl ⟨by rw [hL]; exact h0, rfl, rfl, rfl⟩⟩
  · have hL : chkL (ds.map (·.d)) = 2 := by unfold chkL; rw [if_pos (by simp; omega)]
    refine (serial_big A D c cd l ds w hA h (by omega)).mono ?_
    rintro e w' ⟨rfl, hb⟩
    exact ⟨none, 0, [], none, 0, [], _, by rw [← hL]; rfl, SV.nil w', VS.nil, hb, .inl ⟨by rw [hL]; decide, rfl, rfl, rfl⟩⟩
/-- the list of a map with the values of a valid store is that store -/
theorem lists_eq {D : DataW Unit} {l m : List Pr} (hL : Lists D l) (hm : Ok m) (h : ∀ k, mv D k = valOf m k) : l = m := by
  have hin : ∀ p ∈ l, ∃ q ∈ m, q.1 = p.1 ∧ q.2 = p.2 := fun p hp => by
    have h1 : valOf m p.1 = p.2 := by rw [← h, ← hL.val, valOf_mem hL.srt hp]
    obtain ⟨q, hq, e⟩ := valOf_ne (l := m) (k := p.1) (by rw [h1]; exact hL.nz p hp)
    exact ⟨q, hq, e, by rw [← h1, ← e, valOf_mem hm.srt hq]⟩
  have hl : Ok l := ⟨hL.srt, fun p hp => by obtain ⟨q, hq, e, _⟩ := hin p hp; rw [← e]; exact hm.key q hq, fun p hp => by obtain ⟨q, hq, _, e⟩ := hin p hp; rw [← e]; exact hm.val q hq, hL.nz⟩
  exact hl.ext hm fun k => by rw [hL.val, h]
/-- Of and List, in these words -/
theorem of_mv (A : Option Addr) (c : Nat) (l : List Pr) (w : World) (hA : SV w A c l) (h : Ok l) : Calls Tryd.prog 18 #[.slice A l.length c] w fun e w' => ∃ b, e = .returned (.map (some b)) ∧ MV w' b l.length (valOf l) ∧ Below w.heap.size w w' := by
  refine (of_any A c l w hA.ps (by have := h.small; omega) h.rd).mono ?_
  rintro e w' ⟨b, D, rfl, hown, hIM, hmv, _, hb⟩
  exact ⟨b, rfl, ⟨D, hown, hIM, fun k => by rw [hmv, lastV_eq h.srt]⟩, hb⟩
theorem list_mv (b n : Nat) (f : VF) (m : List Pr) (w : World) (hM : MV w b n f) (hn : n ≤ 1000000000) (hm : Ok m) (hv : valOf m = f) : Calls Tryd.prog 19 #[.map (some b)] w fun e w' => ∃ A c, e = .returned (.slice A m.length c) ∧ SV w' A c m ∧ Below w.heap.size w w' := by
  obtain ⟨D, hown, hIM, hmv⟩ := hM.ex
  have := hown.size_le
  refine (list_any b n D w hown (by omega)).mono ?_
  rintro e w' ⟨A, c, l, rfl, hsv, hli, _, hb⟩
  obtain rfl := lists_eq hli hm (fun k => by rw [hmv, hv])
  exact ⟨A, c, rfl, hsv, hb⟩
end Go.Proofs.YtkikhananegclaaDoor
