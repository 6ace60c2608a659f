/-
  What the store's, the deed's, the plan's and the shard's functions answer is new memory, whatever they are asked: one shape for each.
  Partition maps of the call's own (no body of the program in it).
-/
import Derived.Test.YtpefdonhacmaoaaGreatBo6
import Derived.Test.YtpefdonhacmaoaaGreatBo8
import Derived.Test.YtpefdonhacmaoaaGreatBo10
import Derived.Test.YtpefdonhacmaoaaGreatBo11
import Derived.Test.YtpefdonhacmaoaaGreatBo15
import Derived.Test.YtpefdonhacmaoaaGreatBo19
import Derived.Test.YtpefdonhacmaoaaGreatBo34
import Derived.Test.YtpefdonhacmaoaaGreatBo36
import Derived.Test.YtpefdonhacmaoaaGreatBo18
set_option linter.unusedVariables false
set_option linter.unusedSimpArgs false
namespace Go.Proofs.YtpefdonhacmaoaaGreat
open Go.RowKit

/-- a new store, or none, and an error -/
def RO1 (w : World) (e : Ending) (w' : World) : Prop := ∃ A c x er, e = .returned (.tuple #[.slice A (x : List Pr).length c, .int .i64 er]) ∧ OV w' w.heap.size A c x ∧ x.length ≤ 400000000 ∧ Below w.heap.size w w'
def RO2 (w : World) (e : Ending) (w' : World) : Prop := ∃ A c x b er, e = .returned (.tuple #[.slice A (x : List Pr).length c, .bool b, .int .i64 er]) ∧ OV w' w.heap.size A c x ∧ x.length ≤ 400000000 ∧ Below w.heap.size w w'
def RO3 (w : World) (e : Ending) (w' : World) : Prop := ∃ A c x A2 c2 bs er, e = .returned (.tuple #[.slice A (x : List Pr).length c, .slice A2 (bs : List Bool).length c2, .int .i64 er]) ∧ OV w' w.heap.size A c x ∧ x.length ≤ 400000000 ∧ OR w' w.heap.size 4 A2 c2 (bs.map Value.bool) ∧ bs.length ≤ 1000 ∧ Below w.heap.size w w'
def RO4 (w : World) (e : Ending) (w' : World) : Prop := ∃ A c x A2 c2 bs A3 c3 ns er, e = .returned (.tuple #[.slice A (x : List Pr).length c, .slice A2 (bs : List Bool).length c2, .slice A3 (ns : List Int).length c3, .int .i64 er]) ∧ OV w' w.heap.size A c x ∧ x.length ≤ 400000000 ∧ OR w' w.heap.size 4 A2 c2 (bs.map Value.bool) ∧ bs.length ≤ 1000 ∧ OR w' w.heap.size 3 A3 c3 (ns.map fun n => Value.int .i64 n) ∧ ns.length ≤ 1000 ∧ Below w.heap.size w w'
def RO5 (w : World) (e : Ending) (w' : World) : Prop := ∃ A1 c1 xs A2 c2 ys er, e = .returned (.tuple #[.slice A1 (xs : List ByteArray).length c1, .slice A2 (ys : List ByteArray).length c2, .int .i64 er]) ∧ Two w' w.heap.size A1 c1 xs A2 c2 ys ∧ xs.length ≤ 1000 ∧ ys.length ≤ 1000 ∧ Below w.heap.size w w'
def RO6 (w : World) (e : Ending) (w' : World) : Prop := ∃ A3 c3 ns er, e = .returned (.tuple #[.slice A3 (ns : List Int).length c3, .int .i64 er]) ∧ OR w' w.heap.size 3 A3 c3 (ns.map fun n => Value.int .i64 n) ∧ ns.length ≤ 1000 ∧ Below w.heap.size w w'
theorem OV.nil (w : World) (B : Nat) : OV w B none 0 [] := World.ownsRow_nil _ _ _ _

theorem putO (A : Option Addr) (c : Nat) (l : List Pr) (key : ByteArray) (n : Int) (w : World) (hA : SV w A c l) (hl : l.length < 4611686018427387904) (hk : keyB key = true) (hn : valB n = true) :
    Calls Tryz.prog 21 #[.slice A l.length c, .string key, .int .i64 n] w (RO1 w) := by
  by_cases h : chk ByteArray.empty l = 0
  · refine (put_st A c l key n w hA (chk_ok.1 h) hk hn).mono ?_
    rintro e w' ⟨A', c', x, rfl, _, hx, _, hb, ho⟩
    exact ⟨A', c', x, _, rfl, ho, by have := hx.small; omega, hb⟩
  · refine (put_bad A c l key n w hA hl h).mono ?_
    rintro e w' ⟨rfl, hb⟩
    exact ⟨none, 0, [], _, rfl, OV.nil _ _, by simp, hb⟩
theorem scanO (A : Option Addr) (c : Nat) (l : List Pr) (w : World) (hA : SV w A c l) (hl : l.length * 24 ≤ 140737488355328) :
    Calls Tryz.prog 24 #[.slice A l.length c, .string ⟨#[]⟩, .string ⟨#[]⟩] w (RO1 w) := by
  by_cases h : chk ByteArray.empty l = 0
  · have hok := chk_ok.1 h
    have hs := hok.small
    refine (scan_openO A c l ⟨#[]⟩ ⟨#[]⟩ w hA hl hok (by rw [ByteArray.toList_eq]; rfl)).mono ?_
    rintro e w' ⟨A', c', rfl, _, hb, ho⟩
    exact ⟨A', c', _, _, rfl, ho, Nat.le_trans (List.length_filter_le _ _) (by omega), hb⟩
  · refine (scan_bad A c l _ _ w hA (by omega) h).mono ?_
    rintro e w' ⟨rfl, hb⟩
    exact ⟨none, 0, [], _, rfl, OV.nil _ _, by simp, hb⟩
theorem joinO (A B : Option Addr) (c cb : Nat) (l : List Pr) (w : World) (hA : SV w A c l) (hB : SV w B cb []) (hl : l.length < 4611686018427387904) :
    Calls Tryz.prog 25 #[.slice A l.length c, .slice B 0 cb] w (RO1 w) := by
  have hok0 : Ok [] := chk_ok.1 (by decide +kernel)
  by_cases h : chk ByteArray.empty l = 0
  · have hok := chk_ok.1 h
    have hs := hok.small
    refine (join_own A B c cb l [] w hA hB hok hok0 (by simp; omega)).mono ?_
    rintro e w' ⟨⟨_, rfl⟩ | ⟨A', c', x, rfl, ho, hj⟩, hb⟩
    · exact ⟨none, 0, [], _, rfl, OV.nil _ _, by simp, hb⟩
    · exact ⟨A', c', x, _, rfl, ho, by have := hj.ok.small; omega, hb⟩
  · have h2 : chk2 l [] ≠ 0 := by unfold chk2; rw [if_neg h]; exact h
    refine (join_bad A B c cb l [] w hA hB hl (by simp) h2).mono ?_
    rintro e w' ⟨rfl, hb⟩
    exact ⟨none, 0, [], _, rfl, OV.nil _ _, by simp, hb⟩
theorem runO (A D : Option Addr) (c cd : Nat) (l : List Pr) (d : List Opr) (w : World) (hA : SV w A c l) (hl : l.length < 4611686018427387904) (hD : OS w w.heap.size D d) :
    Calls Tryz.prog 26 #[.slice A l.length c, .agg #[.slice D d.length cd]] w (RO2 w) := by
  by_cases h : chkR l d = 0
  · have h1 : chk ByteArray.empty l = 0 := by
      unfold chkR at h
      split at h
      · assumption
      · exact h
    have h2 : chkD d = 0 := by unfold chkR at h; rw [if_pos h1] at h; exact h
    refine (run_ok A D c cd l d w hA (chk_ok.1 h1) hD h2).mono ?_
    rintro e w' ⟨A', c', x, rfl, ho, hx, _, hb⟩
    exact ⟨A', c', x, _, _, rfl, ho, by have := hx.small; omega, hb⟩
  · refine (run_bad A D c cd l d w hA hl hD h).mono ?_
    rintro e w' ⟨rfl, hb⟩
    exact ⟨none, 0, [], _, _, rfl, OV.nil _ _, by simp, hb⟩
set_option maxHeartbeats 400000 in
set_option maxRecDepth 100000 in
theorem serialO_bad (A D : Option Addr) (c cd : Nat) (l : List Pr) (n : Nat) (w : World) (hA : SV w A c l) (hl : l.length < 4611686018427387904) (h : chk ByteArray.empty l ≠ 0) :
    Calls Tryz.prog 27 #[.slice A l.length c, .slice D n cd] w fun e w' => e = .returned (.tuple #[.slice none 0 0, .slice none 0 0, .int .i64 (chk ByteArray.empty l)]) ∧ Below w.heap.size w w' := by
  have d0 : (chk ByteArray.empty l != 0) = true := by simp [h]
  clear h
  generalize hq : chk ByteArray.empty l = q at d0
  have HQ := hideP hq
  clear hq
  go_enter Tryz.func27, Tryz.ntmps27
  go_wp2_with fail
  refine (check_any A c l _ hA.ps hl).mono ?_
  rintro e w1 ⟨rfl, hb1⟩
  rw [HQ.out]
  go_wp2_with fail
  go_ret3
  exact ⟨rfl, hb1⟩
theorem serialO (A D : Option Addr) (c cd : Nat) (l : List Pr) (ds : List Dl) (w : World) (hA : SV w A c l) (hl : l.length < 4611686018427387904) (hD : DS w D ds) (hn : ds.length ≤ 60) :
    Calls Tryz.prog 27 #[.slice A l.length c, .slice D ds.length cd] w (RO3 w) := by
  by_cases h : chk ByteArray.empty l = 0
  · refine (serial_any A D c cd l ds w hA (chk_ok.1 h) hD hn).mono ?_
    rintro e w' (⟨_, A', c', x, A2, c2, rfl, ho, hx, _, hr, hb⟩ | ⟨_, rfl, hb⟩)
    · exact ⟨A', c', x, A2, c2, _, _, rfl, ho, by have := hx.small; omega, hr, by rw [serV_len]; simp; omega, hb⟩
    · exact ⟨none, 0, [], none, 0, [], _, rfl, OV.nil _ _, by simp, OR.nil _ _ _, by simp, hb⟩
  · refine (serialO_bad A D c cd l ds.length w hA hl h).mono ?_
    rintro e w' ⟨rfl, hb⟩
    exact ⟨none, 0, [], none, 0, [], _, rfl, OV.nil _ _, by simp, OR.nil _ _ _, by simp, hb⟩
theorem playO (A D P : Option Addr) (c cd cp : Nat) (l : List Pr) (ds : List Dl) (ps : List Int) (w : World) (hA : SV w A c l) (hl : l.length < 4611686018427387904) (hD : DS w D ds) (hn : ds.length ≤ 60) (hP : IS w P ps) (hpl : ps.length ≤ 9223372036854775807) :
    Calls Tryz.prog 28 #[.slice A l.length c, .slice D ds.length cd, .slice P ps.length cp] w (RO4 w) := by
  by_cases h : chk ByteArray.empty l = 0
  · by_cases h2 : chkP (ddOf ds) = 0
    · refine (play_ok A D P c cd cp l ds ps w hA (chk_ok.1 h) hD h2 hP hpl).mono ?_
      rintro e w' ⟨A', c', x, gx, A2, c2, rfl, ho, hx, _, hr, hi, hb⟩
      have e1 : ((plS (ddOf ds) ps (valOf l) (ddOf ds).length).2).length = (ddOf ds).length := plS_len _ _
      have e2 : (playN (ddOf ds) ps (ddOf ds).length).length = (ddOf ds).length := playN_len _ _ _
      refine ⟨A', c', x, _, _, (plS (ddOf ds) ps (valOf l) (ddOf ds).length).2, A2, c2, (playN (ddOf ds) ps (ddOf ds).length).map fun (k : Nat) => (k : Int), _, by rw [e1, List.length_map, e2], ho, by have := hx.small; omega, hr, by rw [e1, ddOf_len]; omega, ?_, by rw [List.length_map, e2, ddOf_len]; omega, hb⟩
      rw [List.map_map]; exact hi
    · refine (play_bad2 A D P c cd cp l ds ps w hA.ps (chk_ok.1 h) hD (by omega) h2).mono ?_
      rintro e w' ⟨rfl, hb⟩
      exact ⟨none, 0, [], none, 0, [], none, 0, [], _, rfl, OV.nil _ _, by simp, OR.nil _ _ _, by simp, OR.nil _ _ _, by simp, hb⟩
  · refine (play_bad1 A D P c cd cp l ds ps w hA.ps hl h).mono ?_
    rintro e w' ⟨rfl, hb⟩
    exact ⟨none, 0, [], none, 0, [], none, 0, [], _, rfl, OV.nil _ _, by simp, OR.nil _ _ _, by simp, OR.nil _ _ _, by simp, hb⟩
theorem partO (m : Mp) (A : Option Addr) (c : Nat) (l : List Pr) (n : Int) (w : World) (hm : MS w m) (hA : SV w A c l) (l2 : m.os.length ≤ 9223372036854775807) (hl : l.length < 4611686018427387904) :
    Calls Tryz.prog 29 #[.agg #[.slice m.A m.cs.length m.ca, .slice m.O m.os.length m.co], .slice A l.length c, .int .i64 n] w (RO1 w) := by
  refine (shpart_any m A c l n w hm hA.ps l2 hl).mono ?_
  rintro e w' ⟨A', c', rfl, ho, hb⟩
  refine ⟨A', c', _, _, rfl, ho, ?_, hb⟩
  unfold partV
  split
  · simp
  · split
    · simp
    · rename_i h1 h2
      split
      · simp
      · have hok : Ok l := chk_ok.1 (by simpa using h2)
        exact Nat.le_trans (List.length_filter_le _ _) (by have := hok.small; omega)
theorem dkeysO (D : Option Addr) (cd : Nat) (d : List Opr) (w : World) (hD : OS w w.heap.size D d) :
    Calls Tryz.prog 30 #[.agg #[.slice D d.length cd]] w (RO5 w) := by
  by_cases h : chkD d = 0
  · obtain ⟨_, h8, _⟩ := chkD_zero.1 h
    refine (keys_ok D cd d w hD h).mono ?_
    rintro e w' ⟨A1, c1, A2, c2, rfl, ht, hb⟩
    exact ⟨A1, c1, _, A2, c2, _, _, rfl, ht, by have := keysOf_len (rdL d); have := rdL_len d; omega, by have := keysOf_len (wrL d); have := wrL_len d; omega, hb⟩
  · refine (keys_bad D cd d w hD h).mono ?_
    rintro e w' ⟨rfl, hb⟩
    exact ⟨none, 0, [], none, 0, [], _, rfl, ⟨OR.nil _ _ _, OR.nil _ _ _, .inl rfl⟩, by simp, by simp, hb⟩
theorem roundsO (A : Option Addr) (c : Nat) (ds : List Dl) (w : World) (hD : DS w A ds) (hn : ds.length ≤ 60) :
    Calls Tryz.prog 31 #[.slice A ds.length c] w (RO6 w) := by
  by_cases h : chkP (ddOf ds) = 0
  · refine (rounds_ok A c ds w hD h).mono ?_
    rintro e w' ⟨gb, c3, rfl, ho, hb⟩
    have e1 : (lvL (ddOf ds) (ddOf ds).length).length = (ddOf ds).length := lvL_len _ _
    refine ⟨_, c3, (lvL (ddOf ds) (ddOf ds).length).map fun (k : Nat) => (k : Int), _, by rw [List.length_map, e1], ?_, by rw [List.length_map, e1, ddOf_len]; omega, hb⟩
    rw [List.map_map]; exact ho
  · refine (rounds_bad A c ds w hD (by omega) h).mono ?_
    rintro e w' ⟨rfl, hb⟩
    exact ⟨none, 0, [], _, rfl, OR.nil _ _ _, by simp, hb⟩
end Go.Proofs.YtpefdonhacmaoaaGreat

set_option linter.unusedVariables false
set_option linter.unusedSimpArgs false
namespace Go.Proofs.YtpefdonhacmaoaaGreat
open Go.RowKit

/-- a map of the call's own -/
structure MO (w : World) (B : Nat) (m : Mp) : Prop where
  cuts : OR w B 9 m.A m.ca (m.cs.map Value.string)
  own : OR w B 3 m.O m.co (m.os.map (Value.int .i64))
theorem VS.is_int {w : World} {A : Option Addr} {l : List Int} (h : VS w A (l.map (Value.int .i64))) : IS w A l := fun i z hz => h i (.int .i64 z) (by rw [List.getElem?_map, hz]; rfl)
theorem IS.vs {w : World} {A : Option Addr} {l : List Int} (h : IS w A l) : VS w A (l.map (Value.int .i64)) := fun i v hv => by
  rw [List.getElem?_map] at hv
  cases hz : l[i]? with
  | none => rw [hz] at hv; cases hv
  | some z => rw [hz] at hv; injection hv with hv; subst hv; exact h i z hz
theorem MO.ms {w : World} {B : Nat} {m : Mp} (h : MO w B m) : MS w m := by
  obtain ⟨c1, c2, c3, _⟩ := h.cuts.caps
  obtain ⟨d1, d2, d3, _⟩ := h.own.caps
  rw [List.length_map] at c1 d1
  exact ⟨h.cuts.vs, h.own.vs.is_int, c1, d1, c2, d2, c3, d3⟩
theorem MO.below {w w' : World} {B : Nat} {m : Mp} (h : MO w B m) (hb : Below w.heap.size w w') : MO w' B m := ⟨h.cuts.below hb, h.own.below hb⟩
theorem MO.mono {w : World} {B B' : Nat} {m : Mp} (h : MO w B m) (hB : B' ≤ B) : MO w B' m := ⟨h.cuts.mono hB, h.own.mono hB⟩
/-- no map -/
def noM : Mp := ⟨none, 0, [], none, 0, []⟩
theorem noM_mo (w : World) (B : Nat) : MO w B noM := ⟨OR.nil _ _ _, OR.nil _ _ _⟩
theorem grown_set (w : World) (g i : Nat) (v : Value) : w.grownBy (w.setCell ⟨g, i, none⟩ v) (some g) := ⟨rfl, rfl, rfl, by simp [World.setCell], fun j _ hne => Below.heap_setCell w _ _ j (fun e => hne (by rw [e]))⟩
theorem OR.set {w : World} {B g i : Nat} {t u : TypeId} {A : Option Addr} {c : Nat} {xs : List Value} {v : Value} (h : OR w B t A c xs) (ht : Ty w g u) (hne : t ≠ u) : OR (w.setCell ⟨g, i, none⟩ v) B t A c xs := World.ownsRow.kept h (grown_set w g i v) (own_ne h ht hne)
theorem MO.set {w : World} {B g i : Nat} {m : Mp} {v : Value} (h : MO w B m) (ht : Ty w g 31) : MO (w.setCell ⟨g, i, none⟩ v) B m := ⟨h.cuts.set ht (by decide), h.own.set ht (by decide)⟩
theorem below_set {a w : World} {g i : Nat} {v : Value} (h : Below a.heap.size a w) (hg : a.heap.size ≤ g) : Below a.heap.size a (w.setCell ⟨g, i, none⟩ v) := h.grown (grown_set w g i v) h.size (fun b hb => by injection hb with hb; subst hb; exact hg)
/-- the result's box is written -/
theorem res_set {w wr : World} {gr : Nat} {a b : Value} {n : Mp} (hr : Box wr gr 31 #[a, b]) (hl : w.heap.size ≤ gr) (hn : MO wr w.heap.size n) (hb : Below w.heap.size w wr) (x y : Value) :
    MO ((wr.setCell ⟨gr, 0, none⟩ x).setCell ⟨gr, 1, none⟩ y) w.heap.size n ∧ Below w.heap.size w ((wr.setCell ⟨gr, 0, none⟩ x).setCell ⟨gr, 1, none⟩ y) :=
  ⟨(hn.set hr.ty).set (hr.set 0 x).ty, below_set (below_set hb hl) hl⟩
end Go.Proofs.YtpefdonhacmaoaaGreat
