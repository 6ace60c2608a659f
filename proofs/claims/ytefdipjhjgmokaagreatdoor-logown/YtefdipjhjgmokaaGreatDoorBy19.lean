/-
  (*copies.Copies).hasReplica, All.
  shard.Part.
  parts.divide.
-/
import Derived.Test.YtefdipjhjgmokaaGreatDoorBy12
import Derived.Test.YtefdipjhjgmokaaGreatDoorBy18
import Derived.Test.YtefdipjhjgmokaaGreatDoorBy7
import Derived.Deep.RegionHeld3
import Derived.Test.YtefdipjhjgmokaaGreatDoorBy8
import Derived.Test.YtefdipjhjgmokaaGreatDoorBy9
import Derived.Test.YtefdipjhjgmokaaGreatDoorBy10
import Derived.Test.YtefdipjhjgmokaaGreatDoorBy2
set_option linter.unusedVariables false
set_option linter.unusedSimpArgs false
namespace Go.Proofs.YtefdipjhjgmokaaGreatDoor
open Go.RowKit

set_option maxRecDepth 100000 in
theorem chas_any (c : Cs) (B : Nat) (i : Int) (w : World) (h : c.Ok w B) :
    Calls Tryz.prog 92 #[.pointer (some ⟨c.s.g, 0, none⟩), .int .i64 i] w fun e w' => e = .returned (.bool (decide (0 ≤ i ∧ i < (c.rs.length : Int)))) ∧ w = w' := by
  have c0 := h.c2
  generalize c.s.g = g at c0 ⊢
  generalize c.rs.length = n at c0 ⊢
  clear h
  by_cases h1 : 0 ≤ i
  · by_cases h2 : i < (n : Int)
    · have HD := hideP (show decide (0 ≤ i ∧ i < (n : Int)) = true from decide_eq_true ⟨h1, h2⟩)
      go_enter Tryz.func92, Tryz.ntmps92
      go_wp2_with fail
      go_ret
      first | exact ⟨rfl, rfl⟩ | exact ⟨by rw [HD.out]; rfl, rfl⟩
    · have HD := hideP (show decide (0 ≤ i ∧ i < (n : Int)) = false from decide_eq_false fun e => h2 e.2)
      have h3 : decide (i < (n : Int)) = false := decide_eq_false h2
      go_enter Tryz.func92, Tryz.ntmps92
      go_wp2_with fail
      go_ret
      first | exact ⟨rfl, rfl⟩ | exact ⟨by rw [HD.out]; rfl, rfl⟩
  · have HD := hideP (show decide (0 ≤ i ∧ i < (n : Int)) = false from decide_eq_false fun e => h1 e.1)
    have h3 : decide (0 ≤ i) = false := decide_eq_false h1
    go_enter Tryz.func92, Tryz.ntmps92
    go_wp2_with fail
    go_ret
    first | exact ⟨rfl, rfl⟩ | exact ⟨by rw [HD.out]; rfl, rfl⟩
theorem dec_in {i n : Nat} (h : i < n) : decide (0 ≤ (i : Int) ∧ (i : Int) < (n : Int)) = true := decide_eq_true ⟨by omega, by omega⟩
set_option maxRecDepth 100000 in
theorem call_any (c : Cs) (B : Nat) (i : Nat) (r : Rp) (w : World) (h : c.Ok w B) (hi : c.rs[i]? = some r) :
    Calls Tryz.prog 19 #[.pointer (some ⟨c.s.g, 0, none⟩), .int .i64 (i : Int)] w fun e w' => ∃ A cp, e = .returned (.tuple #[.slice A r.l.length cp, .int .i64 0]) ∧ OV w' w.heap.size A cp r.l ∧ Below w.heap.size w w' := by
  have hil := (List.getElem?_eq_some_iff.1 hi).1
  have HH := hideP (chas_any c B (i : Int) w h)
  rw [dec_in hil] at HH
  have c0 := h.c2
  obtain ⟨gr, hAR, _, q0, q1⟩ := h.at_ hi
  rw [hAR] at c0
  have HA := hideP (all_ok B r.g r.m r.l r.q w (h.ro i r hi).pb)
  have g1 : (0 : Int) ≤ (i : Int) := by omega
  have g2 : (i : Int) < (c.rs.length : Int) := by omega
  generalize c.s.g = g at c0 HH ⊢
  generalize c.rs.length = n at c0 g2
  clear h hi hAR hil
  go_enter Tryz.func19, Tryz.ntmps19
  go_wp2_with fail
  refine HH.out.mono ?_
  rintro e w' ⟨rfl, rfl⟩
  go_wp2_with fail
  refine HA.out.mono ?_
  rintro e w1 ⟨A, cp, rfl, ho, hb⟩
  go_wp2_with fail
  go_ret2
  exact ⟨A, cp, rfl, ho, hb⟩
end Go.Proofs.YtefdipjhjgmokaaGreatDoor

set_option linter.unusedVariables false
set_option linter.unusedSimpArgs false
namespace Go.Proofs.YtefdipjhjgmokaaGreatDoor
open Go.RowKit

/-- while Part runs: the map and the owner -/
structure PaH (w : World) (g : Nat) (m : Mp) (n : Int) (wr : World) : Prop where
  mh : MH w g m wr
  xo : Box wr (g + 1) 3 #[.int .i64 n]
theorem PaH.below {w wr w' : World} {g : Nat} {m : Mp} {n : Int} (h : PaH w g m n wr) (hb : Below wr.heap.size wr w') : PaH w g m n w' := ⟨h.mh.below hb, h.xo.below hb⟩
theorem PaH.alloc {w wr : World} {g : Nat} {m : Mp} {n : Int} {o : Obj} (h : PaH w g m n wr) : PaH w g m n (wr.alloc o) := h.below ((Below.refl _ _).alloc (Nat.le_refl _) _)
theorem own_some_ne {w : World} {B : Nat} {t u : TypeId} {s : Nat} {v : Value} {n : Nat} {xs : List Value} (h : w.ownsRow B t s v n xs) {r : Nat} (hr : Ty w r u) (hne : t ≠ u) : some r ≠ v.ownBlock := by
  rcases own_ne h hr hne with h | h
  · rw [h]; simp
  · exact fun e => h e.symm
/-- what Part answers -/
def partV (cs : List ByteArray) (os : List Int) (l : List Pr) (n : Int) : List Pr × Int :=
  if chkM cs os ≠ 0 then ([], chkM cs os) else if chk ByteArray.empty l ≠ 0 then ([], chk ByteArray.empty l) else if ownB n = false then ([], 1) else (ptL cs os n l, 0)
section
variable {cs : List ByteArray} {os : List Int} {l : List Pr} {n : Int}
theorem partV_bad (h : chkM cs os ≠ 0) : partV cs os l n = ([], chkM cs os) := by unfold partV; rw [if_pos h]
theorem partV_bad2 (h : chkM cs os = 0) (k : chk ByteArray.empty l ≠ 0) : partV cs os l n = ([], chk ByteArray.empty l) := by unfold partV; rw [if_neg (by simp [h]), if_pos k]
theorem partV_arg (h : chkM cs os = 0) (k : chk ByteArray.empty l = 0) (i : ownB n = false) : partV cs os l n = ([], 1) := by unfold partV; rw [if_neg (by simp [h]), if_neg (by simp [k]), if_pos i]
theorem partV_ok (h : chkM cs os = 0) (k : chk ByteArray.empty l = 0) (i : ownB n = true) : partV cs os l n = (ptL cs os n l, 0) := by unfold partV; rw [if_neg (by simp [h]), if_neg (by simp [k]), if_neg (by simp [i])]
end
/-- pairs and an error are handed back -/
def RetPt (w : World) (r : List Pr × Int) (e : Ending) (w' : World) : Prop := ∃ A c, e = .returned (.tuple #[.slice A r.1.length c, .int .i64 r.2]) ∧ OV w' w.heap.size A c r.1 ∧ Below w.heap.size w w'

set_option maxHeartbeats 1000000 in
set_option maxRecDepth 100000 in
theorem owns_any (w0 : World) (g : Nat) (m : Mp) (n : Int) (key : ByteArray) (x : Int) (w : World) (hH : PaH w0 g m n w) (hok : OkM m.cs m.os) :
    Calls Tryz.prog 225 #[.agg #[.string key, .int .i64 x], .pointer (some ⟨g, 0, none⟩), .pointer (some ⟨g + 1, 0, none⟩)] w fun e w' => e = .returned (.bool (decide (whV m.cs m.os key = n))) ∧ Below w.heap.size w w' := by
  have b0 := (Below.refl w.heap.size w).alloc (Nat.le_refl _) (.cells #[.string key, .int .i64 x] 63)
  have y0 := Box.new w 63 #[.string key, .int .i64 x]
  replace hH := hH.below b0
  have hfew := hok.few
  have hlen := hok.len
  have hat := atC_le m.cs key
  obtain ⟨bO, oO, eO, hx1, hx2⟩ := hH.mh.ms.own (atC m.cs key) (m.os.getD (atC m.cs key) 0) (by simp [List.getD_eq_getElem?_getD, show atC m.cs key < m.os.length by omega])
  have HS := hideP (fun (wr : World) (h : PaH w0 g m n wr) (y : Box wr w.heap.size 63 #[.string key, .int .i64 x]) => show wr.cell? ⟨g, 0, none⟩ = some (.slice m.A m.cs.length m.ca) ∧ wr.cell? ⟨g, 1, none⟩ = some (.slice (some ⟨bO, oO, none⟩) m.os.length m.co) ∧ wr.cell? ⟨bO, oO + atC m.cs key, none⟩ = some (.int .i64 (whV m.cs m.os key)) ∧ wr.cell? ⟨g + 1, 0, none⟩ = some (.int .i64 n) ∧ wr.cell? ⟨w.heap.size, 0, none⟩ = some (.string key) from by
    obtain ⟨b2, o2, e2, _, c2⟩ := h.mh.ms.own (atC m.cs key) (m.os.getD (atC m.cs key) 0) (by simp [List.getD_eq_getElem?_getD, show atC m.cs key < m.os.length by omega])
    rw [eO] at e2
    injection e2 with e2
    injection e2 with e3 e4
    subst e3; subst e4
    exact ⟨h.mh.c.1, by rw [← eO]; exact h.mh.c.2, c2, h.xo.cell 0 rfl, y.cell 0 rfl⟩)
  have HP := hideP (fun (wr : World) (h : PaH w0 g m n wr) => show Calls Tryz.prog 226 #[.agg #[.slice m.A m.cs.length m.ca, .slice (some ⟨bO, oO, none⟩) m.os.length m.co], .string key] wr fun e w' => e = .returned (.int .i64 (atC m.cs key : Nat)) ∧ Below wr.heap.size wr w' from by
    rw [← eO]; exact place_any m key wr h.mh.ms hfew)
  have g1 : ((atC m.cs key : Nat) : Int) < (m.os.length : Int) := by omega
  have g2 : (0 : Int) ≤ ((atC m.cs key : Nat) : Int) := by omega
  have HB := hideP b0
  clear hx1 hx2 b0
  go_enter Tryz.func225, Tryz.ntmps225
  generalize atC m.cs key = a at HS HP g1 g2
  generalize hv : whV m.cs m.os key = v at HS
  have HV := hideP hv
  clear hv hok hfew hlen hat eO
  generalize m.cs.length = n1 at HS HP
  generalize m.os.length = n2 at HS HP g1
  go_wp2_with fail
  generalize w.alloc _ = w1 at hH y0 HB ⊢
  generalize w.heap.size = s at y0 HS ⊢
  replace hH := hH.below (Below.refl _ _).drew
  replace y0 := y0.drew
  go_region_held3 (fun w' => w'.cell? ⟨g, 0, none⟩ = some (.slice m.A n1 m.ca) ∧ w'.cell? ⟨g, 1, none⟩ = some (.slice (some ⟨bO, oO, none⟩) n2 m.co) ∧ w'.cell? ⟨bO, oO + a, none⟩ = some (.int .i64 v) ∧ w'.cell? ⟨g + 1, 0, none⟩ = some (.int .i64 n) ∧ w'.cell? ⟨s, 0, none⟩ = some (.string key)) (with_reducible exact HS.out _ hH y0) (first
    | (go_at_call 226; refine (HP.out _ hH).mono ?_; rintro e wn ⟨rfl, hbn⟩; replace hH := hH.below hbn; replace y0 := y0.below hbn))
  have hbz : Below w1.heap.size w1 wn := (Below.refl w1.heap.size w1).drew.trans hbn
  have HZ := hideP (HB.out.trans (hbz.mono HB.out.size))
  go_wp2_with fail
  go_ret
  refine ⟨ret_bool ?_, HZ.out⟩
  by_cases e : v = n <;> simp [e]
/-- while the pairs are picked -/
def PaI (w : World) (g : Nat) (m : Mp) (n : Int) (l : List Pr) (v i : Value) (wr : World) : Prop :=
  ∃ (k : Nat), k ≤ l.length ∧ i = .int .i64 k ∧ wr.ownsRow w.heap.size 63 2 v (ptL m.cs m.os n (l.take k)).length (cellsOf (ptL m.cs m.os n (l.take k))) ∧ PaH w g m n wr

set_option maxHeartbeats 2000000 in
set_option maxRecDepth 100000 in
theorem shpart_any (m : Mp) (A : Option Addr) (c : Nat) (l : List Pr) (n : Int) (w : World) (hm : MS w m) (hA : PS w w.heap.size A l) (l2 : m.os.length ≤ 9223372036854775807) (l3 : l.length < 4611686018427387904) :
    Calls Tryz.prog 177 #[.agg #[.slice m.A m.cs.length m.ca, .slice m.O m.os.length m.co], .slice A l.length c, .int .i64 n] w (RetPt w (partV m.cs m.os l n)) := by
  have b0 := ((Below.refl w.heap.size w).alloc (Nat.le_refl _) (.cells #[.slice m.A m.cs.length m.ca, .slice m.O m.os.length m.co] 34)).alloc (by simp) (.cells #[.int .i64 n] 3)
  have x1 := Box.new (w.alloc (.cells #[.slice m.A m.cs.length m.ca, .slice m.O m.os.length m.co] 34)) 3 #[.int .i64 n]
  simp only [World.size_alloc] at x1
  have hH : PaH w w.heap.size m n _ := ⟨(MH.new hm).below ((Below.refl _ _).alloc (Nat.le_refl _) _), x1⟩
  clear x1 b0
  go_enter Tryz.func177, Tryz.ntmps177
  obtain ⟨z1, z2⟩ := hH.mh.c
  go_wp2_with fail
  generalize (w.alloc _).alloc _ = w1 at hH z1 z2 ⊢
  generalize hg : w.heap.size = g at hH z1 z2 ⊢
  clear hg
  refine (shcheck_any m _ hH.mh.ms l2).mono ?_
  rintro e w2 ⟨rfl, hb2⟩
  replace hH := hH.below hb2
  clear hb2 z1 z2
  by_cases hc : chkM m.cs m.os = 0
  · have hok := chkM_ok.1 hc
    have HC := hideP hc
    rw [hc]
    clear hc
    go_wp2_with fail
    refine (check_any A c l _ ((hA.below hH.mh.be).more hH.mh.be.size) l3).mono ?_
    rintro e w3 ⟨rfl, hb3⟩
    replace hH := hH.below hb3
    clear hb3
    by_cases hd : chk ByteArray.empty l = 0
    · have hokl := chk_ok.1 hd
      have HD := hideP hd
      have hsm := hokl.small
      rw [hd]
      clear hd
      have z3 := hH.xo.cell 0 (v := .int .i64 n) rfl
      go_wp2_with fail
      refine (isown_any n _).mono ?_
      rintro e w4 ⟨rfl, rfl⟩
      clear z3
      cases hn : ownB n
      · have HV := hideP (partV_arg HC.out HD.out hn)
        have hbe := hH.mh.be
        clear hn
        go_wp2_with fail
        go_ret2
        exact ⟨none, 0, by rw [HV.out]; rfl, by rw [HV.out]; exact World.ownsRow_nil _ _ _ _, hbe⟩
      · have HV := hideP (partV_ok HC.out HD.out hn)
        clear hn
        go_wp2_with fail
        go_loopw [11, 30] (PaI w g m n l) (fun _ i _ => l.length - (intOf i).toNat)
        case atStart => exact ⟨0, Nat.zero_le _, rfl, World.ownsRow_nil _ _ _ _, hH⟩
        case round =>
          obtain ⟨k, hk, rfl, hrow, hP⟩ := hrel
          by_cases hlt : k < l.length
          · obtain ⟨b, o, rfl, hbl, c1, c2⟩ := (hA.below hP.mh.be) k _ (List.getElem?_eq_getElem hlt)
            have HT := hideP (show ptL m.cs m.os n (l.take (k + 1)) = ptL m.cs m.os n (l.take k) ++ (if whV m.cs m.os l[k].1 = n then [l[k]] else []) by rw [List.take_succ_eq_append_getElem hlt, ptL_snoc])
            have hlk : (ptL m.cs m.os n (l.take k)).length ≤ l.length := Nat.le_trans (List.length_filter_le _ _) (by rw [List.length_take]; omega)
            generalize l[k] = p at c1 c2 HT
            have g1 : (0 : Int) ≤ (k : Int) := by omega
            have g2 : (k : Int) < (l.length : Int) := by omega
            have y0 := Box.new wr 63 #[.string p.1, .int .i64 p.2]
            have hP1 := hP.alloc (o := .cells #[.string p.1, .int .i64 p.2] 63)
            have hrow1 := World.ownsRow.alloc hrow (.cells #[.string p.1, .int .i64 p.2] 63)
            clear hrow hP
            go_wp2_with fail
            generalize wr.alloc _ = w5 at y0 hP1 hrow1 ⊢
            generalize wr.heap.size = gp at y0 ⊢
            refine (owns_any w g m n p.1 p.2 _ hP1 hok).mono ?_
            rintro e w6 ⟨rfl, hb6⟩
            replace hP1 := hP1.below hb6
            replace y0 := y0.below hb6
            have hrow2 : w6.ownsRow w.heap.size 63 2 _ (ptL m.cs m.os n (l.take k)).length (cellsOf (ptL m.cs m.os n (l.take k))) := own_below hrow1 hb6
            clear hb6 hrow1
            by_cases hw : whV m.cs m.os p.1 = n
            · have dd : decide (whV m.cs m.os p.1 = n) = true := decide_eq_true hw
              rw [if_pos hw] at HT
              obtain ⟨v', w7, hrun, hown', hg', _⟩ := app_pairs (w6.alloc (.cells #[.string p.1, .int .i64 p.2] 63)) w.heap.size 36 _ _ (World.ownsRow.alloc hrow2 _) _ (some ⟨w6.heap.size, 0, none⟩) 1 [p] (PS.one w6 p.1 p.2 63) (by simp; omega) (by have := hP1.mh.be.size; simp; omega)
              have hP2 := hP1.alloc (o := .cells #[.string p.1, .int .i64 p.2] 63)
              have hb7 : Below w.heap.size w w7 := hP2.mh.be.grown hg' hP2.mh.be.size (fun j hj => (World.ownsRow.lt hrow2 j hj).1)
              have hra := World.ownsRow.alloc hrow2 (.cells #[.string p.1, .int .i64 p.2] 63)
              have hP7 : PaH w g m n w7 := ⟨⟨hP2.mh.x0.grown hg' (own_some_ne hra hP2.mh.x0.ty (by decide)), hm.below hb7, hb7⟩, hP2.xo.grown hg' (own_some_ne hra hP2.xo.ty (by decide))⟩
              rw [← HT.out] at hown'
              have HR := hideP hrun
              have u0 := y0.cell 0 (v := .string p.1) rfl
              have u1 := y0.cell 1 (v := .int .i64 p.2) rfl
              clear hrun hrow2 hP1 hP2 hg' hra hw
              go_wp2_with (at_builtin; refine Lib.wpList_append_run _ rfl _ _ _ _ rfl _ _ rfl rfl _ _ HR.out ?_)
              go_roundw
              case rel => exact ⟨k + 1, by omega, by go_num, hown', hP7⟩
              case measure => simp [intOf]; omega
            · have dd : decide (whV m.cs m.os p.1 = n) = false := decide_eq_false hw
              rw [if_neg hw, List.append_nil] at HT
              clear hw
              rw [← HT.out] at hrow2
              go_wp2_with fail
              go_roundw
              case rel => exact ⟨k + 1, by omega, by go_num, hrow2, hP1⟩
              case measure => simp [intOf]; omega
          · have hkk : l.take k = l := List.take_of_length_le (by omega)
            rw [hkk] at hrow
            obtain ⟨A', c', rfl, hov⟩ := OV.of_own hrow
            have hbe := hP.mh.be
            go_wp2_with fail
            go_ret2
            exact ⟨A', c', by rw [HV.out]; rfl, by rw [HV.out]; exact hov, hbe⟩
    · have d : (chk ByteArray.empty l != 0) = true := by simp [hd]
      have HV := hideP (partV_bad2 (n := n) HC.out hd)
      have hbe := hH.mh.be
      clear hd
      generalize chk ByteArray.empty l = q at d HV
      go_wp2_with fail
      go_ret2
      exact ⟨none, 0, by rw [HV.out]; rfl, by rw [HV.out]; exact World.ownsRow_nil _ _ _ _, hbe⟩
  · have d : (chkM m.cs m.os != 0) = true := by simp [hc]
    have HV := hideP (partV_bad (l := l) (n := n) hc)
    have hbe := hH.mh.be
    clear hc
    generalize chkM m.cs m.os = q at d HV
    go_wp2_with fail
    go_ret2
    exact ⟨none, 0, by rw [HV.out]; rfl, by rw [HV.out]; exact World.ownsRow_nil _ _ _ _, hbe⟩
end Go.Proofs.YtefdipjhjgmokaaGreatDoor

set_option linter.unusedVariables false
set_option linter.unusedSimpArgs false
namespace Go.Proofs.YtefdipjhjgmokaaGreatDoor
open Go.RowKit

/-- while the parts are made -/
structure DvH (w : World) (g : Nat) (m : Mp) (l : List Pr) (q : Dv) (k : Nat) (wr : World) : Prop where
  mh : MH w g m wr
  res : Box wr (g + 1) 192 #[.slice none 0 0, .slice none 0 0, .slice none 0 0, .slice none 0 0]
  box : Box wr (g + 2) 192 (q.up m.cs m.os l k)
  own : q.Own wr w.heap.size m.cs m.os l k
  low : w.heap.size ≤ g
section
variable {w wr w' : World} {g k : Nat} {m : Mp} {l : List Pr} {q : Dv}
theorem DvH.below (h : DvH w g m l q k wr) (hb : Below wr.heap.size wr w') : DvH w g m l q k w' := ⟨h.mh.below hb, h.res.below hb, h.box.below hb, h.own.below hb, h.low⟩
theorem DvH.step (h : DvH w g m l q k wr) (hm : MS w m) (hk : k < 4) {A : Option Addr} {c : Nat} (hov : OV wr w.heap.size A c (ptL m.cs m.os (k : Int) l)) : DvH w g m l (q.put k A c) (k + 1) (wr.setCell ⟨g + 2, k, none⟩ (.slice A (ptL m.cs m.os (k : Int) l).length c)) := by
  have hb := below_set (i := k) (v := .slice A (ptL m.cs m.os (k : Int) l).length c) h.mh.be (show w.heap.size ≤ g + 2 by have := h.low; omega)
  refine ⟨⟨h.mh.x0.other (by show g + 2 ≠ g; omega) _, hm.below hb, hb⟩, h.res.other (by show g + 2 ≠ g + 1; omega) _, ?_, (h.own.put hov).kept h.box.ty (by decide) (grown_set _ _ _ _), h.low⟩
  have := h.box.set k (.slice A (ptL m.cs m.os (k : Int) l).length c)
  rw [Dv.up_put hk] at this
  exact this
end
def DvI (w : World) (g : Nat) (m : Mp) (l : List Pr) (i : Value) (wr : World) : Prop := ∃ (k : Nat) (q : Dv), k ≤ 4 ∧ i = .int .i64 k ∧ DvH w g m l q k wr

set_option maxHeartbeats 1000000 in
set_option maxRecDepth 100000 in
theorem divide_ok (m : Mp) (A : Option Addr) (c : Nat) (l : List Pr) (w : World) (hm : MS w m) (hA : PS w w.heap.size A l) (hok : OkM m.cs m.os) (hokl : Ok l) :
    Calls Tryz.prog 135 #[.agg #[.slice m.A m.cs.length m.ca, .slice m.O m.os.length m.co], .slice A l.length c] w
      fun e w' => ∃ q : Dv, e = .returned (.tuple #[.agg (q.ar m.cs m.os l), .int .i64 0]) ∧ q.Own w' w.heap.size m.cs m.os l 4 ∧ Below w.heap.size w w' := by
  have hsm := hokl.small
  have b1 := (Below.refl w.heap.size w).alloc (Nat.le_refl _) (.cells #[.slice m.A m.cs.length m.ca, .slice m.O m.os.length m.co] 34)
  have hH := ((MH.new hm).alloc (o := .cells #[.slice none 0 0, .slice none 0 0, .slice none 0 0, .slice none 0 0] 192)).alloc (o := .cells #[.slice none 0 0, .slice none 0 0, .slice none 0 0, .slice none 0 0] 192)
  have x1 := (Box.new (w.alloc (.cells #[.slice m.A m.cs.length m.ca, .slice m.O m.os.length m.co] 34)) 192 #[.slice none 0 0, .slice none 0 0, .slice none 0 0, .slice none 0 0]).alloc (.cells #[.slice none 0 0, .slice none 0 0, .slice none 0 0, .slice none 0 0] 192)
  have x2 := Box.new ((w.alloc (.cells #[.slice m.A m.cs.length m.ca, .slice m.O m.os.length m.co] 34)).alloc (.cells #[.slice none 0 0, .slice none 0 0, .slice none 0 0, .slice none 0 0] 192)) 192 #[.slice none 0 0, .slice none 0 0, .slice none 0 0, .slice none 0 0]
  simp only [World.size_alloc] at x1 x2
  have hD : DvH w w.heap.size m l noD 0 _ := ⟨hH, x1, x2, fun j hj => absurd hj (by omega), Nat.le_refl _⟩
  clear x1 x2 b1 hH
  go_enter Tryz.func135, Tryz.ntmps135
  go_wp2_with fail
  generalize ((w.alloc _).alloc _).alloc _ = w1 at hD ⊢
  generalize hg : w.heap.size = g at hD ⊢
  go_loopw [10] (DvI w g m l) (fun i _ => 4 - (intOf i).toNat)
  case atStart => exact ⟨0, noD, by omega, rfl, hD⟩
  case round =>
    obtain ⟨k, q, hk, rfl, h⟩ := hrel
    clear hD
    by_cases hlt : k < 4
    · have g1 : (k : Int) < 4 := by omega
      have g2 : (0 : Int) ≤ (k : Int) := by omega
      obtain ⟨z1, z2⟩ := h.mh.c
      have HPT := hideP (shpart_any m A c l (k : Int) wr h.mh.ms ((hA.below h.mh.be).more h.mh.be.size) hok.l2 (by omega))
      rw [partV_ok (chkM_ok.2 hok) (chk_ok.2 hokl) (ownB_iff.2 (by omega))] at HPT
      go_wp2_with fail
      refine HPT.out.mono ?_
      rintro e w2 ⟨Ap, cp, rfl, hov, hb2⟩
      simp only at hov ⊢
      have hbe := h.mh.be.size
      replace h := h.below hb2
      have f1 := h.box.frozen k
      have c1 := h.box.cell k (Dv.up_at hlt hlt)
      clear hb2 z1 z2 HPT
      have HN := hideP (h.step hm hlt (hov.mono hbe))
      clear hov
      go_wp2_with fail
      go_roundw
      case rel => exact ⟨k + 1, q.put k Ap cp, by omega, by go_num, HN.out⟩
      case measure => simp [intOf]; omega
    · have hk4 : k = 4 := by omega
      have h4 : DvH w g m l q 4 wr := hk4 ▸ h
      clear h hk4
      have y0 := h4.box.cell 0 (v := q.s m.cs m.os l 0) rfl
      have y1 := h4.box.cell 1 (v := q.s m.cs m.os l 1) rfl
      have y2 := h4.box.cell 2 (v := q.s m.cs m.os l 2) rfl
      have y3 := h4.box.cell 3 (v := q.s m.cs m.os l 3) rfl
      have o := h4.res
      have HN := hideP (fun (xs : List (Nat × Value)) => show q.Own (xs.foldl (fun w x => w.setCell ⟨g + 1, x.1, none⟩ x.2) wr) w.heap.size m.cs m.os l 4 ∧ Below w.heap.size w (xs.foldl (fun w x => w.setCell ⟨g + 1, x.1, none⟩ x.2) wr) from
        ⟨h4.own.kept h4.res.ty (by decide) (grown_box xs), Below.kept h4.mh.be (by have := h4.low; omega) (grown_box xs)⟩)
      clear hm hA h4
      have HA := hideP (show #[q.s m.cs m.os l 0, q.s m.cs m.os l 1, q.s m.cs m.os l 2, q.s m.cs m.os l 3] = q.ar m.cs m.os l from rfl)
      have HL := hideP (HN.out [(0, q.s m.cs m.os l 0), (1, q.s m.cs m.os l 1), (2, q.s m.cs m.os l 2), (3, q.s m.cs m.os l 3)])
      simp only [List.foldl] at HL
      obtain ⟨a0, n0, c0, e0⟩ : ∃ a n c, q.s m.cs m.os l 0 = .slice a n c := ⟨_, _, _, rfl⟩
      rw [e0] at y0 HA HL
      obtain ⟨a1, n1, c1, e1⟩ : ∃ a n c, q.s m.cs m.os l 1 = .slice a n c := ⟨_, _, _, rfl⟩
      rw [e1] at y1 HA HL
      obtain ⟨a2, n2, c2, e2⟩ : ∃ a n c, q.s m.cs m.os l 2 = .slice a n c := ⟨_, _, _, rfl⟩
      rw [e2] at y2 HA HL
      obtain ⟨a3, n3, c3, e3⟩ : ∃ a n c, q.s m.cs m.os l 3 = .slice a n c := ⟨_, _, _, rfl⟩
      rw [e3] at y3 HA HL
      have o1 := o.set 0 (.slice a0 n0 c0)
      have o2 := o1.set 1 (.slice a1 n1 c1)
      have o3 := o2.set 2 (.slice a2 n2 c2)
      have o4 := o3.set 3 (.slice a3 n3 c3)
      have f0 := o.frozen 0
      have f1 := o1.frozen 1
      have f2 := o2.frozen 2
      have f3 := o3.frozen 3
      have d0 := o.cell 0 (v := .slice none 0 0) rfl
      have d1 := o1.cell 1 (v := .slice none 0 0) rfl
      have d2 := o2.cell 2 (v := .slice none 0 0) rfl
      have d3 := o3.cell 3 (v := .slice none 0 0) rfl
      have q0 := o4.cell 0 (v := .slice a0 n0 c0) rfl
      have q1 := o4.cell 1 (v := .slice a1 n1 c1) rfl
      have q2 := o4.cell 2 (v := .slice a2 n2 c2) rfl
      have q3 := o4.cell 3 (v := .slice a3 n3 c3) rfl
      clear o o1 o2 o3 o4 HN e0 e1 e2 e3
      go_wp2_with fail
      exact bodyPost_ret (v := .tuple #[.agg #[.slice a0 n0 c0, .slice a1 n1 c1, .slice a2 n2 c2, .slice a3 n3 c3], .int .i64 0]) (by simp [results, Tryz.results135, go_sem, q0, q1, q2, q3]) rfl ⟨q, by rw [HA.out], HL.out⟩
/-- the four slices, each spelt out -/
def Dv4 (q : Dv) (cs : List ByteArray) (os : List Int) (l : List Pr) (v0 v1 v2 v3 : Value) : Prop := q.s cs os l 0 = v0 ∧ q.s cs os l 1 = v1 ∧ q.s cs os l 2 = v2 ∧ q.s cs os l 3 = v3
def RetDv (w : World) (cs : List ByteArray) (os : List Int) (l : List Pr) (e : Ending) (w' : World) : Prop :=
  ∃ (q : Dv) (a0 a1 a2 a3 : Option Addr) (n0 n1 n2 n3 c0 c1 c2 c3 : Nat), e = .returned (.tuple #[.agg #[.slice a0 n0 c0, .slice a1 n1 c1, .slice a2 n2 c2, .slice a3 n3 c3], .int .i64 0]) ∧ Dv4 q cs os l (.slice a0 n0 c0) (.slice a1 n1 c1) (.slice a2 n2 c2) (.slice a3 n3 c3) ∧ q.Own w' w.heap.size cs os l 4 ∧ Below w.heap.size w w'
theorem divide_4 (m : Mp) (A : Option Addr) (c : Nat) (l : List Pr) (w : World) (hm : MS w m) (hA : PS w w.heap.size A l) (hok : OkM m.cs m.os) (hokl : Ok l) :
    Calls Tryz.prog 135 #[.agg #[.slice m.A m.cs.length m.ca, .slice m.O m.os.length m.co], .slice A l.length c] w (RetDv w m.cs m.os l) := by
  refine (divide_ok m A c l w hm hA hok hokl).mono ?_
  rintro e w' ⟨q, rfl, h1, h2⟩
  exact ⟨q, _, _, _, _, _, _, _, _, _, _, _, _, rfl, ⟨rfl, rfl, rfl, rfl⟩, h1, h2⟩
end Go.Proofs.YtefdipjhjgmokaaGreatDoor
