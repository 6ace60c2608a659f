/-
  roref.Run: a transaction on the values of keys.
  roref.Run at a valid transaction: what it leaves.
  The first entries of a slice.
-/
import Derived.Test.YtefdipjhjgmokaaGreatDoorBx31
import Derived.Test.YtefdipjhjgmokaaGreatDoorBx11
import Derived.Test.YtefdipjhjgmokaaGreatDoorBx29
import Derived.Test.YtefdipjhjgmokaaGreatDoorBx21
import Derived.Test.YtefdipjhjgmokaaGreatDoorBx28
import Derived.Test.YtefdipjhjgmokaaGreatDoorBx2
import Derived.Test.YtefdipjhjgmokaaGreatDoorBx1
import Derived.Maps.Own
import Derived.Maps.OwnOps
import Derived.Maps.OwnSet
import Derived.Deep.RegionHeld3
import Derived.Test.YtefdipjhjgmokaaGreatDoorBx3
set_option linter.unusedVariables false
set_option linter.unusedSimpArgs false
namespace Go.Proofs.YtefdipjhjgmokaaGreatDoor
open Go.RowKit Go.WideMaps Go.Maps

theorem stepV_vb {v u : VF} {o : Opr} (ho : chkO o = 0) (hv : ∀ k, valB (v k) = true) (h : stepV v o = some u) : ∀ k, valB (u k) = true := by
  have hc := chkO_zero.1 ho
  obtain ⟨kd, key, src, n⟩ := o
  simp only at hc
  have put : ∀ {v' : VF} {x : Int}, (∀ k, valB (v' k) = true) → putV v' key x = some u → ∀ k, valB (u k) = true := fun {v'} {x} hv' h k => by
    unfold putV at h
    by_cases hx : valB x = true
    · rw [if_pos hx] at h; injection h with h; rw [← h]
      by_cases e : k = key
      · subst e; rw [upd_same]; exact hx
      · rw [upd_other _ _ e]; exact hv' k
    · rw [if_neg hx] at h; cases h
  rcases (show kd = 1 ∨ kd = 2 ∨ kd = 3 ∨ kd = 4 ∨ kd = 5 by omega) with rfl | rfl | rfl | rfl | rfl <;> simp [stepV] at h
  · exact put hv h
  · exact put hv h
  · exact put hv h
  · rw [← h.2]; exact hv
  · unfold moveV at h
    simp only at h
    by_cases hlt : v src < n
    · rw [if_pos hlt] at h; cases h
    · rw [if_neg hlt] at h
      refine put (fun k => ?_) h
      by_cases e : k = src
      · subst e; rw [upd_same]; have := valB_iff.1 (hv k); have := hc.2.2.2.2.2 rfl; exact valB_iff.2 (by omega)
      · rw [upd_other _ _ e]; exact hv k
/-- while the values are copied -/
def CopyInv (w : World) (b it bo n : Nat) (D : DataW Unit) (B : Nat) (wr : World) : Prop :=
  ∃ (left : Lit → Bool) (cnt m : Nat) (g : VF), wr.ranges Tryz.prog 9 (plainElem Tryz.prog 3) b it n D left cnt ∧ MV wr bo m g ∧ (∀ k, g k = if left (kl k) = false then mv D k else 0) ∧ m + cnt ≤ Maps.size D ∧ Below B w wr

/-- while the operations are executed -/
def OpsRInv (w : World) (bo n : Nat) (f : VF) (d : List Opr) (i : Value) (wr : World) : Prop :=
  ∃ (k : Nat) (u : VF), k ≤ d.length ∧ i = .int .i64 k ∧ MV wr bo (n + 2 * k) u ∧ runV f (d.take k) = some u ∧ (∀ j, valB (u j) = true) ∧ Below w.heap.size w wr

set_option maxRecDepth 100000 in
set_option maxHeartbeats 4000000 in
theorem rrunR_any (b n : Nat) (f : VF) (A : Option Addr) (c : Nat) (d : List Opr) (w : World) (hM : MV w b n f) (hn : n ≤ 500000000) (hf : ∀ k, valB (f k) = true) (hA : OS w w.heap.size A d) (hd : chkD d = 0) :
    Calls Tryz.prog 113 #[.map (some b), .agg #[.slice A d.length c]] w fun e w' =>
      (∃ u bo, runV f d = some u ∧ e = .returned (.tuple #[.map (some bo), .bool true]) ∧ MV w' bo (n + 16) u ∧ w.heap.size ≤ bo ∧ Below w.heap.size w w') ∨ (runV f d = none ∧ e = .returned (.tuple #[.map (some b), .bool false]) ∧ Below w.heap.size w w') := by
  have hmm := @run_makeMap Tryz.prog
  obtain ⟨hd1, hd8, hdo⟩ := chkD_zero.1 hd
  clear hd
  have hbl := hM.lt
  obtain ⟨D, hown, hIM, hmv⟩ := hM.ex
  have hsd := hown.size_le
  go_enter Tryz.func113, Tryz.ntmps113
  go_wp2_with (first
    | (at_range; refine wpList_range_own _ rfl _ 103 rfl 9 3 law9 Tryz.underlying103 _ b n _ rfl ((hown.alloc _).alloc _) ?_; intro w0 hrg0 hg0 hs0)
    | go_in)
  go_frame
  have e1 : ((w.alloc (.cells #[.slice A d.length c] 40)).alloc (.map #[] 0)).heap.size = w.heap.size + 1 + 1 := by simp
  rw [e1] at hrg0 hs0 ⊢
  have hbA : Below w.heap.size w ((w.alloc (.cells #[.slice A d.length c] 40)).alloc (.map #[] 0)) := ((Below.refl _ w).alloc (Nat.le_refl _) _).alloc (by simp) _
  have hb0 : Below w.heap.size w w0 := hbA.grown hg0 hbA.size (fun j hj => by cases hj)
  have hMo : MV w0 (w.heap.size + 1) 0 (fun _ => 0) := by
    have h1 := World.ownsMap_made (H := Unit) (w.alloc (.cells #[.slice A d.length c] 40)) Tryz.prog 9 (plainElem Tryz.prog 3)
    rw [World.size_alloc] at h1
    exact MV.kept ⟨.map [], h1, isMap_empty, fun k => mv_empty k⟩ hg0 (by simp)
  have hbox0 : Box w0 w.heap.size 40 #[.slice A d.length c] := ((Box.new w _ _).alloc _).grown hg0 (by simp)
  have hs1 : w0.heap.size = w.heap.size + 3 := by omega
  clear hg0 hs0 e1 hbA hown
  go_loopw [] (fun wr => CopyInv w b (w.heap.size + 1 + 1) (w.heap.size + 1) n D w.heap.size wr ∧ Box wr w.heap.size 40 #[.slice A d.length c] ∧ w.heap.size + 3 ≤ wr.heap.size) (fun wr => wr.rangeLeft b (w.heap.size + 1 + 1))
  case atStart => exact ⟨⟨_, _, 0, _, hrg0, hMo, (fun k => by cases h : Maps.has D (kl k); rw [if_pos rfl, mv_none h]; rw [if_neg (by simp)]), by simp, hb0⟩, hbox0, by omega⟩
  case round =>
    obtain ⟨⟨left, cnt, m, g, hrg, hMr, hgk, hmc, hb⟩, hbx, hsz⟩ := hrel
    have HGK := hideP hgk
    clear hrg0 hMo hb0 hbox0 hs1 hgk
    go_wp2_with (first
      | (at_next; refine wpList_next_ranges _ rfl _ rfl 9 law9 (plainElem Tryz.prog 3) Value.string (Value.int .i64) (fun key kl hk => by obtain ⟨x, hx, _⟩ := Maps.keyOf_str Tryz.underlying9 hk; exact ⟨_, hx⟩) (fun v y hv => by obtain ⟨c, rfl, _⟩ := plainElem_int_inv Tryz.underlying3 hv; exact ⟨c, rfl⟩) b (w.heap.size + 1 + 1) n _ _ _ rfl hrg ?_ ?_)
      | go_in)
    · intro hc0 hl0
      have hgf : g = f := funext fun k => by rw [HGK.out, if_pos (hl0 _), hmv]
      rw [hgf] at hMr
      have hMn := hMr.mono (show m ≤ n + 2 * 0 by omega)
      have z0 := hbx.cell 0 (v := .slice A d.length c) rfl
      obtain ⟨wq, rfl⟩ : ∃ wq, wq = wr := ⟨_, rfl⟩
      have hbq := hb
      clear HGK hmv hrg hl0 hgf hMr hIM hsd hmc
      obtain ⟨bo, hbo⟩ : ∃ bo, bo = w.heap.size + 1 := ⟨_, rfl⟩
      rw [← hbo] at hMn ⊢
      have hbo1 : w.heap.size ≤ bo := by omega
      have hbo2 : bo ≠ w.heap.size := by omega
      clear hbo
      go_wp2_with fail
      go_loopw [25] (OpsRInv w bo n f d) (fun i _ => d.length - (intOf i).toNat)
      case atStart => exact ⟨0, f, Nat.zero_le _, rfl, hMn, rfl, hf, hbq⟩
      case round =>
        obtain ⟨k, u, hk, rfl, hMk, hrun, hub, hbk⟩ := hrel
        have HRUN := hideP hrun
        clear hMn hrun hbx z0 hb hbq hsz
        by_cases hlt : k < d.length
        · have hchk := hdo _ (List.getElem_mem hlt)
          obtain ⟨b4, o4, rfl, hbl4, q1, q2, q3, q4⟩ := (hA.below hbk) k _ (List.getElem?_eq_getElem hlt)
          have hTK := hideP (runV_take hlt HRUN.out)
          generalize hgo : d[k] = p at hchk q1 q2 q3 q4
          have HG := hideP hgo
          clear hgo hdo hA
          have hVB := hideP (fun u' (h : stepV u p = some u') => stepV_vb hchk hub h)
          have hNX := hideP (fun u' (h : stepV u p = some u') => show runV f (d.take (k + 1)) = some u' by rw [hTK.out, HG.out, h])
          have hNO := hideP (fun (h : stepV u p = none) => show runV f d = none from runV_none (k := k + 1) (by rw [hTK.out, HG.out, h]))
          have hc := chkO_zero.1 hchk
          obtain ⟨kd, key, src, nn⟩ := p
          simp only at hc q1 q2 q3 q4 hVB hNX hNO
          have hat := OpAt.new wr ⟨kd, key, src, nn⟩ 71
          simp only at hat
          have hb0 := hbk.alloc hbk.size (.cells #[.int .i64 kd, .string key, .string src, .int .i64 nn] 71)
          have hM0 := hMk.below ((Below.refl _ wr).alloc (Nat.le_refl _) (.cells #[.int .i64 kd, .string key, .string src, .int .i64 nn] 71))
          have hxb : wr.heap.size ≠ bo := by have := hMk.lt; omega
          have hk6 : key.size ≤ maxLen := by have := hc.2.2.1; simp [keyB] at this; unfold maxLen; omega
          have hs6' : kd = 3 ∨ kd = 5 → src.size ≤ maxLen := fun h => by have := (hc.2.2.2.1 h).1; simp [keyB] at this; unfold maxLen; omega
          clear hMk hTK HG
          rcases (show kd = 1 ∨ kd = 2 ∨ kd = 3 ∨ kd = 4 ∨ kd = 5 by omega) with rfl | rfl | rfl | rfl | rfl
          · have hnv := hc.2.2.2.2.1 (by decide)
            obtain ⟨w1, hr1, hM1, hg1⟩ := hM0.put (by omega) key hk6 (nn) (wf_of hnv)
            have hb1 := hb0.grown hg1 hb0.size (fun j hj => by cases hj; exact hbo1)
            have hat1 := hat.grown hg1 (by intro e; injection e with e; exact hxb e)
            have z10 := hat1.kind
            have z11 := hat1.key
            have z12 := hat1.src
            have z13 := hat1.n
            simp only at z10 z11 z12 z13
            clear hg1
            have l1 := hM1.look key hk6
            rw [upd_same] at l1
            have HS := hideP (show stepV u ⟨1, key, src, nn⟩ = some (upd u key nn) from by simp [stepV, putV, hnv])
            have HN := hideP (hNX.out _ HS.out)
            have HV := hideP (hVB.out _ HS.out)
            clear hM0 hVB hNX hNO hat
            go_wp2_with fail
            refine (rvalue_any _ _).mono ?_
            rintro e w' ⟨rfl, rfl⟩
            rw [hnv]
            go_wp2_with fail
            go_roundw
            case rel => exact ⟨k + 1, _, by omega, by go_num, hM1.mono (by omega), HN.out, HV.out, hb1⟩
            case measure => simp [intOf]; omega
          · have hnv := valB_iff.1 (hc.2.2.2.2.1 (by decide))
            have huk := valB_iff.1 (hub key)
            have l0 := hM0.look key hk6
            generalize hgx : u key = x at huk l0
            have hwr : IntKind.i64.wrap (x + nn) = x + nn := by simp only [IntKind.wrap_i64]; omega
            obtain ⟨w1, hr1, hM1, hg1⟩ := hM0.put (by omega) key hk6 (x + nn) (WalkArith.wf_i64 (by omega))
            have hb1 := hb0.grown hg1 hb0.size (fun j hj => by cases hj; exact hbo1)
            have hat1 := hat.grown hg1 (by intro e; injection e with e; exact hxb e)
            have z10 := hat1.kind
            have z11 := hat1.key
            have z12 := hat1.src
            have z13 := hat1.n
            simp only at z10 z11 z12 z13
            clear hg1
            have l1 := hM1.look key hk6
            rw [upd_same] at l1
            cases hvb : valB (x + nn)
            · have HNO := hideP (hNO.out (by simp [stepV, putV, hgx, hvb]))
              clear hM0 hVB hNX hNO hat hgx
              go_wp2_with fail
              refine (rvalue_any _ _).mono ?_
              rintro e w' ⟨rfl, rfl⟩
              rw [hvb]
              go_wp2_with fail
              go_ret2
              exact .inr ⟨HNO.out, rfl, hb1⟩
            · have HS := hideP (show stepV u ⟨2, key, src, nn⟩ = some (upd u key (x + nn)) from by simp [stepV, putV, hgx, hvb])
              have HN := hideP (hNX.out _ HS.out)
              have HV := hideP (hVB.out _ HS.out)
              clear hM0 hVB hNX hNO hat hgx
              go_wp2_with fail
              refine (rvalue_any _ _).mono ?_
              rintro e w' ⟨rfl, rfl⟩
              rw [hvb]
              go_wp2_with fail
              go_roundw
              case rel => exact ⟨k + 1, _, by omega, by go_num, hM1.mono (by omega), HN.out, HV.out, hb1⟩
              case measure => simp [intOf]; omega
          · have hs6 := hs6' (by decide)
            have huk := hub src
            have l0 := hM0.look src hs6
            generalize hgx : u src = x at huk l0
            obtain ⟨w1, hr1, hM1, hg1⟩ := hM0.put (by omega) key hk6 (x) (wf_of huk)
            have hb1 := hb0.grown hg1 hb0.size (fun j hj => by cases hj; exact hbo1)
            have hat1 := hat.grown hg1 (by intro e; injection e with e; exact hxb e)
            have z10 := hat1.kind
            have z11 := hat1.key
            have z12 := hat1.src
            have z13 := hat1.n
            simp only at z10 z11 z12 z13
            clear hg1
            have l1 := hM1.look key hk6
            rw [upd_same] at l1
            have HS := hideP (show stepV u ⟨3, key, src, nn⟩ = some (upd u key x) from by simp [stepV, putV, hgx, huk])
            have HN := hideP (hNX.out _ HS.out)
            have HV := hideP (hVB.out _ HS.out)
            clear hM0 hVB hNX hNO hat hgx
            go_wp2_with fail
            refine (rvalue_any _ _).mono ?_
            rintro e w' ⟨rfl, rfl⟩
            rw [huk]
            go_wp2_with fail
            go_roundw
            case rel => exact ⟨k + 1, _, by omega, by go_num, hM1.mono (by omega), HN.out, HV.out, hb1⟩
            case measure => simp [intOf]; omega
          · have huk := hub key
            have l0 := hM0.look key hk6
            generalize hgx : u key = x at huk l0
            by_cases hlt4 : x < nn
            · have HNO := hideP (hNO.out (by simp [stepV, hgx]; omega))
              clear hM0 hVB hNX hNO hat hgx
              go_wp2_with fail
              go_ret2
              exact .inr ⟨HNO.out, rfl, hb0⟩
            · have HS := hideP (show stepV u ⟨4, key, src, nn⟩ = some u from by simp [stepV, hgx]; omega)
              have HN := hideP (hNX.out _ HS.out)
              have HV := hideP (hVB.out _ HS.out)
              clear hVB hNX hNO hgx
              go_wp2_with fail
              refine (rvalue_any _ _).mono ?_
              rintro e w' ⟨rfl, rfl⟩
              rw [huk]
              go_wp2_with fail
              go_roundw
              case rel => exact ⟨k + 1, _, by omega, by go_num, hM0.mono (by omega), HN.out, HV.out, hb0⟩
              case measure => simp [intOf]; omega
          · have hs6 := hs6' (by decide)
            have hne := (hc.2.2.2.1 (by decide)).2
            have hn0 := hc.2.2.2.2.2 rfl
            have hnv := valB_iff.1 (hc.2.2.2.2.1 (by decide))
            have hux := valB_iff.1 (hub src)
            have huy := valB_iff.1 (hub key)
            have l0 := hM0.look src hs6
            generalize hgx : u src = x at hux l0
            by_cases hlt4 : x < nn
            · have HNO := hideP (hNO.out (by simp [stepV, moveV, hgx, hlt4]))
              clear hM0 hVB hNX hNO hat hgx
              go_wp2_with fail
              go_ret2
              exact .inr ⟨HNO.out, rfl, hb0⟩
            · have hwr : IntKind.i64.wrap (x - nn) = x - nn := by simp only [IntKind.wrap_i64]; omega
              obtain ⟨w1, hr1, hM1, hg1⟩ := hM0.put (by omega) src hs6 (x - nn) (WalkArith.wf_i64 (by omega))
              have hb1 := hb0.grown hg1 hb0.size (fun j hj => by cases hj; exact hbo1)
              have hat1 := hat.grown hg1 (by intro e; injection e with e; exact hxb e)
              have z10 := hat1.kind
              have z11 := hat1.key
              have z12 := hat1.src
              have z13 := hat1.n
              simp only at z10 z11 z12 z13
              clear hg1
              have l1 := hM1.look key hk6
              rw [upd_other _ _ (fun e => hne e.symm)] at l1
              generalize hgy : u key = y at huy l1
              have hwr2 : IntKind.i64.wrap (y + nn) = y + nn := by simp only [IntKind.wrap_i64]; omega
              obtain ⟨w2, hr2, hM2, hg2⟩ := hM1.put (by omega) key hk6 (y + nn) (WalkArith.wf_i64 (by omega))
              have hb2 := hb1.grown hg2 hb1.size (fun j hj => by cases hj; exact hbo1)
              have hat2 := hat1.grown hg2 (by intro e; injection e with e; exact hxb e)
              have z20 := hat2.kind
              have z21 := hat2.key
              have z22 := hat2.src
              have z23 := hat2.n
              simp only at z20 z21 z22 z23
              clear hg2
              have l2 := hM2.look key hk6
              rw [upd_same] at l2
              have hst : stepV u ⟨5, key, src, nn⟩ = putV (upd u src (x - nn)) key (y + nn) := by simp only [stepV, moveV]; rw [if_neg (by decide), if_neg (by decide), if_neg (by decide), if_neg (by decide), hgx, if_neg hlt4, upd_other _ _ (fun e => hne e.symm), hgy]
              cases hvb : valB (y + nn)
              · have HNO := hideP (hNO.out (by rw [hst]; simp [putV, hvb]))
                clear hM0 hM1 hVB hNX hNO hat hat1 hgx hgy hst
                go_wp2_with fail
                refine (rvalue_any _ _).mono ?_
                rintro e w' ⟨rfl, rfl⟩
                rw [hvb]
                go_wp2_with fail
                go_ret2
                exact .inr ⟨HNO.out, rfl, hb2⟩
              · have HS := hideP (show stepV u ⟨5, key, src, nn⟩ = some (upd (upd u src (x - nn)) key (y + nn)) from by rw [hst]; simp [putV, hvb])
                have HN := hideP (hNX.out _ HS.out)
                have HV := hideP (hVB.out _ HS.out)
                clear hM0 hM1 hVB hNX hNO hat hat1 hgx hgy hst
                go_wp2_with fail
                refine (rvalue_any _ _).mono ?_
                rintro e w' ⟨rfl, rfl⟩
                rw [hvb]
                go_wp2_with fail
                go_roundw
                case rel => exact ⟨k + 1, _, by omega, by go_num, hM2.mono (by omega), HN.out, HV.out, hb2⟩
                case measure => simp [intOf]; omega
        · have HF := hideP (show runV f d = some u by rw [← HRUN.out, List.take_of_length_le (by omega)])
          have hMf := hMk.mono (show n + 2 * k ≤ n + 16 by omega)
          clear hMk
          go_wp2_with fail
          go_ret2
          exact .inl ⟨u, bo, HF.out, rfl, hMf, hbo1, hbk⟩
    · intro x cv kl' yd yp w2 cnt2 hkey hlk hv hat hrg2 hlt hg2 hs2 hen
      obtain ⟨x', ex, rfl, hxs⟩ := Maps.keyOf_str Tryz.underlying9 hkey
      obtain rfl : x' = x.data.toList := by unfold encStr at ex; injection ex with ex; rw [ex]
      obtain ⟨c', ec, hyd, hwf⟩ := plainElem_int_inv Tryz.underlying3 hv
      obtain rfl : cv = c' := by injection ec
      have hmvx : mv D x = cv := mv_of (k := x) (fun z => by rw [show kl x = .string x.data.toList from rfl, hat z]; exact congrArg Prod.fst hyd)
      have hM2 := hMr.kept hg2 (by intro e; injection e with e; omega)
      have hb2 : Below w.heap.size w w2 := hb.grown hg2 hb.size (fun j hj => by cases hj; omega)
      have hbx2 := hbx.grown hg2 (by intro e; injection e with e; omega)
      have hxm : x.size ≤ maxLen := by simpa using hxs
      obtain ⟨w3, hrun, hM3, hg3⟩ := hM2.put (by omega) x hxm cv hwf
      have hb3 : Below w.heap.size w w3 := hb2.grown hg3 hb2.size (fun j hj => by cases hj; omega)
      have hbx3 := hbx2.grown hg3 (by intro e; injection e with e; omega)
      have hrg3 := hrg2.kept hg3 (by intro e; injection e with e; omega) (by intro e; injection e with e; omega)
      have HGK2 := hideP (show ∀ k, upd g x cv k = if (left (kl k) && !(kl k).sameKey (kl x)) = false then mv D k else 0 from fun k => by
        by_cases e : k = x
        · subst e
          rw [upd_same, if_pos (by simp [kl, Lit.sameKey]), hmvx]
        · rw [upd_other _ _ e, HGK.out]
          have hns : (kl k).sameKey (kl x) = false := by
            cases h : (kl k).sameKey (kl x)
            · rfl
            · exact absurd (same_kl h) e
          rw [hns]; simp)
      have hsz3 : w.heap.size + 3 ≤ w3.heap.size := by have := hg3.size; have := hg2.size; omega
      clear hkey hv hat ex hyd ec hg2 hs2 hxs hmvx hM2 hb2 hbx2 hg3 HGK hlk hwf hMr hb hbx
      go_wp2_with fail
      go_roundw
      case rel => exact ⟨⟨_, cnt2, m + 1, _, hrg3, hM3, HGK2.out, by omega, hb3⟩, hbx3, hsz3⟩
      case measure => rw [hrg3.left_eq, hrg.left_eq]; exact hlt
end Go.Proofs.YtefdipjhjgmokaaGreatDoor

set_option linter.unusedVariables false
set_option linter.unusedSimpArgs false
namespace Go.Proofs.YtefdipjhjgmokaaGreatDoor
open Go.RowKit Go.WideMaps Go.Maps

/-- a map's block is not a row's -/
theorem map_not_row {w : World} {b n B : Nat} {D : DataW Unit} {t : TypeId} {A : Option Addr} {c : Nat} {xs : List Value} (h : w.ownsMap Tryz.prog 9 (plainElem Tryz.prog 3) b n D) (hr : OR w B t A c xs) : (Value.slice A xs.length c).ownBlock ≠ some b := fun e => by
  obtain ⟨es, clock, hb, _⟩ := h
  rcases hr.2 with ⟨hv, _⟩ | ⟨g, cap, cur, hv, _, hg, _⟩
  · rw [hv] at e; cases e
  · rw [hv] at e
    have : g = b := by simpa [Value.ownBlock] using e
    rw [this, hb] at hg; cases hg
theorem runV_vb {d : List Opr} (hd : ∀ o ∈ d, chkO o = 0) {v u : VF} (hv : ∀ k, valB (v k) = true) (h : runV v d = some u) : ∀ k, valB (u k) = true := by
  induction d generalizing v with
  | nil => injection h with h; rw [← h]; exact hv
  | cons o r ih =>
    rw [runV_cons] at h
    cases hs : stepV v o with
    | none => rw [hs] at h; cases h
    | some x => rw [hs] at h; exact ih (fun q hq => hd q (by simp [hq])) (stepV_vb (hd o (by simp)) hv hs) h
theorem doneV_vb {d : List Opr} (hd : ∀ o ∈ d, chkO o = 0) {v : VF} (hv : ∀ k, valB (v k) = true) : ∀ k, valB ((doneV v d).1 k) = true := by
  cases hr : runV v d with
  | none => rw [doneV_none hr]; exact hv
  | some u => rw [doneV_some hr]; exact runV_vb hd hv hr
/-- Run at a valid transaction: what it leaves -/
theorem rrunR_done (b n : Nat) (f : VF) (A : Option Addr) (c : Nat) (d : List Opr) (w : World) (hM : MV w b n f) (hn : n ≤ 500000000) (hf : ∀ k, valB (f k) = true) (hA : OS w w.heap.size A d) (hd : chkD d = 0) :
    Calls Tryz.prog 113 #[.map (some b), .agg #[.slice A d.length c]] w fun e w' => ∃ b', e = .returned (.tuple #[.map (some b'), .bool (doneV f d).2]) ∧ MV w' b' (n + 16) (doneV f d).1 ∧ Below w.heap.size w w' := by
  refine (rrunR_any b n f A c d w hM hn hf hA hd).mono ?_
  rintro e w' (⟨u, bo, hr, rfl, hM', _, hb⟩ | ⟨hr, rfl, hb⟩)
  · rw [doneV_some hr]; exact ⟨bo, rfl, hM', hb⟩
  · rw [doneV_none hr]; exact ⟨b, rfl, (hM.below hb).mono (by omega), hb⟩
end Go.Proofs.YtefdipjhjgmokaaGreatDoor

set_option linter.unusedVariables false
set_option linter.unusedSimpArgs false
namespace Go.Proofs.YtefdipjhjgmokaaGreatDoor
open Go.RowKit

theorem slice_uptoE (T : Option Addr) (n ct m : Nat) (hm : m ≤ ct) (hn : T = none → ct = 0) (w : World) : (Instr.slice 26 (.slice T n ct) none (some (.int .i64 (m : Int))) none).run Tryz.prog w = .ok (.slice T m ct) w := by
  have g1 : (0 : Int) ≤ (m : Int) := by omega
  have g2 : (m : Int) ≤ (ct : Int) := by omega
  cases T with
  | none =>
    obtain rfl := hn rfl
    obtain rfl : m = 0 := by omega
    clear hn hm
    go_simp
  | some a =>
    clear hn hm
    go_simp
end Go.Proofs.YtefdipjhjgmokaaGreatDoor
