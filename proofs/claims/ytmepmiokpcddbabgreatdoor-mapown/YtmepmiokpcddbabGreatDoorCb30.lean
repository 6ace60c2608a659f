/-
  rokeep.Deeds.
-/
import Derived.Test.YtmepmiokpcddbabGreatDoorCb5
import Derived.Test.YtmepmiokpcddbabGreatDoorCb15
import Derived.Test.YtmepmiokpcddbabGreatDoorCb3
import Derived.Test.YtmepmiokpcddbabGreatDoorCb2
import Derived.OneCell
import Derived.Lib.MinMax
import Derived.Deep.RegionHeld3
import Derived.Deep.LoopGhost
import Derived.Deep.DeepCutAuto
set_option linter.unusedVariables false
set_option linter.unusedSimpArgs false
namespace Go.Proofs.YtmepmiokpcddbabGreatDoor
open Go.RowKit

/-- a slice of ints: where, its capacity, what it reads as -/
structure Cl where
  A : Option Addr
  c : Nat
  zs : List Int
def clV (x : Cl) : Value := .slice x.A x.zs.length x.c
/-- a slice of slices of ints -/
structure LS (w : World) (A : Option Addr) (cs : List Cl) : Prop where
  vs : VS w A (cs.map clV)
  is_ : ∀ x ∈ cs, IS w x.A x.zs ∧ x.zs.length ≤ x.c ∧ x.c ≤ 9223372036854775807
theorem LS.below {w w' : World} {A : Option Addr} {cs : List Cl} (h : LS w A cs) (hb : Below w.heap.size w w') : LS w' A cs := ⟨h.vs.below hb, fun x hx => ⟨(h.is_ x hx).1.below hb, (h.is_ x hx).2⟩⟩
/-- the key q -/
def kq : ByteArray := ⟨#[113]⟩
/-- an operation as Deeds makes them -/
structure GoodO (o : Opr) : Prop where
  kind : 1 ≤ o.kind ∧ o.kind ≤ 5
  key : o.key ∈ keysL
  n : 0 ≤ o.n ∧ o.n ≤ 8
  src : (o.kind = 3 ∨ o.kind = 5) → (o.src ∈ keysL ∨ o.src = kq) ∧ o.src ≠ o.key
  nosrc : ¬ (o.kind = 3 ∨ o.kind = 5) → o.src = ByteArray.empty
theorem kq_not : kq ∉ keysL := fun h => by
  have : inB kq keysL = false := by decide +kernel
  rw [inB_iff.2 h] at this; cases this
theorem kq_ok : keyB kq = true := by decide +kernel
theorem GoodO.chk {o : Opr} (h : GoodO o) : chkO o = 0 :=
  chkO_zero.2 ⟨h.kind.1, h.kind.2, keysL_ok _ h.key, fun hk => ⟨(h.src hk).1.elim (keysL_ok _) (fun e => e ▸ kq_ok), (h.src hk).2⟩, fun _ => valB_iff'.2 (by have := h.n; omega), fun _ => h.n.1⟩
/-- transactions as Deeds makes them, in memory of the call's own -/
structure Dds (w : World) (B : Nat) (A : Option Addr) (c : Nat) (ds : List Dl) : Prop where
  or : OR w B 24 A c (ds.map dlV)
  oo : ∀ x ∈ ds, OO w B x.D x.c x.d
  ap : ∀ x ∈ ds, blk x.D ≠ blk A
  pw : ds.Pairwise (fun x y => blk x.D ≠ blk y.D)
  good : ∀ x ∈ ds, (∀ o ∈ x.d, GoodO o) ∧ 1 ≤ x.d.length ∧ x.d.length ≤ 4
def RetDeeds (w : World) (most : Nat) (e : Ending) (w' : World) : Prop := ∃ A c ds, e = .returned (.slice A (ds : List Dl).length c) ∧ Dds w' w.heap.size A c ds ∧ ds.length ≤ most ∧ Below w.heap.size w w'

/-- while the transactions are gathered -/
def DeedsInv (w : World) (m : Nat) (s i : Value) (wr : World) : Prop :=
  ∃ (k : Nat) (A : Option Addr) (c : Nat) (ds : List Dl), k ≤ m ∧ i = .int .i64 k ∧ s = .slice A ds.length c ∧ Dds wr w.heap.size A c ds ∧ ds.length ≤ k ∧ Below w.heap.size w wr
/-- while the operations of one are gathered (its box lies at block g) -/
def OpsInv (wk : World) (g : Nat) (gk : Nat) (i : Value) (wr : World) : Prop :=
  ∃ (j t : Nat) (D : Option Addr) (c : Nat) (d : List Opr), j ≤ 4 ∧ gk = 4 - j ∧ t = 3 * j ∧ i = .int .i64 t ∧ d.length = j ∧ Box wr g 24 #[.slice D d.length c] ∧ OO wr wk.heap.size D c d ∧ blk D ≠ some g ∧ (∀ o ∈ d, GoodO o) ∧ Below wk.heap.size wk wr
/-- the new operation lies at block g, all else is as it was -/
def NewOp (wk : World) (o : Opr) (s : Value) (wc : World) : Prop := ∃ g, s = .pointer (some ⟨g, 0, none⟩) ∧ Box wc g 93 #[.int .i64 o.kind, .string o.key, .string o.src, .int .i64 o.n] ∧ wk.heap.size ≤ g ∧ Below wk.heap.size wk wc
theorem newOp1 (w : World) (k : Int) (key : ByteArray) (n : Int) : NewOp w ⟨k, key, ByteArray.empty, n⟩ (.pointer (some ⟨w.heap.size + 1, 0, none⟩)) ((w.alloc keysO).alloc (.cells #[.int .i64 k, .string key, .string ⟨#[]⟩, .int .i64 n] 93)).drew :=
  ⟨w.heap.size + 1, rfl, by have := Box.new (w.alloc keysO) 93 #[.int .i64 k, .string key, .string ⟨#[]⟩, .int .i64 n]; rw [World.size_alloc] at this; exact this, by omega, (((Below.refl _ w).alloc (Nat.le_refl _) _).alloc (by simp) _).drew⟩
theorem newOp2 (w : World) (k : Int) (key : ByteArray) (n : Int) : NewOp w ⟨k, key, ByteArray.empty, n⟩ (.pointer (some ⟨w.heap.size, 0, none⟩)) ((w.alloc (.cells #[.int .i64 k, .string key, .string ⟨#[]⟩, .int .i64 n] 93)).alloc keysO).drew :=
  ⟨w.heap.size, rfl, (Box.new w _ _).alloc _, by omega, (((Below.refl _ w).alloc (Nat.le_refl _) _).alloc (by simp) _).drew⟩
theorem Dds.nil (w : World) (B : Nat) : Dds w B none 0 [] := ⟨OR.nil _ _ _, by simp, by simp, List.Pairwise.nil, by simp⟩
theorem Dds.below {w w' : World} {B : Nat} {A : Option Addr} {c : Nat} {ds : List Dl} (h : Dds w B A c ds) (hb : Below w.heap.size w w') : Dds w' B A c ds := ⟨h.or.below hb, fun x hx => (h.oo x hx).below hb, h.ap, h.pw, h.good⟩

theorem Dds.add {wo wr : World} {B : Nat} {A : Option Addr} {c : Nat} {ds : List Dl} {x : Dl} (h : Dds wo B A c ds) (hb : Below wo.heap.size wo wr) (hx : OO wr wo.heap.size x.D x.c x.d)
    (hg : (∀ o ∈ x.d, GoodO o) ∧ 1 ≤ x.d.length ∧ x.d.length ≤ 4) (hB : B ≤ wo.heap.size) (hl : ds.length ≤ 1000) :
    ∃ A' c' w', (Builtin.append_ #[89, 89] 89 #[.slice A ds.length c, .slice (some ⟨wr.heap.size, 0, none⟩) 1 1]).run Tryz.prog (wr.alloc (.cells #[.slice x.D x.d.length x.c] 24)) = .ok (.slice A' (ds ++ [x]).length c') w' ∧ Dds w' B A' c' (ds ++ [x]) ∧ (∀ B0 a, B0 ≤ B → Below B0 a wr → Below B0 a w') := by
  have hr := h.below hb
  obtain ⟨A', c', w', hrun, ho, hbel, hgr, h5⟩ := app_row (P := Tryz.prog) Tryz.underlying89 deedInfo rfl wr B 89 A c _ hr.or [dlV x] (by simp [dlV, Value.oneCell']) (by simp; omega) (by decide) (Nat.le_trans hB hb.size)
  rw [ownBlock_slice, ownBlock_slice] at h5
  rw [ownBlock_slice] at hgr
  have hm : ds.map dlV ++ [dlV x] = (ds ++ [x]).map dlV := by simp
  rw [hm, List.length_map, List.length_map] at hrun
  rw [hm] at ho
  have lo : ∀ y ∈ ds, ∀ k, blk y.D = some k → k < wo.heap.size := fun y hy k hk => ((h.oo y hy).lt hk).2
  have hi : ∀ k, blk x.D = some k → wo.heap.size ≤ k ∧ k < wr.heap.size := fun k hk => hx.lt hk
  have la : ∀ k, blk A = some k → k < wo.heap.size := fun k hk => (World.ownsRow.lt h.or k (by rw [ownBlock_slice]; exact hk)).2
  obtain ⟨kx, hkx⟩ := hx.some_ (by intro e; rw [e] at hg; simp at hg)
  have hxA : blk x.D ≠ blk A := fun e => by have := hi kx hkx; have := la kx (e ▸ hkx); omega
  refine ⟨A', c', w', hrun, ⟨ho, ?_, ?_, ?_, ?_⟩, hbel⟩
  · intro y hy
    rcases List.mem_append.1 hy with hy | hy
    · exact World.ownsRow.kept (World.ownsRow.alloc (hr.oo y hy) _) hgr (.inr (by rw [ownBlock_slice]; exact h.ap y hy))
    · simp at hy; subst hy
      exact World.ownsRow.kept (World.ownsRow.alloc (hx.mono hB) _) hgr (.inr (by rw [ownBlock_slice]; exact hxA))
  · intro y hy
    rcases h5 with e | e
    · rw [e]
      rcases List.mem_append.1 hy with hy | hy
      · exact h.ap y hy
      · simp at hy; subst hy; exact hxA
    · rw [e]
      intro e2
      have hsz := hb.size
      rcases List.mem_append.1 hy with hy | hy
      · have := lo y hy _ e2; omega
      · simp at hy; subst hy; have := (hi _ e2).2; omega
  · refine List.pairwise_append.2 ⟨h.pw, by simp, fun y hy z hz e => ?_⟩
    simp at hz; subst hz
    have := lo y hy kx (e.trans hkx)
    have := (hi kx hkx).1
    omega
  · intro y hy
    rcases List.mem_append.1 hy with hy | hy
    · exact h.good y hy
    · simp at hy; subst hy; exact hg

set_option maxHeartbeats 8000000 in
set_option maxRecDepth 100000 in
theorem deeds_any (A : Option Addr) (c most : Nat) (cs : List Cl) (w : World) (hA : LS w A cs) (hl : cs.length ≤ c) (hc : c ≤ 9223372036854775807) (hn : A = none → c = 0) (hmost : most ≤ 1000) :
    Calls Tryz.prog 52 #[.slice A cs.length c, .int .i64 most] w (RetDeeds w most) := by
  go_enter Tryz.func52, Tryz.ntmps52
  obtain ⟨m, hm⟩ : ∃ m : Nat, m = min cs.length most := ⟨_, rfl⟩
  rcases A with _ | ⟨b, o, sp⟩
  · obtain rfl := hn rfl
    obtain rfl := List.length_eq_zero_iff.1 (show cs.length = 0 by omega)
    have g0 : min (0 : Int) (most : Int) = 0 := by omega
    clear hA hm
    go_wp2_with fail
    go_loopw [5, 18] (fun s i wr => s = .slice none 0 0 ∧ i = .int .i64 0 ∧ w = wr) (fun _ _ _ => 0)
    case atStart => exact ⟨rfl, rfl, rfl⟩
    case round =>
      obtain ⟨rfl, rfl, rfl⟩ := hrel
      go_wp2_with fail
      go_ret
      exact ⟨none, 0, [], rfl, Dds.nil _ _, Nat.zero_le _, Below.refl _ _⟩
  · have gm : min (cs.length : Int) (most : Int) = (m : Int) := by omega
    have g1 : (m : Int) ≤ (c : Int) := by omega
    have g2 : (0 : Int) ≤ (m : Int) := by omega
    clear hn
    go_wp2_with fail
    generalize hmm : min cs.length most = m' 
    obtain rfl : m = m' := by omega
    have hm1 : m ≤ cs.length := by omega
    have hm2 : m ≤ most := by omega
    clear hmm hm gm
    go_loopw [5, 18] (DeedsInv w m) (fun _ i _ => m - (intOf i).toNat)
    case atStart => exact ⟨0, none, 0, [], Nat.zero_le _, rfl, rfl, Dds.nil _ _, Nat.zero_le _, Below.refl _ _⟩
    case round =>
      obtain ⟨k, Ak, ck, ds, hk, rfl, rfl, hD, hdl, hb⟩ := hrel
      obtain ⟨wo, rfl⟩ : ∃ wo, wo = wr := ⟨_, rfl⟩
      by_cases hlt : k < m
      · have hkc : k < cs.length := by omega
        have hx := (hA.below hb).is_ _ (List.getElem_mem hkc)
        obtain ⟨b2, o2, e4, hbl, q1⟩ := (hA.below hb).vs k (clV cs[k]) (by simp [hkc])
        injection e4 with e4
        injection e4 with e5 e6 e7
        subst e5; subst e6; subst e7
        generalize cs[k] = x at hx q1
        obtain ⟨Ac, cc, zs⟩ := x
        simp only [clV] at q1
        simp only at hx
        obtain ⟨hI, hzc, hcc⟩ := hx
        have hsz := hb.size
        go_wp2_with fail
        have hb0 := (Below.refl wo.heap.size wo).alloc (Nat.le_refl _) (.cells #[.slice none 0 0] 24)
        go_loopg [9] 4 (OpsInv wo wo.heap.size)
        case atStart => exact ⟨0, 0, none, 0, [], by omega, rfl, rfl, rfl, rfl, Box.new _ _ _, OO.nil _ _, by simp [blk], by simp, hb0⟩
        case round =>
          obtain ⟨j, t, D, cD, d, hj, rfl, htj, rfl, hdj, hbox, hOO, hne, hgood, hbi⟩ := hrel
          have hcell := hbox.cell 0 (v := .slice D d.length cD) rfl
          clear hb0
          have HG := hideP hgood
          have ht12 : t ≤ 12 := by omega
          have hd4 : (d.length : Int) < 4 ↔ j < 4 := by omega
          clear hgood
          have hI2 := hI.below hbi
          by_cases hgo : t + 2 < zs.length ∧ j < 4
          · obtain ⟨hgo1, hgo2⟩ := hgo
            obtain ⟨b3, o3, e3, hbl3, z0⟩ := hI2 t _ (List.getElem?_eq_getElem (by omega))
            obtain ⟨b4, o4, e4, _, z1⟩ := hI2 (t + 1) _ (List.getElem?_eq_getElem (by omega))
            obtain ⟨b5, o5, e5, _, z2⟩ := hI2 (t + 2) _ (List.getElem?_eq_getElem (by omega))
            subst e3
            injection e4 with e4
            injection e4 with e6 e7 _
            subst e6; subst e7
            injection e5 with e5
            injection e5 with e6 e7 _
            subst e6; subst e7
            generalize zs[t] = x0 at z0
            generalize zs[t + 1] = x1 at z1
            generalize zs[t + 2] = x2 at z2
            have g2 : (d.length : Int) < 4 := by omega
            have g3 : (t : Int) + 2 < (zs.length : Int) := by omega
            have p0 : (0 : Int) ≤ (t : Int) := by omega
            have p1 : (t : Int) < (zs.length : Int) := by omega
            have p2 : (0 : Int) ≤ (t : Int) + 1 := by omega
            have p3 : (t : Int) + 1 < (zs.length : Int) := by omega
            have p4 : (0 : Int) ≤ (t : Int) + 2 := by omega
            have p6 : IntKind.i64.wrap ((t : Int) + 1) = (t : Int) + 1 := by simp only [IntKind.wrap_i64]; omega
            have p7 : IntKind.i64.wrap ((t : Int) + 2) = (t : Int) + 2 := by simp only [IntKind.wrap_i64]; omega
            have p8 : ((t : Int) + 1).toNat = t + 1 := by omega
            have p9 : ((t : Int) + 2).toNat = t + 2 := by omega
            have h5 := wi_lt x0 5 (by omega)
            have pk : IntKind.i64.wrap (1 + (wi x0 5 : Int)) = 1 + (wi x0 5 : Int) := by simp only [IntKind.wrap_i64]; omega
            have HT := hideP htj
            have HDJ := hideP hdj
            clear htj hdj hd4
            go_wp2_with fail
            go_cut [10] (NewOp wr ⟨1 + (wi x0 5 : Int), keyN (wi x1 8), ByteArray.empty, (wi x2 9 : Int)⟩)
            case first =>
              go_region_held3 (fun w' => w'.cell? ⟨b3, o3 + t, none⟩ = some (.int .i64 x0) ∧ w'.cell? ⟨b3, o3 + (t + 1), none⟩ = some (.int .i64 x1) ∧ w'.cell? ⟨b3, o3 + (t + 2), none⟩ = some (.int .i64 x2)) (go_keep) (first
                | (go_at_call 35; refine (rkey_any x1 _).mono ?_; rintro e w5 ⟨rfl, rfl⟩)
                | (go_at_call_of 37 x0; refine (within_any x0 5 (by omega) (by omega) _).mono ?_; rintro e w5 ⟨rfl, rfl⟩)
                | (go_at_call_of 37 x2; refine (within_any x2 9 (by omega) (by omega) _).mono ?_; rintro e w5 ⟨rfl, rfl⟩))
              all_goals (go_wp2_with fail; go_meet; case rel => first | exact newOp1 _ _ _ _ | exact newOp2 _ _ _ _)
            case rest =>
              obtain ⟨g, rfl, hat, hgle, hbc⟩ := hcut
              have h8 := wi_lt x1 8 (by omega)
              have h9 := wi_lt x2 9 (by omega)
              have hkey := keyN_mem h8
              generalize keyN (wi x1 8) = key at hat hkey
              obtain ⟨kd, hkd⟩ : ∃ kd : Int, kd = 1 + (wi x0 5 : Int) := ⟨_, rfl⟩
              obtain ⟨n, hn9⟩ : ∃ n : Int, n = (wi x2 9 : Int) := ⟨_, rfl⟩
              rw [← hkd, ← hn9] at hat
              have hk1 : 1 ≤ kd ∧ kd ≤ 5 := by omega
              have hn1 : 0 ≤ n ∧ n ≤ 8 := by omega
              clear hkd hn9 h8 h9 h5 pk
              have hk0 := hat.cell 0 (v := .int .i64 kd) rfl
              have hkk := hat.cell 1 (v := .string key) rfl
              have hks := hat.cell 2 (v := .string ByteArray.empty) rfl
              have hkn := hat.cell 3 (v := .int .i64 n) rfl
              have hkf := hat.frozen 2
              have y1 := (hbc.cell (p := ⟨b3, o3 + (t + 1), none⟩) hbl3).trans z1
              have y2 := (hbc.cell (p := ⟨b3, o3 + (t + 2), none⟩) hbl3).trans z2
              have hboxc := hbox.below hbc
              have hcellc := hboxc.cell 0 (v := .slice D d.length cD) rfl
              have hOOc := hOO.below hbc
              have hbic := hbi.trans (hbc.mono hbi.size)
              have hblc := Nat.lt_of_lt_of_le hbl3 hbc.size
              have hdl4 : d.length ≤ 4 := by omega
              clear hcell hbi z0 z1 z2 hI2
              by_cases h35 : kd = 3 ∨ kd = 5
              · have d35 : (kd == 3 || kd == 5) = true := by simp; omega
                have hneg : blk D ≠ some g := fun e => by have := (hOO.lt e).2; omega
                rcases h35 with rfl | rfl
                · have k0 : wc.drew.cell? ⟨b3, o3 + (t + 1), none⟩ = some (.int .i64 x1) ∧ wc.drew.cell? ⟨b3, o3 + (t + 2), none⟩ = some (.int .i64 x2) := ⟨y1, y2⟩
                  have ka1 := (hat.alloc keysO).cell 2 (v := .string ByteArray.empty) rfl
                  have ka2 := (hat.alloc keysO).frozen 2
                  have kb1 : (wc.drew.alloc keysO).cell? ⟨g, 2, none⟩ = some (.string ByteArray.empty) := ka1
                  have kb2 : (wc.drew.alloc keysO).frozen? ⟨g, 2, none⟩ = false := ka2
                  have kz : ∀ v, ((wc.alloc keysO).setCell ⟨g, 2, none⟩ v).drew.cell? ⟨b3, o3 + (t + 1), none⟩ = some (.int .i64 x1) ∧ ((wc.alloc keysO).setCell ⟨g, 2, none⟩ v).drew.cell? ⟨b3, o3 + (t + 2), none⟩ = some (.int .i64 x2) := fun v =>
                    ⟨(World.cell?_of_block (w := wc) ((Below.heap_setCell _ _ _ _ (by simp; omega)).trans (Below.heap_alloc _ _ _ hblc))).trans y1, (World.cell?_of_block (w := wc) ((Below.heap_setCell _ _ _ _ (by simp; omega)).trans (Below.heap_alloc _ _ _ hblc))).trans y2⟩
                  have kc1 : (wc.alloc keysO).drew.cell? ⟨g, 2, none⟩ = some (.string ByteArray.empty) := ka1
                  have kc2 : (wc.alloc keysO).drew.frozen? ⟨g, 2, none⟩ = false := ka2
                  go_wp2_with fail
                  go_region_held3 (fun w' => w'.cell? ⟨b3, o3 + (t + 1), none⟩ = some (.int .i64 x1) ∧ w'.cell? ⟨b3, o3 + (t + 2), none⟩ = some (.int .i64 x2)) (first | exact kz _ | go_keep) (first
                    | (go_at_call 35; refine (rkey_any _ _).mono ?_; rintro e w5 ⟨rfl, rfl⟩)
                    | (go_at_call 37; refine (within_any x2 7 (by omega) (by omega) _).mono ?_; rintro e w5 ⟨rfl, rfl⟩))
                  generalize IntKind.i64.wrap (IntKind.i64.wrap (x1 + 1) + (wi x2 7 : Int)) = y
                  have hsrc := keyN_mem (wi_lt y 8 (by omega))
                  generalize keyN (wi y 8) = src at hsrc ⊢
                  have hat5 : Box ((wc.alloc keysO).setCell ⟨g, 2, none⟩ (.string src)).drew g _ _ := (((hat.alloc keysO).set 2 (.string src)).drew)
                  have hgo5 : (⟨g, 2, none⟩ : Addr).block ≠ wo.heap.size := by simp only; have := hbox.lt; omega
                  have hbox5 : Box ((wc.alloc keysO).setCell ⟨g, 2, none⟩ (.string src)).drew _ _ _ := ((hboxc.alloc keysO).other hgo5 (.string src)).drew
                  have hOO5 : OO ((wc.alloc keysO).setCell ⟨g, 2, none⟩ (.string src)).drew wo.heap.size D cD d := ownsRow_setCell_other (World.ownsRow.alloc hOOc keysO) (by rw [ownBlock_slice]; exact hneg) _
                  have hb5 : Below wo.heap.size wo ((wc.alloc keysO).setCell ⟨g, 2, none⟩ (.string src)).drew := ((hbic.alloc hbic.size keysO).setCell (p := ⟨g, 2, none⟩) (by simp only; have := hbox.lt; omega) (.string src)).drew
                  generalize ((wc.alloc keysO).setCell ⟨g, 2, none⟩ (.string src)).drew = w5 at hat5 hbox5 hOO5 hb5 ⊢
                  clear ka1 ka2 kb1 kb2 kc1 kc2 kz k0 hk0 hkk hks hkn hkf hboxc hcellc hOOc hbic hat y1 y2
                  have hk0 := hat5.cell 0 (v := .int .i64 3) rfl
                  have hkk := hat5.cell 1 (v := .string key) rfl
                  have hks := hat5.cell 2 (v := .string src) rfl
                  have hkn := hat5.cell 3 (v := .int .i64 n) rfl
                  have hkf := hat5.frozen 2
                  have hcell5 := hbox5.cell 0 (v := .slice D d.length cD) rfl
                  by_cases hsk : src = key
                  · have dsk := bytes_eq hsk
                    have HSK := hideP hsk
                    clear hsk
                    go_upto_region 14 with fail
                    have hat6 := hat5.set 2 (.string ⟨#[113]⟩)
                    have hbox6' := hbox5.other hgo5 (.string ⟨#[113]⟩)
                    have hOO6' : OO (w5.setCell ⟨g, 2, none⟩ (.string ⟨#[113]⟩)) wo.heap.size D cD d := ownsRow_setCell_other hOO5 (by rw [ownBlock_slice]; exact hneg) _
                    have hb6' := hb5.setCell (p := ⟨g, 2, none⟩) (by simp only; have := hbox.lt; omega) (.string ⟨#[113]⟩)
                    clear hk0 hkk hks hkn hkf hcell5 hat5 hbox5 hOO5 hb5
                    generalize w5.setCell ⟨g, 2, none⟩ (.string ⟨#[113]⟩) = w7 at hat6 hbox6' hOO6' hb6' ⊢
                    have hk0 := hat6.cell 0 (v := .int .i64 3) rfl
                    have hkk := hat6.cell 1 (v := .string key) rfl
                    have hks := hat6.cell 2 (v := .string kq) rfl
                    have hkn := hat6.cell 3 (v := .int .i64 n) rfl
                    have hcell7 := hbox6'.cell 0 (v := .slice D d.length cD) rfl
                    obtain ⟨D6, c6, w6, hrun, hOO6, hgr, hbel, h56⟩ := app_op w7 wo.heap.size 22 D cD d hOO6' ⟨3, key, kq, n⟩ (by omega) hb6'.size
                    have HR := hideP hrun
                    have HGO := hideP (show GoodO ⟨3, key, kq, n⟩ from ⟨hk1, hkey, hn1, fun _ => ⟨.inr rfl, fun e => kq_not (by rw [show kq = key from e]; exact hkey)⟩, fun h => absurd (by simp) h⟩)
                    have hbox6 := (hbox6'.alloc (.cells #[.int .i64 3, .string key, .string kq, .int .i64 n] 93)).grown hgr (fun e => hne e.symm)
                    have hb6 := hbel wo.heap.size wo (Nat.le_refl _) hb6'
                    have hne6 : blk D6 ≠ some wo.heap.size := by
                      rcases h56 with e | e
                      · rw [e]; exact hne
                      · rw [e]; intro e2; injection e2 with e2; have := hbox6'.lt; omega
                    have i1 := hbox6.cell 0 (v := .slice D d.length cD) rfl
                    have i2 := hbox6.frozen 0
                    have hfin := hbox6.set 0 (.slice D6 (d ++ [(⟨3, key, kq, n⟩ : Opr)]).length c6)
                    have hOO7 : OO (w6.setCell ⟨wo.heap.size, 0, none⟩ (.slice D6 (d ++ [(⟨3, key, kq, n⟩ : Opr)]).length c6)) wo.heap.size D6 c6 (d ++ [(⟨3, key, kq, n⟩ : Opr)]) := ownsRow_setCell_other hOO6 (by rw [ownBlock_slice]; exact hne6) _
                    have hb7 := hb6.setCell (p := ⟨wo.heap.size, 0, none⟩) (Nat.le_refl _) (.slice D6 (d ++ [(⟨3, key, kq, n⟩ : Opr)]).length c6)
                    clear hrun hgr hbel h56 hOO6 hb6
                    go_wp2_with (at_builtin; refine Lib.wpList_append_run _ rfl _ _ _ _ rfl _ _ rfl rfl _ _ HR.out ?_)
                    go_roundg (4 - (j + 1))
                    case measure => omega
                    case rel => exact ⟨j + 1, t + 3, D6, c6, d ++ [⟨3, key, kq, n⟩], by omega, rfl, by have := HT.out; omega, by go_num, by simp [HDJ.out], by simpa using hfin, by simpa using hOO7, hne6, by
                      intro x hx
                      rcases List.mem_append.1 hx with hx | hx
                      · exact HG.out x hx
                      · simp at hx; rw [hx]; exact HGO.out, by simpa using hb7⟩
                  · have dsk := bytes_ne hsk
                    have HSK := hideP hsk
                    clear hsk
                    obtain ⟨D6, c6, w6, hrun, hOO6, hgr, hbel, h56⟩ := app_op w5 wo.heap.size 22 D cD d hOO5 ⟨3, key, src, n⟩ (by omega) hb5.size
                    have HR := hideP hrun
                    have HGO := hideP (show GoodO ⟨3, key, src, n⟩ from ⟨hk1, hkey, hn1, fun _ => ⟨.inl hsrc, HSK.out⟩, fun h => absurd (by simp) h⟩)
                    have hbox6 := (hbox5.alloc (.cells #[.int .i64 3, .string key, .string src, .int .i64 n] 93)).grown hgr (fun e => hne e.symm)
                    have hb6 := hbel wo.heap.size wo (Nat.le_refl _) hb5
                    have hne6 : blk D6 ≠ some wo.heap.size := by
                      rcases h56 with e | e
                      · rw [e]; exact hne
                      · rw [e]; intro e2; injection e2 with e2; have := hbox5.lt; omega
                    have i1 := hbox6.cell 0 (v := .slice D d.length cD) rfl
                    have i2 := hbox6.frozen 0
                    have hfin := hbox6.set 0 (.slice D6 (d ++ [(⟨3, key, src, n⟩ : Opr)]).length c6)
                    have hOO7 : OO (w6.setCell ⟨wo.heap.size, 0, none⟩ (.slice D6 (d ++ [(⟨3, key, src, n⟩ : Opr)]).length c6)) wo.heap.size D6 c6 (d ++ [(⟨3, key, src, n⟩ : Opr)]) := ownsRow_setCell_other hOO6 (by rw [ownBlock_slice]; exact hne6) _
                    have hb7 := hb6.setCell (p := ⟨wo.heap.size, 0, none⟩) (Nat.le_refl _) (.slice D6 (d ++ [(⟨3, key, src, n⟩ : Opr)]).length c6)
                    clear hrun hgr hbel h56 hOO6 hb6
                    go_wp2_with (at_builtin; refine Lib.wpList_append_run _ rfl _ _ _ _ rfl _ _ rfl rfl _ _ HR.out ?_)
                    go_roundg (4 - (j + 1))
                    case measure => omega
                    case rel => exact ⟨j + 1, t + 3, D6, c6, d ++ [⟨3, key, src, n⟩], by omega, rfl, by have := HT.out; omega, by go_num, by simp [HDJ.out], by simpa using hfin, by simpa using hOO7, hne6, by
                      intro x hx
                      rcases List.mem_append.1 hx with hx | hx
                      · exact HG.out x hx
                      · simp at hx; rw [hx]; exact HGO.out, by simpa using hb7⟩
                · have k0 : wc.drew.cell? ⟨b3, o3 + (t + 1), none⟩ = some (.int .i64 x1) ∧ wc.drew.cell? ⟨b3, o3 + (t + 2), none⟩ = some (.int .i64 x2) := ⟨y1, y2⟩
                  have ka1 := (hat.alloc keysO).cell 2 (v := .string ByteArray.empty) rfl
                  have ka2 := (hat.alloc keysO).frozen 2
                  have kb1 : (wc.drew.alloc keysO).cell? ⟨g, 2, none⟩ = some (.string ByteArray.empty) := ka1
                  have kb2 : (wc.drew.alloc keysO).frozen? ⟨g, 2, none⟩ = false := ka2
                  have kz : ∀ v, ((wc.alloc keysO).setCell ⟨g, 2, none⟩ v).drew.cell? ⟨b3, o3 + (t + 1), none⟩ = some (.int .i64 x1) ∧ ((wc.alloc keysO).setCell ⟨g, 2, none⟩ v).drew.cell? ⟨b3, o3 + (t + 2), none⟩ = some (.int .i64 x2) := fun v =>
                    ⟨(World.cell?_of_block (w := wc) ((Below.heap_setCell _ _ _ _ (by simp; omega)).trans (Below.heap_alloc _ _ _ hblc))).trans y1, (World.cell?_of_block (w := wc) ((Below.heap_setCell _ _ _ _ (by simp; omega)).trans (Below.heap_alloc _ _ _ hblc))).trans y2⟩
                  have kc1 : (wc.alloc keysO).drew.cell? ⟨g, 2, none⟩ = some (.string ByteArray.empty) := ka1
                  have kc2 : (wc.alloc keysO).drew.frozen? ⟨g, 2, none⟩ = false := ka2
                  go_wp2_with fail
                  go_region_held3 (fun w' => w'.cell? ⟨b3, o3 + (t + 1), none⟩ = some (.int .i64 x1) ∧ w'.cell? ⟨b3, o3 + (t + 2), none⟩ = some (.int .i64 x2)) (first | exact kz _ | go_keep) (first
                    | (go_at_call 35; refine (rkey_any _ _).mono ?_; rintro e w5 ⟨rfl, rfl⟩)
                    | (go_at_call 37; refine (within_any x2 7 (by omega) (by omega) _).mono ?_; rintro e w5 ⟨rfl, rfl⟩))
                  generalize IntKind.i64.wrap (IntKind.i64.wrap (x1 + 1) + (wi x2 7 : Int)) = y
                  have hsrc := keyN_mem (wi_lt y 8 (by omega))
                  generalize keyN (wi y 8) = src at hsrc ⊢
                  have hat5 : Box ((wc.alloc keysO).setCell ⟨g, 2, none⟩ (.string src)).drew g _ _ := (((hat.alloc keysO).set 2 (.string src)).drew)
                  have hgo5 : (⟨g, 2, none⟩ : Addr).block ≠ wo.heap.size := by simp only; have := hbox.lt; omega
                  have hbox5 : Box ((wc.alloc keysO).setCell ⟨g, 2, none⟩ (.string src)).drew _ _ _ := ((hboxc.alloc keysO).other hgo5 (.string src)).drew
                  have hOO5 : OO ((wc.alloc keysO).setCell ⟨g, 2, none⟩ (.string src)).drew wo.heap.size D cD d := ownsRow_setCell_other (World.ownsRow.alloc hOOc keysO) (by rw [ownBlock_slice]; exact hneg) _
                  have hb5 : Below wo.heap.size wo ((wc.alloc keysO).setCell ⟨g, 2, none⟩ (.string src)).drew := ((hbic.alloc hbic.size keysO).setCell (p := ⟨g, 2, none⟩) (by simp only; have := hbox.lt; omega) (.string src)).drew
                  generalize ((wc.alloc keysO).setCell ⟨g, 2, none⟩ (.string src)).drew = w5 at hat5 hbox5 hOO5 hb5 ⊢
                  clear ka1 ka2 kb1 kb2 kc1 kc2 kz k0 hk0 hkk hks hkn hkf hboxc hcellc hOOc hbic hat y1 y2
                  have hk0 := hat5.cell 0 (v := .int .i64 5) rfl
                  have hkk := hat5.cell 1 (v := .string key) rfl
                  have hks := hat5.cell 2 (v := .string src) rfl
                  have hkn := hat5.cell 3 (v := .int .i64 n) rfl
                  have hkf := hat5.frozen 2
                  have hcell5 := hbox5.cell 0 (v := .slice D d.length cD) rfl
                  by_cases hsk : src = key
                  · have dsk := bytes_eq hsk
                    have HSK := hideP hsk
                    clear hsk
                    go_upto_region 14 with fail
                    have hat6 := hat5.set 2 (.string ⟨#[113]⟩)
                    have hbox6' := hbox5.other hgo5 (.string ⟨#[113]⟩)
                    have hOO6' : OO (w5.setCell ⟨g, 2, none⟩ (.string ⟨#[113]⟩)) wo.heap.size D cD d := ownsRow_setCell_other hOO5 (by rw [ownBlock_slice]; exact hneg) _
                    have hb6' := hb5.setCell (p := ⟨g, 2, none⟩) (by simp only; have := hbox.lt; omega) (.string ⟨#[113]⟩)
                    clear hk0 hkk hks hkn hkf hcell5 hat5 hbox5 hOO5 hb5
                    generalize w5.setCell ⟨g, 2, none⟩ (.string ⟨#[113]⟩) = w7 at hat6 hbox6' hOO6' hb6' ⊢
                    have hk0 := hat6.cell 0 (v := .int .i64 5) rfl
                    have hkk := hat6.cell 1 (v := .string key) rfl
                    have hks := hat6.cell 2 (v := .string kq) rfl
                    have hkn := hat6.cell 3 (v := .int .i64 n) rfl
                    have hcell7 := hbox6'.cell 0 (v := .slice D d.length cD) rfl
                    obtain ⟨D6, c6, w6, hrun, hOO6, hgr, hbel, h56⟩ := app_op w7 wo.heap.size 22 D cD d hOO6' ⟨5, key, kq, n⟩ (by omega) hb6'.size
                    have HR := hideP hrun
                    have HGO := hideP (show GoodO ⟨5, key, kq, n⟩ from ⟨hk1, hkey, hn1, fun _ => ⟨.inr rfl, fun e => kq_not (by rw [show kq = key from e]; exact hkey)⟩, fun h => absurd (by simp) h⟩)
                    have hbox6 := (hbox6'.alloc (.cells #[.int .i64 5, .string key, .string kq, .int .i64 n] 93)).grown hgr (fun e => hne e.symm)
                    have hb6 := hbel wo.heap.size wo (Nat.le_refl _) hb6'
                    have hne6 : blk D6 ≠ some wo.heap.size := by
                      rcases h56 with e | e
                      · rw [e]; exact hne
                      · rw [e]; intro e2; injection e2 with e2; have := hbox6'.lt; omega
                    have i1 := hbox6.cell 0 (v := .slice D d.length cD) rfl
                    have i2 := hbox6.frozen 0
                    have hfin := hbox6.set 0 (.slice D6 (d ++ [(⟨5, key, kq, n⟩ : Opr)]).length c6)
                    have hOO7 : OO (w6.setCell ⟨wo.heap.size, 0, none⟩ (.slice D6 (d ++ [(⟨5, key, kq, n⟩ : Opr)]).length c6)) wo.heap.size D6 c6 (d ++ [(⟨5, key, kq, n⟩ : Opr)]) := ownsRow_setCell_other hOO6 (by rw [ownBlock_slice]; exact hne6) _
                    have hb7 := hb6.setCell (p := ⟨wo.heap.size, 0, none⟩) (Nat.le_refl _) (.slice D6 (d ++ [(⟨5, key, kq, n⟩ : Opr)]).length c6)
                    clear hrun hgr hbel h56 hOO6 hb6
                    go_wp2_with (at_builtin; refine Lib.wpList_append_run _ rfl _ _ _ _ rfl _ _ rfl rfl _ _ HR.out ?_)
                    go_roundg (4 - (j + 1))
                    case measure => omega
                    case rel => exact ⟨j + 1, t + 3, D6, c6, d ++ [⟨5, key, kq, n⟩], by omega, rfl, by have := HT.out; omega, by go_num, by simp [HDJ.out], by simpa using hfin, by simpa using hOO7, hne6, by
                      intro x hx
                      rcases List.mem_append.1 hx with hx | hx
                      · exact HG.out x hx
                      · simp at hx; rw [hx]; exact HGO.out, by simpa using hb7⟩
                  · have dsk := bytes_ne hsk
                    have HSK := hideP hsk
                    clear hsk
                    obtain ⟨D6, c6, w6, hrun, hOO6, hgr, hbel, h56⟩ := app_op w5 wo.heap.size 22 D cD d hOO5 ⟨5, key, src, n⟩ (by omega) hb5.size
                    have HR := hideP hrun
                    have HGO := hideP (show GoodO ⟨5, key, src, n⟩ from ⟨hk1, hkey, hn1, fun _ => ⟨.inl hsrc, HSK.out⟩, fun h => absurd (by simp) h⟩)
                    have hbox6 := (hbox5.alloc (.cells #[.int .i64 5, .string key, .string src, .int .i64 n] 93)).grown hgr (fun e => hne e.symm)
                    have hb6 := hbel wo.heap.size wo (Nat.le_refl _) hb5
                    have hne6 : blk D6 ≠ some wo.heap.size := by
                      rcases h56 with e | e
                      · rw [e]; exact hne
                      · rw [e]; intro e2; injection e2 with e2; have := hbox5.lt; omega
                    have i1 := hbox6.cell 0 (v := .slice D d.length cD) rfl
                    have i2 := hbox6.frozen 0
                    have hfin := hbox6.set 0 (.slice D6 (d ++ [(⟨5, key, src, n⟩ : Opr)]).length c6)
                    have hOO7 : OO (w6.setCell ⟨wo.heap.size, 0, none⟩ (.slice D6 (d ++ [(⟨5, key, src, n⟩ : Opr)]).length c6)) wo.heap.size D6 c6 (d ++ [(⟨5, key, src, n⟩ : Opr)]) := ownsRow_setCell_other hOO6 (by rw [ownBlock_slice]; exact hne6) _
                    have hb7 := hb6.setCell (p := ⟨wo.heap.size, 0, none⟩) (Nat.le_refl _) (.slice D6 (d ++ [(⟨5, key, src, n⟩ : Opr)]).length c6)
                    clear hrun hgr hbel h56 hOO6 hb6
                    go_wp2_with (at_builtin; refine Lib.wpList_append_run _ rfl _ _ _ _ rfl _ _ rfl rfl _ _ HR.out ?_)
                    go_roundg (4 - (j + 1))
                    case measure => omega
                    case rel => exact ⟨j + 1, t + 3, D6, c6, d ++ [⟨5, key, src, n⟩], by omega, rfl, by have := HT.out; omega, by go_num, by simp [HDJ.out], by simpa using hfin, by simpa using hOO7, hne6, by
                      intro x hx
                      rcases List.mem_append.1 hx with hx | hx
                      · exact HG.out x hx
                      · simp at hx; rw [hx]; exact HGO.out, by simpa using hb7⟩
              · have d3 : (kd == 3) = false := by simp; omega
                have d5 : (kd == 5) = false := by simp; omega
                obtain ⟨D6, c6, w6, hrun, hOO6, hgr, hbel, h56⟩ := app_op wc wo.heap.size 22 D cD d hOOc ⟨kd, key, ByteArray.empty, n⟩ (by omega) hbic.size
                have HR := hideP hrun
                have HGO := hideP (show GoodO ⟨kd, key, ByteArray.empty, n⟩ from ⟨hk1, hkey, hn1, fun h => absurd h h35, fun _ => rfl⟩)
                have hbox6 := (hboxc.alloc (.cells #[.int .i64 kd, .string key, .string ByteArray.empty, .int .i64 n] 93)).grown hgr (fun e => hne e.symm)
                have hb6 := hbel wo.heap.size wo (Nat.le_refl _) hbic
                have hne6 : blk D6 ≠ some wo.heap.size := by
                  rcases h56 with e | e
                  · rw [e]; exact hne
                  · rw [e]; intro e2; injection e2 with e2; have := hboxc.lt; omega
                have i1 := hbox6.cell 0 (v := .slice D d.length cD) rfl
                have i2 := hbox6.frozen 0
                have hfin := hbox6.set 0 (.slice D6 (d ++ [(⟨kd, key, ByteArray.empty, n⟩ : Opr)]).length c6)
                have hOO7 : OO (w6.setCell ⟨wo.heap.size, 0, none⟩ (.slice D6 (d ++ [(⟨kd, key, ByteArray.empty, n⟩ : Opr)]).length c6)) wo.heap.size D6 c6 (d ++ [(⟨kd, key, ByteArray.empty, n⟩ : Opr)]) := ownsRow_setCell_other hOO6 (by rw [ownBlock_slice]; exact hne6) _
                have hb7 := hb6.setCell (p := ⟨wo.heap.size, 0, none⟩) (Nat.le_refl _) (.slice D6 (d ++ [(⟨kd, key, ByteArray.empty, n⟩ : Opr)]).length c6)
                clear hrun hgr hbel h56 hOO6 hb6
                go_wp2_with (at_builtin; refine Lib.wpList_append_run _ rfl _ _ _ _ rfl _ _ rfl rfl _ _ HR.out ?_)
                go_roundg (4 - (j + 1))
                case measure => omega
                case rel => exact ⟨j + 1, t + 3, D6, c6, d ++ [⟨kd, key, ByteArray.empty, n⟩], by omega, rfl, by have := HT.out; omega, by go_num, by simp [HDJ.out], by simpa using hfin, by simpa using hOO7, hne6, by
                  intro x hx
                  rcases List.mem_append.1 hx with hx | hx
                  · exact HG.out x hx
                  · simp at hx; rw [hx]; exact HGO.out, by simpa using hb7⟩
          · have HGO := hideP hgo
            have hend : ∀ ww : World, True := fun _ => trivial
            clear hend
            have hDr := hD.below hbi
            have hx : OO wr wo.heap.size (⟨D, cD, d⟩ : Dl).D (⟨D, cD, d⟩ : Dl).c (⟨D, cD, d⟩ : Dl).d := hOO
            have hsz2 := Nat.le_trans hsz hbi.size
            have hbw := hb.trans (hbi.mono hb.size)
            by_cases hj0 : j = 0
            · subst hj0
              obtain rfl := List.length_eq_zero_iff.1 hdj
              have g0 : ¬ (t + 2 < zs.length) := fun h => HGO.out ⟨h, by omega⟩
              have g1' : ¬ ((t : Int) + 2 < (zs.length : Int)) := by omega
              clear hgo
              go_wp2_with fail
              go_roundw
              case rel => exact ⟨k + 1, Ak, ck, ds, by omega, by go_num, rfl, hDr, by omega, hbw⟩
              case measure => simp [intOf]; omega
            · obtain ⟨A6, c6, w6, hrun, hD6, hbel⟩ := hD.add hbi hx ⟨HG.out, by simp only; omega, by simp only; omega⟩ hsz (by omega)
              simp only at hrun
              have HR := hideP hrun
              have hb6 := hbel w.heap.size w (Nat.le_refl _) hbw
              have gd : (0 : Int) < (d.length : Int) := by omega
              have HDJ := hideP hdj
              clear hrun hbel htj hd4
              by_cases hz : t + 2 < zs.length
              · have g1' : ((t : Int) + 2 < (zs.length : Int)) := by omega
                have g4 : ¬ ((d.length : Int) < 4) := by have := HGO.out; omega
                clear hgo hdj
                go_wp2_with (at_builtin; refine Lib.wpList_append_run _ rfl _ _ _ _ rfl _ _ rfl rfl _ _ HR.out ?_)
                go_roundw
                case rel => exact ⟨k + 1, A6, c6, ds ++ [⟨D, cD, d⟩], by omega, by go_num, by simp, hD6, by simp; omega, hb6⟩
                case measure => simp [intOf]; omega
              · have g1' : ¬ ((t : Int) + 2 < (zs.length : Int)) := by omega
                clear hgo hdj
                go_wp2_with (at_builtin; refine Lib.wpList_append_run _ rfl _ _ _ _ rfl _ _ rfl rfl _ _ HR.out ?_)
                go_roundw
                case rel => exact ⟨k + 1, A6, c6, ds ++ [⟨D, cD, d⟩], by omega, by go_num, by simp, hD6, by simp; omega, hb6⟩
                case measure => simp [intOf]; omega
      · go_wp2_with fail
        go_ret
        exact ⟨Ak, ck, ds, rfl, hD, by omega, hb⟩
end Go.Proofs.YtmepmiokpcddbabGreatDoor
