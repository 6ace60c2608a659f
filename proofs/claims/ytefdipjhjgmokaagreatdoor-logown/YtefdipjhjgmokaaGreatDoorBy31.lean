/-
  Transactions as Deeds makes them are valid.
  rokeep.entries.
  rokeep.LogOwn: while an entry is written anew (no body of the program in it).
  Rows of one-cell values with room behind them (no body of the program in it).
  rokeep.roomy and rokeep.marked at string.
-/
import Derived.Test.YtefdipjhjgmokaaGreatDoorBy28
import Derived.Test.YtefdipjhjgmokaaGreatDoorBy2
import Derived.Test.YtefdipjhjgmokaaGreatDoorBy30
import Derived.Test.YtefdipjhjgmokaaGreatDoorBy3
import Derived.Test.YtefdipjhjgmokaaGreatDoorBy26
import Derived.Test.YtefdipjhjgmokaaGreatDoorBy1
import Derived.WalkKit
import Derived.WalkSpells
import Derived.WalkLawsBesides
import Derived.Laws.OwnMore
import Derived.Laws.MakeOwn
set_option linter.unusedVariables false
set_option linter.unusedSimpArgs false
namespace Go.Proofs.YtefdipjhjgmokaaGreatDoor
open Go.RowKit

/-- a map as rokeep.Map makes it -/
theorem kmap_mk2 (P : Option Addr) (cp : Nat) (zs : List Int) (w : World) (hP : IS w P zs) (hl : zs.length ≤ 9223372036854775807) :
    Calls Tryz.prog 11 #[.slice P zs.length cp] w fun e w' => ∃ m : Mp, e = .returned (.agg #[.slice m.A m.cs.length m.ca, .slice m.O m.os.length m.co]) ∧ OkM m.cs m.os ∧ MO w' w.heap.size m ∧ Below w.heap.size w w' := by
  refine (kmap_any P cp zs w hP hl).mono ?_
  rintro e w' ⟨A, ca, O, co, rfl, h1, h2, hb⟩
  refine ⟨⟨A, ca, (mapR zs 6).1, O, co, (mapR zs 6).2.map fun (k : Nat) => (k : Int)⟩, by simp only [List.length_map], mapR_ok zs, ⟨h1, ?_⟩, hb⟩
  have e : ((mapR zs 6).2.map fun (k : Nat) => (k : Int)).map (Value.int .i64) = nV (mapR zs 6).2 := by simp [nV]
  simp only
  rw [e]
  exact h2
theorem good_deed {x : Dl} (h : (∀ o ∈ x.d, GoodO o) ∧ 1 ≤ x.d.length ∧ x.d.length ≤ 4) : chkD x.d = 0 := chkD_zero.2 ⟨h.2.1, by have := h.2.2; omega, fun o ho => (h.1 o ho).chk⟩
end Go.Proofs.YtefdipjhjgmokaaGreatDoor

set_option linter.unusedVariables false
set_option linter.unusedSimpArgs false
namespace Go.Proofs.YtefdipjhjgmokaaGreatDoor
open Go.RowKit

/-- an entry as entries makes it -/
structure GoodE (x : Em) : Prop where
  chk : chkE (entOf x) = 0
  bare : dropE (entOf x) = entOf x
  few : x.d.length ≤ 4
/-- what entries hands back -/
def RetEn (w : World) (n : Nat) (e : Ending) (w' : World) : Prop :=
  ∃ (A : Option Addr) (c : Nat) (xs : List Em), e = .returned (.slice A xs.length c) ∧ EW w' w.heap.size A c xs ∧ (∀ x ∈ xs, GoodE x) ∧ xs.length ≤ 12 + min 12 n ∧ Below w.heap.size w w'
theorem Dds.keep {w w' : World} {B : Nat} {A : Option Addr} {c : Nat} {ds : List Dl} {r : Option Nat} (h : Dds w B A c ds) (hg : w.grownBy w' r) (hr : ∀ k, r = some k → Ty w k 42) : Dds w' B A c ds :=
  ⟨own_keep h.or hg fun k hk => ⟨_, hr k hk, by decide⟩, fun x hx => own_keep (h.oo x hx) hg fun k hk => ⟨_, hr k hk, by decide⟩, h.ap, h.pw, h.good⟩
/-- while they are made -/
def EnI (w : World) (D : Option Addr) (cD : Nat) (ds : List Dl) (m : Nat) (s i : Value) (wr : World) : Prop :=
  ∃ (k : Nat) (A : Option Addr) (c : Nat) (xs : List Em), k ≤ ds.length ∧ i = .int .i64 k ∧ s = .slice A xs.length c ∧ EW wr w.heap.size A c xs ∧ (∀ x ∈ xs, GoodE x) ∧ xs.length ≤ k + min k m ∧ Dds wr w.heap.size D cD ds ∧ Below w.heap.size w wr
/-- one entry more -/
theorem ents_add {w wr : World} {A D : Option Addr} {c cD : Nat} {xs : List Em} {ds : List Dl} (hW : EW wr w.heap.size A c xs) (hgd : ∀ x ∈ xs, GoodE x) (hD : Dds wr w.heap.size D cD ds) (hb : Below w.heap.size w wr) (y : Em) (hy : EO wr w.heap.size y) (hbd : ∀ o ∈ y.d, -9223372036854775808 ≤ o.n ∧ o.n ≤ 9223372036854775807) (hg : GoodE y) (hl : xs.length ≤ 1000) :
    ∃ A' c' w', (Builtin.append_ #[26, 26] 26 #[.slice A xs.length c, .slice (some ⟨wr.heap.size, 0, none⟩) 1 1]).run Tryz.prog (wr.alloc (.cells (emC y) 42)) = .ok (.slice A' (xs ++ [y]).length c') w' ∧ EW w' w.heap.size A' c' (xs ++ [y]) ∧ (∀ x ∈ xs ++ [y], GoodE x) ∧ Dds w' w.heap.size D cD ds ∧ Below w.heap.size w w' := by
  obtain ⟨A', c', w', hrun, hW', hgr, hbel, _⟩ := app_ent wr w.heap.size 26 A c xs hW y hy hbd (by omega) hb.size
  have al := (Below.refl wr.heap.size wr).alloc (Nat.le_refl _) (.cells (emC y) 42)
  refine ⟨A', c', w', hrun, hW', fun x hx => ?_, (hD.below al).keep hgr fun k hk => own_ty (hW.below al).row (by rw [ownBlock_slice]; exact hk), hbel _ _ (Nat.le_refl _) hb⟩
  rcases List.mem_append.1 hx with hx | hx
  · exact hgd x hx
  · simp at hx; subst hx; exact hg
set_option maxHeartbeats 2000000 in
set_option maxRecDepth 100000 in
theorem entries_any (A1 A2 : Option Addr) (c1 c2 : Nat) (cs ms : List Cl) (w : World) (h1 : LS w A1 cs) (hl1 : cs.length ≤ c1) (hc1 : c1 ≤ 9223372036854775807) (hn1 : A1 = none → c1 = 0) (h2 : LS w A2 ms) :
    Calls Tryz.prog 24 #[.slice A1 cs.length c1, .slice A2 ms.length c2] w (RetEn w ms.length) := by
  have HD := hideP (deeds_any A1 c1 12 cs w h1 hl1 hc1 hn1 (by decide))
  go_enter Tryz.func24, Tryz.ntmps24
  go_wp2_with fail
  refine HD.out.mono ?_
  clear HD h1
  rintro e w1 ⟨A, c, ds, rfl, hD, hdl, hb1⟩
  go_wp2_with fail
  go_loopw [5, 11] (EnI w A c ds ms.length) (fun _ i _ => ds.length - (intOf i).toNat)
  case atStart => exact ⟨0, none, 0, [], Nat.zero_le _, rfl, rfl, EW.nil _ _, by simp, Nat.zero_le _, hD, hb1⟩
  case round =>
    obtain ⟨k, Ak, ck, xs, hk, rfl, rfl, hW, hgd, hxl, hDr, hb⟩ := hrel
    clear hD hb1
    by_cases hlt : k < ds.length
    · obtain ⟨b0, o0, hA0, hbl0, p0⟩ := hDr.or.vs k (dlV ds[k]) (by simp [hlt])
      have hoo := hDr.oo _ (List.getElem_mem hlt)
      have hgo := hDr.good _ (List.getElem_mem hlt)
      subst hA0
      generalize ds[k] = x at p0 hoo hgo
      obtain ⟨xD, xc, xd⟩ := x
      unfold dlV at p0
      simp only at p0 hoo hgo
      have g0 : (0 : Int) ≤ (k : Int) := by omega
      have g1 : (k : Int) < (ds.length : Int) := by omega
      have al := (Below.refl wr.heap.size wr).alloc (Nat.le_refl _) (.cells #[.slice xD xd.length xc] 40)
      obtain ⟨A3, c3, w3, hrun, hW3, hgd3, hD3, hb3⟩ := ents_add (hW.below al) hgd (hDr.below al) (hb.trans (al.mono hb.size)) ⟨xD, xc, xd, false, noM⟩ ⟨hoo.below al, noM_mo _ _⟩ (fun o ho => by have := (hgo.1 o ho).n; omega) ⟨good_deed (x := ⟨xD, xc, xd⟩) hgo, rfl, hgo.2.2⟩ (by omega)
      have hl3 : (xs ++ [(⟨xD, xc, xd, false, noM⟩ : Em)]).length = xs.length + 1 := by simp
      generalize xs ++ [(⟨xD, xc, xd, false, noM⟩ : Em)] = xs3 at hrun hW3 hgd3 hl3
      simp only [World.size_alloc] at hrun
      unfold emC noM at hrun
      simp only [List.length_nil] at hrun
      have HR := hideP hrun
      have q0 := (Box.new wr 40 #[.slice xD xd.length xc]).cell 0 rfl
      clear hrun hoo hgo hDr hW al hb hgd
      by_cases hm : k < ms.length
      · have hms := (h2.below hb3).is_ _ (List.getElem_mem hm)
        obtain ⟨b2, o2, hA2, hbl2, z0⟩ := (h2.below hb3).vs k (clV ms[k]) (by simp [hm])
        subst hA2
        generalize ms[k] = z at hms z0
        obtain ⟨zA, zc, zs⟩ := z
        unfold clV at z0
        simp only at z0 hms
        have HK := hideP (kmap_mk2 zA zc zs w3 hms.1 (by omega))
        have g2 : (k : Int) < (ms.length : Int) := by omega
        have HXL := hideP hl3
        clear hl3
        go_wp2_with (at_builtin; refine Lib.wpList_append_run _ rfl _ _ _ _ rfl _ _ rfl rfl _ _ HR.out ?_)
        refine HK.out.mono ?_
        clear HK HR
        rintro e w4 ⟨m, rfl, hok, hmo, hb4⟩
        obtain ⟨A5, c5, w5, hrun, hW5, hgd5, hD5, hb5⟩ := ents_add (hW3.below hb4) hgd3 (hD3.below hb4) (hb3.trans (hb4.mono hb3.size)) ⟨none, 0, [], true, m⟩ ⟨OO.nil _ _, hmo.mono hb3.size⟩ (by simp) ⟨chkM_ok.2 hok, rfl, by simp⟩ (by have := HXL.out; omega)
        unfold emC at hrun
        simp only [List.length_nil] at hrun
        have HR5 := hideP hrun
        have hl5 := hideP (show (xs3 ++ [(⟨none, 0, [], true, m⟩ : Em)]).length = xs3.length + 1 by simp)
        clear hrun hW3 hgd3 hD3 hmo hb3 hb4 hok
        generalize xs3 ++ [(⟨none, 0, [], true, m⟩ : Em)] = xs5 at HR5 hW5 hgd5 hl5
        go_wp2_with (at_builtin; refine Lib.wpList_append_run _ rfl _ _ _ _ rfl _ _ rfl rfl _ _ HR5.out ?_)
        go_roundw
        case rel => exact ⟨k + 1, A5, c5, xs5, by omega, by go_num, rfl, hW5, hgd5, by rw [hl5.out, HXL.out]; omega, hD5, hb5⟩
        case measure => simp [intOf]; omega
      · have g2 : ¬ (k : Int) < (ms.length : Int) := by omega
        have HXL := hideP hl3
        clear hl3
        go_wp2_with (at_builtin; refine Lib.wpList_append_run _ rfl _ _ _ _ rfl _ _ rfl rfl _ _ HR.out ?_)
        go_roundw
        case rel => exact ⟨k + 1, A3, c3, xs3, by omega, by go_num, rfl, hW3, hgd3, by rw [HXL.out]; omega, hD3, hb3⟩
        case measure => simp [intOf]; omega
    · go_wp2_with fail
      go_ret
      exact ⟨Ak, ck, xs, rfl, hW, hgd, by omega, hb⟩
end Go.Proofs.YtefdipjhjgmokaaGreatDoor

set_option linter.unusedVariables false
set_option linter.unusedSimpArgs false
namespace Go.Proofs.YtefdipjhjgmokaaGreatDoor
open Go.RowKit

/-- a row: its type, the size of an element, the slice, its length, its cells -/
abbrev Rw := TypeId × Nat × Value × Nat × List Value
/-- an entry and its twin at hand, and rows that were made -/
structure LoK (w : World) (g gc : Nat) (A : Option Addr) (ce : Nat) (xs : List Em) (ct ca : List (List (List Ent))) (st : List Sr) (s : Ms) (c : Cs) (x : Em) (gx gy n0 : Nat) (a0 a2 a3 : Value) (L : List Rw) (W : World) : Prop where
  h : LoH w g gc A ce xs ct ca st s c W
  bx : Box W gx 42 (emC x)
  by_ : Box W gy 42 #[a0, .bool x.isM, a2, a3]
  nx : gx ≠ gy
  ox : ¬ Occ s c A xs gx
  oy : ¬ Occ s c A xs gy
  lx : w.heap.size ≤ gx
  ly : w.heap.size ≤ gy
  nb : n0 ≤ W.heap.size
  nw : w.heap.size ≤ n0
  rows : ∀ r ∈ L, W.ownsRow n0 r.1 r.2.1 r.2.2.1 r.2.2.2.1 r.2.2.2.2 ∧ r.1 ≠ 42
section
variable {w W W' : World} {g gc ce gx gy n0 : Nat} {A : Option Addr} {xs : List Em} {ct ca ct' : List (List (List Ent))} {st st' : List Sr} {s s' : Ms} {c c' : Cs} {x : Em} {a0 a2 a3 : Value} {L : List Rw}
theorem LoK.below (h : LoK w g gc A ce xs ct ca st s c x gx gy n0 a0 a2 a3 L W) (hb : Below W.heap.size W W') : LoK w g gc A ce xs ct ca st s c x gx gy n0 a0 a2 a3 L W' :=
  ⟨h.h.below hb, h.bx.below hb, h.by_.below hb, h.nx, h.ox, h.oy, h.lx, h.ly, Nat.le_trans h.nb hb.size, h.nw, fun r hr => ⟨own_below (h.rows r hr).1 hb, (h.rows r hr).2⟩⟩
theorem LoK.add (h : LoK w g gc A ce xs ct ca st s c x gx gy n0 a0 a2 a3 L W) (hb : Below W.heap.size W W') (r : Rw) (hr : W'.ownsRow W.heap.size r.1 r.2.1 r.2.2.1 r.2.2.2.1 r.2.2.2.2) (hn : r.1 ≠ 42) : LoK w g gc A ce xs ct ca st s c x gx gy n0 a0 a2 a3 (r :: L) W' := by
  have k := h.below hb
  refine ⟨k.h, k.bx, k.by_, k.nx, k.ox, k.oy, k.lx, k.ly, k.nb, k.nw, fun q hq => ?_⟩
  rcases List.mem_cons.1 hq with rfl | hq
  · exact ⟨own_mono hr h.nb, hn⟩
  · exact k.rows q hq
/-- a block of the twin's changes -/
theorem LoK.fr (h : LoK w g gc A ce xs ct ca st s c x gx gy n0 a0 a2 a3 L W) (hf : Fr (fun q => q = gy) W W') : LoH w g gc A ce xs ct ca st s c W' ∧ Box W' gx 42 (emC x) ∧ ∀ r ∈ L, W'.ownsRow n0 r.1 r.2.1 r.2.2.1 r.2.2.2.1 r.2.2.2.2 ∧ r.1 ≠ 42 := by
  have ty := h.by_.ty
  have off : ∀ {t : TypeId}, t ≠ 42 → Off (fun q => q = gy) W t := fun hn q hq _ => ⟨_, by rw [hq]; exact ty, hn⟩
  have hO := h.oy
  refine ⟨⟨h.h.so.fr_ hf (fun q hq e => hO (by rw [← e]; exact .inl hq)) (fun q hq e => hO (by rw [← e]; exact .inr (.inl hq))), h.h.co.fr_ hf (fun q hq e => hO (by rw [← e]; exact .inr (.inr (.inl hq)))) (fun q hq e => hO (by rw [← e]; exact .inr (.inr (.inr (.inl hq))))) (off (by decide)),
    h.h.sg, h.h.cg, h.h.sct, h.h.cct, h.h.st, h.h.ap, h.h.ew.fr_B hf fun q hq e => hO (by rw [← e]; exact .inr (.inr (.inr (.inr hq)))), h.h.sa, h.h.ca, hf.below (fun k hk => by rw [hk]; exact h.ly) h.h.be.size h.h.be⟩, hf.box h.bx h.nx, fun r hr => ⟨hf.own_ty (h.rows r hr).1 (off (h.rows r hr).2), (h.rows r hr).2⟩⟩
theorem LoK.st0 (h : LoK w g gc A ce xs ct ca st s c x gx gy n0 a0 a2 a3 L W) (v : Value) : LoK w g gc A ce xs ct ca st s c x gx gy n0 v a2 a3 L (W.setCell ⟨gy, 0, none⟩ v) := by
  obtain ⟨h1, h2, h3⟩ := h.fr (Fr.of_set (F := fun q => q = gy) gy 0 v rfl)
  exact ⟨h1, h2, h.by_.set 0 v, h.nx, h.ox, h.oy, h.lx, h.ly, Nat.le_trans h.nb (Fr.of_set (F := fun q => q = gy) (w := W) gy 0 v rfl).size, h.nw, h3⟩
theorem LoK.st2 (h : LoK w g gc A ce xs ct ca st s c x gx gy n0 a0 a2 a3 L W) (v2 v3 : Value) : LoK w g gc A ce xs ct ca st s c x gx gy n0 a0 v2 v3 L ((W.setCell ⟨gy, 2, none⟩ v2).setCell ⟨gy, 3, none⟩ v3) := by
  have f : Fr (fun q => q = gy) W ((W.setCell ⟨gy, 2, none⟩ v2).setCell ⟨gy, 3, none⟩ v3) := Fr.comp (F := fun q => q = gy) (Fr.of_set gy 2 v2 rfl) (Fr.of_set gy 3 v3 rfl)
  obtain ⟨h1, h2, h3⟩ := h.fr f
  exact ⟨h1, h2, (h.by_.set 2 v2).set 3 v3, h.nx, h.ox, h.oy, h.lx, h.ly, Nat.le_trans h.nb f.size, h.nw, h3⟩
theorem LoK.gxc (h : LoK w g gc A ce xs ct ca st s c x gx gy n0 a0 a2 a3 L W) : W.cell? ⟨gx, 0, none⟩ = some (.slice x.D x.d.length x.c) ∧ W.cell? ⟨gx, 2, none⟩ = some (.slice x.m.A x.m.cs.length x.m.ca) ∧ W.cell? ⟨gx, 3, none⟩ = some (.slice x.m.O x.m.os.length x.m.co) := ⟨h.bx.cell 0 rfl, h.bx.cell 2 rfl, h.bx.cell 3 rfl⟩
theorem LoK.gyc (h : LoK w g gc A ce xs ct ca st s c x gx gy n0 a0 a2 a3 L W) : (W.cell? ⟨gy, 0, none⟩ = some a0 ∧ W.cell? ⟨gy, 2, none⟩ = some a2 ∧ W.cell? ⟨gy, 3, none⟩ = some a3) ∧ W.frozen? ⟨gy, 0, none⟩ = false ∧ W.frozen? ⟨gy, 2, none⟩ = false ∧ W.frozen? ⟨gy, 3, none⟩ = false := ⟨⟨h.by_.cell 0 rfl, h.by_.cell 2 rfl, h.by_.cell 3 rfl⟩, h.by_.frozen 0, h.by_.frozen 2, h.by_.frozen 3⟩
/-- how long its rows are -/
theorem GoodE.lens {y : Em} (h : GoodE y) : y.d.length ≤ 4 ∧ y.m.cs.length ≤ 12 ∧ y.m.os.length ≤ 13 := by
  obtain ⟨h1, h2, h3⟩ := h
  refine ⟨h3, ?_⟩
  unfold chkE at h1
  unfold dropE at h2
  unfold entOf at h1 h2
  cases hm : y.isM
  · rw [hm] at h2
    simp at h2
    rw [h2.1, h2.2]
    simp
  · rw [hm] at h1
    simp at h1
    have := chkM_ok.1 h1
    have h4 := this.few
    have h5 := this.len
    omega
end
/-- what an entry's twin with room is -/
def twin (x : Em) (g1 g2 g3 : Nat) : Em := ⟨some ⟨g1, 0, none⟩, x.d.length + 3, x.d, x.isM, ⟨some ⟨g2, 0, none⟩, x.m.cs.length + 3, x.m.cs, some ⟨g3, 0, none⟩, x.m.os.length + 3, x.m.os⟩⟩
def opM : Opr := ⟨-7, ⟨#[]⟩, ⟨#[]⟩, 0⟩
def r1_ (x : Em) (g1 : Nat) : Rw := ⟨71, 4, .slice (some ⟨g1, 0, none⟩) (x.d ++ List.replicate 3 opM).length (x.d.length + 3), (x.d ++ List.replicate 3 opM).length, opCells (x.d ++ List.replicate 3 opM)⟩
def r2_ (x : Em) (v : Value) (g2 : Nat) : Rw := ⟨9, 1, .slice (some ⟨g2, 0, none⟩) (x.m.cs.map Value.string ++ List.replicate 3 v).length (x.m.cs.length + 3), (x.m.cs.map Value.string ++ List.replicate 3 v).length, x.m.cs.map Value.string ++ List.replicate 3 v⟩
def r3_ (x : Em) (v : Value) (g3 : Nat) : Rw := ⟨3, 1, .slice (some ⟨g3, 0, none⟩) (x.m.os.map (Value.int .i64) ++ List.replicate 3 v).length (x.m.os.length + 3), (x.m.os.map (Value.int .i64) ++ List.replicate 3 v).length, x.m.os.map (Value.int .i64) ++ List.replicate 3 v⟩
end Go.Proofs.YtefdipjhjgmokaaGreatDoor

set_option linter.unusedVariables false
set_option linter.unusedSimpArgs false
namespace Go.Proofs.YtefdipjhjgmokaaGreatDoor
open Go.RowKit

theorem OR.head {w : World} {B : Nat} {t : TypeId} {A : Option Addr} {c : Nat} {l r : List Value} (h : OR w B t A c (l ++ r)) (hA : A ≠ none) : OR w B t A c l := by
  rcases h.2 with ⟨hv, _⟩ | ⟨g, cap, cur, hv, hB, hg, hn, hm, hs, ht⟩
  · injection hv with e; exact absurd e hA
  · injection hv with e1 e2 e3
    subst e1; subst e3
    refine ⟨(Nat.mul_one _).symm, .inr ⟨g, c, cur, rfl, hB, hg, by rw [List.length_append] at hn; omega, hm, hs, ?_⟩⟩
    rw [Nat.mul_one] at ht ⊢
    have h3 := congrArg (List.take l.length) ht
    rw [List.take_take, Nat.min_eq_left (by rw [List.length_append]; omega), List.take_append_of_le_length (Nat.le_refl _)] at h3
    exact h3.trans (List.take_of_length_le (Nat.le_refl _))
theorem OR.push {w : World} {B g c : Nat} {t : TypeId} {l : List Value} (h : OR w B t (some ⟨g, 0, none⟩) c l) (hlt : l.length < c) (v : Value) :
    (∃ v0, w.cell? ⟨g, l.length, none⟩ = some v0) ∧ w.frozen? ⟨g, l.length, none⟩ = false ∧ OR (w.setCell ⟨g, l.length, none⟩ v) B t (some ⟨g, 0, none⟩) c (l ++ [v]) := by
  rcases h.2 with ⟨hv, _⟩ | ⟨g', cap, cur, hv, hB, hg, hn, hm, hs, ht⟩
  · injection hv with e; cases e
  · injection hv with e1 e2 e3
    injection e1 with e1
    injection e1 with e1 _ _
    subst e1; subst e3
    have hbx : Box w g t cur := hg
    have hi0 : l.length < cur.size := by omega
    have o1 := hbx.set l.length v
    refine ⟨⟨cur[l.length], hbx.cell _ (by simp [hi0])⟩, hbx.frozen _, ?_⟩
    refine ⟨(Nat.mul_one _).symm, .inr ⟨g, c, _, rfl, hB, o1, by simp; omega, hm, by simp [hs], ?_⟩⟩
    rw [Nat.mul_one] at ht ⊢
    rw [List.length_append, List.length_singleton, Array.toList_setIfInBounds]
    apply List.ext_getElem?
    intro j
    rw [List.getElem?_take]
    by_cases h1 : j < l.length
    · rw [if_pos (by omega), List.getElem?_set_ne (by omega), List.getElem?_append_left h1, ← ht, List.getElem?_take, if_pos h1]
    · rw [List.getElem?_append_right (by omega)]
      by_cases h2 : j = l.length
      · subst h2
        rw [if_pos (by omega), List.getElem?_set_self (by rw [Array.length_toList]; exact hi0)]
        simp
      · rw [if_neg (by omega), List.getElem?_eq_none (by simp; omega)]
end Go.Proofs.YtefdipjhjgmokaaGreatDoor

set_option linter.unusedVariables false
set_option linter.unusedSimpArgs false
namespace Go.Proofs.YtefdipjhjgmokaaGreatDoor
open Go.RowKit

/-- a row with room behind it, in which a value stands three times -/
def RetRmS (w : World) (l : List Value) (v : Value) (e : Ending) (w' : World) : Prop := ∃ g, e = .returned (.slice (some ⟨g, 0, none⟩) l.length (l.length + 3)) ∧ OR w' w.heap.size 9 (some ⟨g, 0, none⟩) (l.length + 3) (l ++ List.replicate 3 v) ∧ Below w.heap.size w w'
structure RmHS (w : World) (g : Nat) (l : List Value) (v : Value) (k : Nat) (wr : World) : Prop where
  ov : OR wr w.heap.size 9 (some ⟨g, 0, none⟩) (l.length + 3) (l ++ List.replicate k v)
  be : Below w.heap.size w wr
def RmIS (w : World) (g : Nat) (l : List Value) (v : Value) (i : Value) (wr : World) : Prop := ∃ k : Nat, k ≤ 3 ∧ i = .int .i64 k ∧ RmHS w g l v k wr

set_option maxHeartbeats 2000000 in
set_option maxRecDepth 100000 in
theorem roomyS_any (A : Option Addr) (c : Nat) (l : List Value) (x : ByteArray) (w : World) (hA : VS w A l) (hc : l.length ≤ c) (h0 : A = none → c = 0) (hone : ∀ u ∈ l, u.oneCell' = true) (hn : l.length * 16 ≤ 140737488351232) :
    Calls Tryz.prog 26 #[.slice A l.length c, Value.string x] w (RetRmS w l (Value.string x)) := by
  obtain ⟨i0, hi, hz0, hz1, hz2⟩ := info_parts strInfo
  obtain ⟨w1, hmk, ho1, hg1⟩ := run_make_own (P := Tryz.prog) w w.heap.size 32 9 i0 _ 1 Tryz.underlying32 hi hz0 hz1 .i64 .i64 (l.length + 3) (by rw [hz2]; omega) (by unfold maxLen; omega) (Nat.le_refl _)
  have hb1 : Below w.heap.size w w1 := (Below.refl w.heap.size w).grown hg1 (Nat.le_refl _) (fun j hj => by cases hj)
  have hA1 : VS w1 A l := hA.below hb1
  obtain ⟨w2, happ, ho2, hb2⟩ : ∃ w2, (Builtin.append_ #[32, 32] 32 #[.slice (some ⟨w.heap.size, 0, none⟩) 0 (l.length + 3), .slice A l.length c]).run Tryz.prog w1 = .ok (.slice (some ⟨w.heap.size, 0, none⟩) l.length (l.length + 3)) w2 ∧ OR w2 w.heap.size 9 (some ⟨w.heap.size, 0, none⟩) (l.length + 3) l ∧ Below w.heap.size w w2 := by
    cases A with
    | none =>
      have hc0 : c = 0 := h0 rfl
      have hl : l = [] := List.length_eq_zero_iff.1 (by omega)
      subst hc0; subst hl
      exact ⟨w1, run_append_owned_none (P := Tryz.prog) w1 w.heap.size 32 _ 9 i0 1 Tryz.underlying32 hi _ 0 [] ho1, ho1, hb1⟩
    | some a =>
      have hcell : ∀ j u, l[j]? = some u → w1.cell? (a.add j) = some u := by
        intro j u hj
        obtain ⟨b, o, e, _, hcc⟩ := hA1 j u hj
        injection e with e
        subst e
        rw [Addr.add_lit]; exact hcc
      obtain ⟨w2, h1, h2, h3⟩ := run_append_fits (P := Tryz.prog) w1 w.heap.size 32 32 9 i0 1 Tryz.underlying32 hi hz1 w.heap.size 0 (l.length + 3) [] ho1 a l.length c l (Nat.mul_one _).symm hcell hone (by omega)
      rw [Nat.zero_add] at h1 h2
      exact ⟨w2, h1, h2, hb1.grown h3 hb1.size (fun j hj => by injection hj with hj; omega)⟩
  rw [show ((l.length + 3 : Nat) : Int) = (l.length : Int) + 3 by omega] at hmk
  have w3 : IntKind.i64.wrap ((l.length : Int) + 3) = (l.length : Int) + 3 := by simp only [IntKind.wrap_i64]; omega
  have hR : RmHS w w.heap.size l (Value.string x) 0 w2 := ⟨by simpa using ho2, hb2⟩
  have HR := hideP happ
  have g0 : (0 : Int) ≤ (l.length : Int) + 3 := by omega
  clear hA hA1 ho1 ho2 hb1 hb2 hg1 happ
  go_enter Tryz.func26, Tryz.ntmps26
  go_wp2_with (at_builtin; refine Lib.wpList_append_run _ rfl _ _ _ _ rfl _ _ rfl rfl _ _ HR.out ?_)
  clear HR hmk
  generalize hgx : w.heap.size = gx at hR ⊢
  go_loopw [13] (RmIS w gx l (Value.string x)) (fun i _ => 3 - (intOf i).toNat)
  case atStart => exact ⟨0, by omega, rfl, hR⟩
  case round =>
    clear hR
    obtain ⟨k, hk, rfl, hR⟩ := hrel
    by_cases hk3 : k < 3
    · have g1 : (k : Int) < 3 := by omega
      have hll : (l ++ List.replicate k (Value.string x)).length = l.length + k := by simp
      have wk : IntKind.i64.wrap ((l.length : Int) + (k : Int)) = (l.length : Int) + (k : Int) := by simp only [IntKind.wrap_i64]; omega
      have g2 : (0 : Int) ≤ (l.length : Int) + (k : Int) := by omega
      have g3 : (l.length : Int) + (k : Int) < (l.length : Int) + 3 := by omega
      have g4 : ((l.length : Int) + (k : Int)).toNat = l.length + k := by omega
      have g5 : ((l.length : Int) + 3).toNat = l.length + 3 := by omega
      obtain ⟨⟨v0, d0⟩, f0, hp⟩ := hR.ov.push (by rw [hll]; omega) (Value.string x)
      rw [hll] at d0 f0 hp
      have hX : (l ++ List.replicate k (Value.string x)) ++ [Value.string x] = l ++ List.replicate (k + 1) (Value.string x) := by rw [List.append_assoc, List.replicate_succ']
      rw [hX] at hp
      have HN : Hid (RmHS w gx l (Value.string x) (k + 1) (wr.setCell ⟨gx, l.length + k, none⟩ (Value.string x))) := hideP ⟨hp, below_set hR.be (by omega)⟩
      clear hp hX hR hll
      go_wp2_with fail
      go_roundw
      case rel => exact ⟨k + 1, by omega, by go_num, HN.out⟩
      case measure => simp [intOf]; omega
    · have hk4 : k = 3 := by omega
      have h3 : RmHS w gx l (Value.string x) 3 wr := hk4 ▸ hR
      clear hR hk4
      go_wp2_with fail
      go_ret
      exact ⟨gx, rfl, h3.ov, h3.be⟩
def MkIS (w : World) (i : Value) (wr : World) : Prop := ∃ k : Nat, k ≤ 3 ∧ i = .int .i64 k ∧ wr = w

set_option maxHeartbeats 2000000 in
set_option maxRecDepth 100000 in
theorem markS_any (B g : Nat) (l : List Value) (x : ByteArray) (w : World) (h : OR w B 9 (some ⟨g, 0, none⟩) (l.length + 3) (l ++ List.replicate 3 (Value.string x))) (hn : l.length * 16 ≤ 140737488351232) :
    Calls Tryz.prog 30 #[.slice (some ⟨g, 0, none⟩) l.length (l.length + 3), Value.string x] w fun e w' => e = .returned (.bool true) ∧ w' = w := by
  have hs := h.vs
  have hsl : ∀ w : World, (Instr.slice 32 (.slice (some ⟨g, 0, none⟩) l.length (l.length + 3)) (some (.int .i64 (l.length : Int))) (some (.int .i64 ((l.length : Int) + 3))) none).run Tryz.prog w = .ok (.slice (some ⟨g, l.length, none⟩) 3 3) w := by
    intro w
    have g5 : ((l.length : Int) + 3).toNat = l.length + 3 := by omega
    have g6 : (0 : Int) ≤ (l.length : Int) + 3 := by omega
    have g7 : l.length ≤ l.length + 3 := by omega
    have g8 : l.length + 3 - l.length = 3 := by omega
    go_simp
    try simp only [g5, g6, g7, g8, if_true]
  clear h
  go_enter Tryz.func30, Tryz.ntmps30
  go_wp2_with fail
  go_loopw [14] (MkIS w) (fun i _ => 3 - (intOf i).toNat)
  case atStart => exact ⟨0, by omega, rfl, rfl⟩
  case round =>
    obtain ⟨k, hk, rfl, rfl⟩ := hrel
    by_cases hk3 : k < 3
    · have g1 : (k : Int) < 3 := by omega
      have g0 : (0 : Int) ≤ (k : Int) := by omega
      obtain ⟨b, o, e, hbl, c1⟩ := hs (l.length + k) (Value.string x) (by rw [List.getElem?_append_right (by omega), show l.length + k - l.length = k by omega, List.getElem?_replicate, if_pos hk3])
      injection e with e
      injection e with e1 e2 e3
      subst e1; subst e2
      rw [Nat.zero_add] at c1
      have n1 : (x.toList != x.toList) = false := by simp
      have n2 : (x.toList == x.toList) = true := by simp
      clear hs
      go_wp2_with fail
      go_roundw
      case rel => exact ⟨k + 1, by omega, by go_num, rfl⟩
      case measure => simp [intOf]; omega
    · go_wp2_with fail
      go_ret
      exact ⟨rfl, rfl⟩
end Go.Proofs.YtefdipjhjgmokaaGreatDoor
