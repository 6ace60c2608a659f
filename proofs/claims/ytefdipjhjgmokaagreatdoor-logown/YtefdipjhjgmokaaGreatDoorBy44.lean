/-
  slices.Equal at operations, roref.SameDeed and roref.Bare.
  roref.BareEntry.
  roref.BareEntry and roref.SameEntry.
  rokeep.LogOwn: behind the wastes (no body of the program in it).
  rokeep.spoil of a row, whatever it holds.
-/
import Derived.Test.YtefdipjhjgmokaaGreatDoorBy42
import Derived.Test.YtefdipjhjgmokaaGreatDoorBy34
import Derived.Laws.StructEq
import Derived.Deep.QuietTactic
import Derived.BigQuiet
import Derived.Test.YtefdipjhjgmokaaGreatDoorBy2
import Derived.WalkKit
import Derived.WalkSpells
import Derived.WalkLawsBesides
import Derived.Test.YtefdipjhjgmokaaGreatDoorBy43
import Derived.Test.YtefdipjhjgmokaaGreatDoorBy35
import Derived.Test.YtefdipjhjgmokaaGreatDoorBy39
import Derived.Test.YtefdipjhjgmokaaGreatDoorBy40
import Derived.Lib.ItoaLen
import Derived.Test.YtefdipjhjgmokaaGreatDoorBy17
import Derived.Test.YtefdipjhjgmokaaGreatDoorBy33
import Derived.Test.YtefdipjhjgmokaaGreatDoorBy1
import Derived.Lib.SlicesS
set_option linter.unusedVariables false
set_option linter.unusedSimpArgs false
namespace Go.Proofs.YtefdipjhjgmokaaGreatDoor
open Go.RowKit
open Go.Lib hiding intOf

/-- what Bare hands back -/
def RetBa (w : World) (d : List Opr) (e : Ending) (w' : World) : Prop :=
  ∃ (D : Option Addr) (c : Nat), e = .returned (.agg #[.slice D (d.map bare).length c]) ∧ OO w' w.heap.size D c (d.map bare) ∧ Below w.heap.size w w'
/-- the operations while they are gathered -/
structure Bb (w : World) (gr gm B : Nat) (D : Option Addr) (c : Nat) (d : List Opr) (wr : World) : Prop where
  box : Box wr gm 40 #[.slice D d.length c]
  res : Box wr gr 40 #[.slice none 0 0]
  oo : OO wr B D c d
  wB : w.heap.size ≤ B
  BB : B ≤ wr.heap.size
  ne : gm ≠ gr
  lowm : w.heap.size ≤ gm
  lowr : w.heap.size ≤ gr
  bel : Below w.heap.size w wr
section
variable {w wr w' : World} {gr gm B : Nat} {D : Option Addr} {c : Nat} {d : List Opr}
theorem Bb.below (h : Bb w gr gm B D c d wr) (hb : Below wr.heap.size wr w') : Bb w gr gm B D c d w' :=
  ⟨h.box.below hb, h.res.below hb, h.oo.below hb, h.wB, Nat.le_trans h.BB hb.size, h.ne, h.lowm, h.lowr, h.bel.trans (hb.mono h.bel.size)⟩
set_option maxRecDepth 100000 in
theorem Bb.add (h : Bb w gr gm B D c d wr) (o : Opr) (hl : d.length ≤ 5000000000) :
    ∃ D' c' a1, (Builtin.append_ #[38, 38] 38 #[.slice D d.length c, .slice (some ⟨wr.heap.size, 0, none⟩) 1 1]).run Tryz.prog (wr.alloc (.cells #[.int .i64 o.kind, .string o.key, .string o.src, .int .i64 o.n] 71)) = .ok (.slice D' (d.length + 1) c') a1 ∧
      Box a1 gm 40 #[.slice D d.length c] ∧ Bb w gr gm B D' c' (d ++ [o]) (a1.setCell ⟨gm, 0, none⟩ (.slice D' (d.length + 1) c')) := by
  obtain ⟨D', c', a1, hrun, ho1, hgr1, hbl1, _⟩ := app_op wr B 38 D c d h.oo o hl h.BB
  have hal1 := (Below.refl wr.heap.size wr).alloc (Nat.le_refl _) (.cells #[.int .i64 o.kind, .string o.key, .string o.src, .int .i64 o.n] 71)
  have h1 := h.below hal1
  have hln : (d ++ [o]).length = d.length + 1 := by simp
  have hcty : ∀ b, blk D = some b → Ty (wr.alloc (.cells #[.int .i64 o.kind, .string o.key, .string o.src, .int .i64 o.n] 71)) b 71 := fun b hb => own_ty h1.oo (by rw [ownBlock_slice]; exact hb)
  have hbx1 := h1.box.grown hgr1 fun e => absurd ((hcty _ e.symm).inj h1.box.ty) (by decide)
  have hrs1 := h1.res.grown hgr1 fun e => absurd ((hcty _ e.symm).inj h1.res.ty) (by decide)
  have hb1 := hbl1 w.heap.size w h.wB h.bel
  have hS : B ≤ a1.heap.size := Nat.le_trans h1.BB hgr1.size
  rw [hln] at hrun
  refine ⟨D', c', a1, hrun, hbx1, ?_⟩
  have hT := hbx1.set 0 (.slice D' (d.length + 1) c')
  refine ⟨?_, hrs1.other h.ne _, ho1.set1 hbx1.ty (by decide), h.wB, by simpa [World.setCell] using hS, h.ne, h.lowm, h.lowr, below_set1 hb1 h.lowm⟩
  rw [hln]; simpa using hT
end
/-- while they are gathered -/
def BaI (w : World) (gr gm B : Nat) (d : List Opr) (i : Value) (wr : World) : Prop :=
  ∃ (k : Nat) (D : Option Addr) (c : Nat), k ≤ d.length ∧ i = .int .i64 k ∧ Bb w gr gm B D c ((d.take k).map bare) wr
theorem bare_step {d : List Opr} {k : Nat} (h : k < d.length) : (d.take (k + 1)).map bare = (d.take k).map bare ++ [bare d[k]] := by
  rw [List.take_succ_eq_append_getElem h, List.map_append]; rfl
theorem bare_len {d : List Opr} {k : Nat} (h : k ≤ d.length) : ((d.take k).map bare).length = k := by simp; omega
set_option maxHeartbeats 2000000 in
set_option maxRecDepth 100000 in
theorem bare_any (A : Option Addr) (ca : Nat) (d : List Opr) (w : World) (hD : OS w w.heap.size A d) (hl : d.length ≤ 1000) :
    Calls Tryz.prog 35 #[.agg #[.slice A d.length ca]] w (RetBa w d) := by
  have b1 := (((Below.refl w.heap.size w).alloc (Nat.le_refl _) (.cells #[.slice A d.length ca] 40)).alloc (by simp) (.cells #[.slice none 0 0] 40)).alloc (by simp; omega) (.cells #[.slice none 0 0] 40)
  have x0 := ((Box.new w 40 #[.slice A d.length ca]).alloc (.cells #[.slice none 0 0] 40)).alloc (.cells #[.slice none 0 0] 40)
  have x1 := (Box.new (w.alloc (.cells #[.slice A d.length ca] 40)) 40 #[.slice none 0 0]).alloc (.cells #[.slice none 0 0] 40)
  have x2 := Box.new ((w.alloc (.cells #[.slice A d.length ca] 40)).alloc (.cells #[.slice none 0 0] 40)) 40 #[.slice none 0 0]
  simp only [World.size_alloc] at x1 x2
  have hsz : (((w.alloc (.cells #[.slice A d.length ca] 40)).alloc (.cells #[.slice none 0 0] 40)).alloc (.cells #[.slice none 0 0] 40)).heap.size = w.heap.size + 1 + 1 + 1 := by simp
  have c0 := x0.cell 0 rfl
  go_enter Tryz.func35, Tryz.ntmps35
  go_wp2_with fail
  generalize ((w.alloc (.cells #[.slice A d.length ca] 40)).alloc (.cells #[.slice none 0 0] 40)).alloc (.cells #[.slice none 0 0] 40) = w1 at b1 x0 x1 x2 hsz c0 ⊢
  have HI := hideP (show BaI w (w.heap.size + 1) (w.heap.size + 1 + 1) w1.heap.size d (.int .i64 0) w1 from
    ⟨0, none, 0, Nat.zero_le _, rfl, x2, x1, OO.nil _ _, by omega, Nat.le_refl _, by omega, by omega, by omega, b1⟩)
  generalize w1.heap.size = B at HI
  generalize w.heap.size + 1 + 1 = gm at HI ⊢
  generalize w.heap.size + 1 = gr at HI ⊢
  clear x0 x1 x2 b1 hsz c0
  go_loopw [9] (BaI w gr gm B d) (fun i _ => d.length - (intOf i).toNat)
  case atStart => exact HI.out
  case round =>
    obtain ⟨k, D, c, hk, rfl, hM⟩ := hrel
    have hbl := bare_len hk
    by_cases hkl : k < d.length
    · obtain ⟨b, o, rfl, hbl1, q1, q2, q3, q4⟩ := (hD.below hM.bel) k _ (List.getElem?_eq_getElem hkl)
      have HST := hideP (bare_step hkl)
      generalize d[k] = p at q1 q2 q3 q4 HST
      have g1 : (k : Int) < (d.length : Int) := by omega
      have g2 : (0 : Int) ≤ (k : Int) := by omega
      obtain ⟨kd, key, src, n⟩ := p
      simp only at q1 q2 q3 q4
      by_cases h3 : kd = 3
      · subst h3
        have hal := (Below.refl wr.heap.size wr).alloc (Nat.le_refl _) (.cells #[.int .i64 3, .string key, .string src, .int .i64 0] 71)
        have xo := Box.new wr 71 #[.int .i64 3, .string key, .string src, .int .i64 0]
        have hM6 := hM.below hal
        obtain ⟨D', c', a1, hrun, hbx, hM2⟩ := hM6.add ⟨3, key, src, 0⟩ (by omega)
        simp only [World.size_alloc] at hrun
        have m0 := hM6.box.cell 0 rfl
        have m1 := hbx.cell 0 rfl
        have m2 := hbx.frozen 0
        have HFI := hideP (show Bb w gr gm B D' c' ((d.take (k + 1)).map bare) _ by rw [HST.out]; exact hM2)
        rw [hbl] at hrun m0 m1 HFI
        have HRN := hideP hrun
        clear hrun hbx hM6 hM2 xo hal hM hbl
        go_wp2_with (at_builtin; first | refine Lib.wpList_append_run _ rfl _ _ _ _ rfl _ _ rfl rfl _ _ HRN.out ?_)
        go_roundw
        case rel => exact ⟨k + 1, D', c', by omega, by go_num, HFI.out⟩
        case measure => simp [intOf]; omega
      · have d3 : (kd == 3) = false := by simpa using h3
        by_cases h5 : kd = 5
        · subst h5
          have hal := (Below.refl wr.heap.size wr).alloc (Nat.le_refl _) (.cells #[.int .i64 5, .string key, .string src, .int .i64 n] 71)
          have xo := Box.new wr 71 #[.int .i64 5, .string key, .string src, .int .i64 n]
          have hM6 := hM.below hal
          obtain ⟨D', c', a1, hrun, hbx, hM2⟩ := hM6.add ⟨5, key, src, n⟩ (by omega)
          simp only [World.size_alloc] at hrun
          have m0 := hM6.box.cell 0 rfl
          have m1 := hbx.cell 0 rfl
          have m2 := hbx.frozen 0
          have HFI := hideP (show Bb w gr gm B D' c' ((d.take (k + 1)).map bare) _ by rw [HST.out]; exact hM2)
          rw [hbl] at hrun m0 m1 HFI
          have HRN := hideP hrun
          clear hrun hbx hM6 hM2 xo hal hM hbl
          go_wp2_with (at_builtin; first | refine Lib.wpList_append_run _ rfl _ _ _ _ rfl _ _ rfl rfl _ _ HRN.out ?_)
          go_roundw
          case rel => exact ⟨k + 1, D', c', by omega, by go_num, HFI.out⟩
          case measure => simp [intOf]; omega
        · have d5 : (kd == 5) = false := by simpa using h5
          have HB := hideP (show bare ⟨kd, key, src, n⟩ = ⟨kd, key, ⟨#[]⟩, n⟩ by unfold bare; rw [if_neg h3, if_neg h5]; rfl)
          rw [HB.out] at HST
          clear h3 h5
          have hal := (Below.refl wr.heap.size wr).alloc (Nat.le_refl _) (.cells #[.int .i64 kd, .string key, .string ⟨#[]⟩, .int .i64 n] 71)
          have xo := Box.new wr 71 #[.int .i64 kd, .string key, .string ⟨#[]⟩, .int .i64 n]
          have hM6 := hM.below hal
          obtain ⟨D', c', a1, hrun, hbx, hM2⟩ := hM6.add ⟨kd, key, ⟨#[]⟩, n⟩ (by omega)
          simp only [World.size_alloc] at hrun
          have m0 := hM6.box.cell 0 rfl
          have m1 := hbx.cell 0 rfl
          have m2 := hbx.frozen 0
          have HFI := hideP (show Bb w gr gm B D' c' ((d.take (k + 1)).map bare) _ by rw [HST.out]; exact hM2)
          rw [hbl] at hrun m0 m1 HFI
          have HRN := hideP hrun
          clear hrun hbx hM6 hM2 xo hal hM hbl
          go_wp2_with (at_builtin; first | refine Lib.wpList_append_run _ rfl _ _ _ _ rfl _ _ rfl rfl _ _ HRN.out ?_)
          go_roundw
          case rel => exact ⟨k + 1, D', c', by omega, by go_num, HFI.out⟩
          case measure => simp [intOf]; omega
    · have hke : k = d.length := by omega
      subst hke
      rw [List.take_of_length_le (Nat.le_refl _)] at hM hbl
      have m0 := hM.box.cell 0 rfl
      have t0 := hM.res.cell 0 rfl
      have t1 := hM.res.frozen 0
      have R := hM.res.set 0 (.slice D (d.map bare).length c)
      have q0 := R.cell 0 rfl
      have HF := hideP (And.intro ((hM.oo.mono hM.wB).set1 (g := gr) (i := 0) (v := .slice D (d.map bare).length c) hM.res.ty (by decide)) (below_set1 (i := 0) (v := .slice D (d.map bare).length c) hM.bel hM.lowr))
      clear R hM hbl
      generalize hmb : d.map bare = db at m0 q0 HF ⊢
      have HMB := hideP hmb
      clear hmb
      go_wp2_with fail
      exact bodyPost_ret (v := .agg #[.slice D db.length c]) (by simp [results, Tryz.results35, go_sem, q0]) rfl ⟨D, c, by rw [HMB.out], by rw [HMB.out]; exact HF.out.1, HF.out.2⟩
end Go.Proofs.YtefdipjhjgmokaaGreatDoor

set_option linter.unusedVariables false
set_option linter.unusedSimpArgs false
namespace Go.Proofs.YtefdipjhjgmokaaGreatDoor
open Go.RowKit

/-- without what is not so -/
def beM (x : Em) : Em := if x.isM then ⟨none, 0, [], true, x.m⟩ else ⟨x.D, x.c, x.d, false, noM⟩
theorem ES.bare {w : World} {x : Em} (h : ES w x) : ES w (beM x) := by
  unfold beM
  split
  · exact ⟨OS.nil, h.map, by simp⟩
  · exact ⟨h.ops, (noM_mo w 0).ms, h.bd⟩
set_option maxHeartbeats 1000000 in
set_option maxRecDepth 100000 in
theorem bareent_any (x : Em) (w : World) :
    Calls Tryz.prog 34 #[emV x] w fun e w' => e = .returned (emV (beM x)) ∧ Below w.heap.size w w' := by
  have b0 := ((Below.refl w.heap.size w).alloc (Nat.le_refl _) (.cells (emC x) 42)).alloc (by simp) (.cells #[.slice none 0 0, .bool false, .slice none 0 0, .slice none 0 0] 42)
  have x0 := (Box.new w 42 (emC x)).alloc (.cells #[.slice none 0 0, .bool false, .slice none 0 0, .slice none 0 0] 42)
  have x1 := Box.new (w.alloc (.cells (emC x) 42)) 42 #[.slice none 0 0, .bool false, .slice none 0 0, .slice none 0 0]
  simp only [World.size_alloc] at x1
  obtain ⟨D, c, d, isM, ⟨A, ca, cs, O, co, os⟩⟩ := x
  unfold emV
  unfold emC at b0 x0 x1 ⊢
  simp only at b0 x0 x1 ⊢
  have c0 := x0.cell 0 (v := .slice D d.length c) rfl
  have c1 := x0.cell 1 (v := .bool isM) rfl
  have c2 := x0.cell 2 (v := .slice A cs.length ca) rfl
  have c3 := x0.cell 3 (v := .slice O os.length co) rfl
  cases isM
  · have R := Box.new (w.alloc (.cells #[.slice D d.length c, .bool false, .slice A cs.length ca, .slice O os.length co] 42)) 42 #[.slice D d.length c, .bool false, .slice none 0 0, .slice none 0 0]
    simp only [World.size_alloc] at R
    have r0 := R.cell 0 rfl
    have r1 := R.cell 1 rfl
    have r2 := R.cell 2 rfl
    have r3 := R.cell 3 rfl
    have HF := hideP (((Below.refl w.heap.size w).alloc (Nat.le_refl _) (.cells #[.slice D d.length c, .bool false, .slice A cs.length ca, .slice O os.length co] 42)).alloc (by simp) (.cells #[.slice D d.length c, .bool false, .slice none 0 0, .slice none 0 0] 42))
    clear R x0 x1 b0
    go_enter Tryz.func34, Tryz.ntmps34
    go_wp2_with fail
    exact bodyPost_ret (v := .agg #[.slice D d.length c, .bool false, .slice none 0 0, .slice none 0 0]) (by simp [results, Tryz.results34, go_sem, r0, r1, r2, r3]) rfl ⟨rfl, HF.out⟩
  · have R := Box.new (w.alloc (.cells #[.slice D d.length c, .bool true, .slice A cs.length ca, .slice O os.length co] 42)) 42 #[.slice none 0 0, .bool true, .slice A cs.length ca, .slice O os.length co]
    simp only [World.size_alloc] at R
    have r0 := R.cell 0 rfl
    have r1 := R.cell 1 rfl
    have r2 := R.cell 2 rfl
    have r3 := R.cell 3 rfl
    have HF := hideP (((Below.refl w.heap.size w).alloc (Nat.le_refl _) (.cells #[.slice D d.length c, .bool true, .slice A cs.length ca, .slice O os.length co] 42)).alloc (by simp) (.cells #[.slice none 0 0, .bool true, .slice A cs.length ca, .slice O os.length co] 42))
    clear R x0 x1 b0
    go_enter Tryz.func34, Tryz.ntmps34
    go_wp2_with fail
    exact bodyPost_ret (v := .agg #[.slice none 0 0, .bool true, .slice A cs.length ca, .slice O os.length co]) (by simp [results, Tryz.results34, go_sem, r0, r1, r2, r3]) rfl ⟨rfl, HF.out⟩
end Go.Proofs.YtefdipjhjgmokaaGreatDoor

namespace Go.Proofs.YtefdipjhjgmokaaGreatDoor
end Go.Proofs.YtefdipjhjgmokaaGreatDoor

set_option linter.unusedVariables false
set_option linter.unusedSimpArgs false
namespace Go.Proofs.YtefdipjhjgmokaaGreatDoor
open Go.RowKit

theorem EO.fr_B {F : Nat → Prop} {w w' : World} {B : Nat} {x : Em} (h : EO w B x) (hf : Fr F w w') (hn : ∀ q, eB x q → ¬ F q) : EO w' B x :=
  ⟨hf.own h.ops fun k hk => hn k (.inl (ob hk)), ⟨hf.own h.map.cuts fun k hk => hn k (.inr (.inl (ob hk))), hf.own h.map.own fun k hk => hn k (.inr (.inr (ob hk)))⟩⟩
theorem WE.nb {w : World} {B g : Nat} {y : Em} {cs : Array Value} (h : WE w B y) (hb : Box w g 42 cs) : ¬ eB y g := fun e => by
  rcases (h.lo e).2.2 with t | t | t <;> exact absurd (t.inj hb.ty) (by decide)
/-- an entry, and its line read -/
structure LoQ (w : World) (g gc : Nat) (A : Option Addr) (ce : Nat) (xs : List Em) (ct ca : List (List (List Ent))) (st : List Sr) (s : Ms) (c : Cs) (x q : Em) (gx gq : Nat) (W : World) : Prop where
  h : LoH w g gc A ce xs ct ca st s c W
  bx : Box W gx 42 (emC x)
  bq : Box W gq 42 (emC q)
  eo : EO W w.heap.size q
  bd : ∀ o ∈ q.d, -9223372036854775808 ≤ o.n ∧ o.n ≤ 9223372036854775807
section
variable {w W W' W7 : World} {g gc ce gx gy n0 n1 g1 g2 g3 B gq gp : Nat} {A : Option Addr} {xs : List Em} {ct ca ct' : List (List (List Ent))} {st st' : List Sr} {s s' : Ms} {c c' : Cs} {x q p : Em}
theorem LoQ.below (h : LoQ w g gc A ce xs ct ca st s c x q gx gq W) (hb : Below W.heap.size W W') : LoQ w g gc A ce xs ct ca st s c x q gx gq W' := ⟨h.h.below hb, h.bx.below hb, h.bq.below hb, h.eo.below hb, h.bd⟩
theorem LoY.toQ (h : LoY w g gc A ce xs ct ca st s c x gx gy n1 g1 g2 g3 W) (bp : Below W.heap.size W W7) (hq : EO W7 B q) (hB : W.heap.size ≤ B) (hbd : ∀ o ∈ q.d, -9223372036854775808 ≤ o.n ∧ o.n ≤ 9223372036854775807) (hbq : Box W7 gq 42 (emC q)) (hf : Fr (eB (twin x g1 g2 g3)) W7 W') : LoQ w g gc A ce xs ct ca st s c x q gx gq W' := by
  have h7 := h.below bp
  refine ⟨h7.waste hf, hf.box h7.bx (h7.eo.we.nb h7.bx), hf.box hbq (h7.eo.we.nb hbq), (hq.fr_B hf fun k hk e => ?_).mono (Nat.le_trans h.h.be.size hB), hbd⟩
  have h1 := (hq.we.lo hk).1
  have h2 := h.lt k (.inr (.inr e))
  have h3 := h.n1
  omega
/-- an entry that was read is wasted: what was there before stays, and what was read behind it -/
theorem waste_p (hp : EO W B p) (hB : W7.heap.size ≤ B) (bp : Below W7.heap.size W7 W) (hf : Fr (eB p) W W') {Bq : Nat} (hq : EO W Bq q) (hlt : ∀ k, eB p k → k < Bq) (hbq : Box W gq 42 (emC q)) :
    Below W7.heap.size W7 W' ∧ EO W' Bq q ∧ Box W' gq 42 (emC q) :=
  ⟨hf.below (fun k hk => Nat.le_trans hB (hp.we.lo hk).1) bp.size bp, hq.fr_B hf fun k hk e => by have := (hq.we.lo hk).1; have := hlt k e; omega, hf.box hbq (hp.we.nb hbq)⟩
end
/-- an entry's line, read: what is not its own dropped -/
theorem bare_ent (x : Em) (Db : Option Addr) (cb : Nat) : entOf ⟨Db, cb, (beM x).d.map bare, (beM x).isM, (beM x).m⟩ = bareE (entOf x) := by
  obtain ⟨D, c, d, isM, m⟩ := x
  cases isM <;> rfl
/-- its text -/
theorem ent_text {x : Ent} (h : chkE x = 0) : enA x = bs (entT x) ∧ (bs (entT x)).size < 4294967281 ∧ rdE (bs (entT x)).data.toList = (0, bareE x, (entT x).length) := by
  have hbl := body_len h
  have hsl := Go.Lib.itoa_length_le (sm (bodyT x) : Int) (by have := sm_lt (bodyT x); omega) (by have := sm_lt (bodyT x); omega)
  have htl : (entT x).length ≤ 300 := by simp only [entT, lnT, List.length_append, List.length_cons, List.length_nil]; omega
  refine ⟨by unfold enA; rw [if_pos h], by rw [bs_size]; omega, ?_⟩
  have := rdE_ent h []
  rw [List.append_nil] at this
  rw [bs_data]
  exact this
end Go.Proofs.YtefdipjhjgmokaaGreatDoor

set_option linter.unusedVariables false
set_option linter.unusedSimpArgs false
namespace Go.Proofs.YtefdipjhjgmokaaGreatDoor
open Go.RowKit

set_option maxHeartbeats 1000000 in
set_option maxRecDepth 100000 in
theorem spoilS_w (B n c : Nat) (A : Option Addr) (x : ByteArray) (w : World) (hA : Wr w B 9 1 A n c) :
    Calls Tryz.prog 100 #[.slice A n c, .string x] w fun e w' => e = .returned (.tuple #[]) ∧ w.grownBy w' (blk A) ∧ Kz w w' := by
  rcases hA with ⟨rfl, rfl, rfl⟩ | ⟨g, cur, rfl, hB, hbx, h3, h1, hc⟩
  · go_enter Tryz.func100, Tryz.ntmps100
    go_wp2_with fail
    go_loopw [11] (fun i wr => i = .int .i64 0 ∧ w = wr) (fun _ _ => 0)
    case atStart => exact ⟨rfl, rfl⟩
    case round =>
      obtain ⟨rfl, rfl⟩ := hrel
      go_wp2_with fail
      go_end0
      exact ⟨rfl, ⟨rfl, rfl, rfl, Nat.le_refl _, fun _ _ _ => rfl⟩, Kz.refl _⟩
  · have gl : (n : Int) ≤ (c : Int) := by omega
    have hKz : Hid (∀ w', w.grownBy w' (some g) → (∃ cur', Box w' g 9 cur' ∧ cur'.size = c) → Kz w w') := hideP fun w' hg ⟨c', hb, hs⟩ => Kz.of_grown hg hbx ⟨c', hb, by omega⟩
    have hS : (∃ cur, Box w g 9 cur ∧ cur.size = c) ∧ w.grownBy w (some g) := ⟨⟨cur, hbx, by omega⟩, ⟨rfl, rfl, rfl, Nat.le_refl _, fun _ _ _ => rfl⟩⟩
    clear hbx h3
    go_enter Tryz.func100, Tryz.ntmps100
    go_wp2_with fail
    go_loopw [11] (fun i wr => ∃ k : Nat, k ≤ c ∧ i = .int .i64 k ∧ (∃ cur, Box wr g 9 cur ∧ cur.size = c) ∧ w.grownBy wr (some g)) (fun i _ => c - (intOf i).toNat)
    case atStart => exact ⟨0, Nat.zero_le _, rfl, hS⟩
    case round =>
      clear hS
      obtain ⟨k, hk, rfl, ⟨cr, hcr, hsz⟩, hgr⟩ := hrel
      by_cases hkc : k < c
      · have g1 : (0 : Int) ≤ (k : Int) := by omega
        have g2 : (k : Int) < (c : Int) := by omega
        have hi0 : k < cr.size := by omega
        have d0 := hcr.cell k (v := cr[k]) (by simp [hi0])
        have f0 := hcr.frozen k
        have o1 := hcr.set k (.string x)
        have ga := grown_set wr g k (.string x)
        have HN := hideP (show (∃ cur, Box (wr.setCell ⟨g, k, none⟩ (.string x)) g 9 cur ∧ cur.size = c) ∧ w.grownBy (wr.setCell ⟨g, k, none⟩ (.string x)) (some g) from ⟨⟨_, o1, by simp [hsz]⟩, ⟨ga.os.trans hgr.os, ga.tape.trans hgr.tape, ga.output.trans hgr.output, Nat.le_trans hgr.size ga.size, fun i hi hne => (ga.block i (Nat.lt_of_lt_of_le hi hgr.size) hne).trans (hgr.block i hi hne)⟩⟩)
        clear o1 hcr hgr hsz ga
        go_wp2_with fail
        go_roundw
        case rel => exact ⟨k + 1, by omega, by go_num, HN.out⟩
        case measure => simp [intOf]; omega
      · have HF := hideP (hKz.out wr hgr ⟨cr, hcr, hsz⟩)
        clear hcr
        go_wp2_with fail
        go_end0
        exact ⟨rfl, hgr, HF.out⟩

set_option maxHeartbeats 1000000 in
set_option maxRecDepth 100000 in
theorem spoilI_w (B n c : Nat) (A : Option Addr) (x : Int) (w : World) (hA : Wr w B 3 1 A n c) :
    Calls Tryz.prog 37 #[.slice A n c, .int .i64 x] w fun e w' => e = .returned (.tuple #[]) ∧ w.grownBy w' (blk A) ∧ Kz w w' := by
  rcases hA with ⟨rfl, rfl, rfl⟩ | ⟨g, cur, rfl, hB, hbx, h3, h1, hc⟩
  · go_enter Tryz.func37, Tryz.ntmps37
    go_wp2_with fail
    go_loopw [11] (fun i wr => i = .int .i64 0 ∧ w = wr) (fun _ _ => 0)
    case atStart => exact ⟨rfl, rfl⟩
    case round =>
      obtain ⟨rfl, rfl⟩ := hrel
      go_wp2_with fail
      go_end0
      exact ⟨rfl, ⟨rfl, rfl, rfl, Nat.le_refl _, fun _ _ _ => rfl⟩, Kz.refl _⟩
  · have gl : (n : Int) ≤ (c : Int) := by omega
    have hKz : Hid (∀ w', w.grownBy w' (some g) → (∃ cur', Box w' g 3 cur' ∧ cur'.size = c) → Kz w w') := hideP fun w' hg ⟨c', hb, hs⟩ => Kz.of_grown hg hbx ⟨c', hb, by omega⟩
    have hS : (∃ cur, Box w g 3 cur ∧ cur.size = c) ∧ w.grownBy w (some g) := ⟨⟨cur, hbx, by omega⟩, ⟨rfl, rfl, rfl, Nat.le_refl _, fun _ _ _ => rfl⟩⟩
    clear hbx h3
    go_enter Tryz.func37, Tryz.ntmps37
    go_wp2_with fail
    go_loopw [11] (fun i wr => ∃ k : Nat, k ≤ c ∧ i = .int .i64 k ∧ (∃ cur, Box wr g 3 cur ∧ cur.size = c) ∧ w.grownBy wr (some g)) (fun i _ => c - (intOf i).toNat)
    case atStart => exact ⟨0, Nat.zero_le _, rfl, hS⟩
    case round =>
      clear hS
      obtain ⟨k, hk, rfl, ⟨cr, hcr, hsz⟩, hgr⟩ := hrel
      by_cases hkc : k < c
      · have g1 : (0 : Int) ≤ (k : Int) := by omega
        have g2 : (k : Int) < (c : Int) := by omega
        have hi0 : k < cr.size := by omega
        have d0 := hcr.cell k (v := cr[k]) (by simp [hi0])
        have f0 := hcr.frozen k
        have o1 := hcr.set k (.int .i64 x)
        have ga := grown_set wr g k (.int .i64 x)
        have HN := hideP (show (∃ cur, Box (wr.setCell ⟨g, k, none⟩ (.int .i64 x)) g 3 cur ∧ cur.size = c) ∧ w.grownBy (wr.setCell ⟨g, k, none⟩ (.int .i64 x)) (some g) from ⟨⟨_, o1, by simp [hsz]⟩, ⟨ga.os.trans hgr.os, ga.tape.trans hgr.tape, ga.output.trans hgr.output, Nat.le_trans hgr.size ga.size, fun i hi hne => (ga.block i (Nat.lt_of_lt_of_le hi hgr.size) hne).trans (hgr.block i hi hne)⟩⟩)
        clear o1 hcr hgr hsz ga
        go_wp2_with fail
        go_roundw
        case rel => exact ⟨k + 1, by omega, by go_num, HN.out⟩
        case measure => simp [intOf]; omega
      · have HF := hideP (hKz.out wr hgr ⟨cr, hcr, hsz⟩)
        clear hcr
        go_wp2_with fail
        go_end0
        exact ⟨rfl, hgr, HF.out⟩

set_option maxHeartbeats 1000000 in
set_option maxRecDepth 100000 in
theorem spoilO_w (B n c : Nat) (A : Option Addr) (x : Opr) (w : World) (hA : Wr w B 71 4 A n c) :
    Calls Tryz.prog 99 #[.slice A n c, .agg #[.int .i64 x.kind, .string x.key, .string x.src, .int .i64 x.n]] w fun e w' => e = .returned (.tuple #[]) ∧ w.grownBy w' (blk A) ∧ Kz w w' := by
  have hb := (Below.refl w.heap.size w).alloc (Nat.le_refl _) (.cells #[.int .i64 x.kind, .string x.key, .string x.src, .int .i64 x.n] 71)
  rcases hA with ⟨rfl, rfl, rfl⟩ | ⟨g, cur, rfl, hB, hbx, h3, h1, hc⟩
  · go_enter Tryz.func99, Tryz.ntmps99
    go_wp2_with fail
    generalize w.alloc _ = w1 at hb ⊢
    generalize hgx : w.heap.size = gx at hb ⊢
    go_loopw [11] (fun i wr => i = .int .i64 0 ∧ w1 = wr) (fun _ _ => 0)
    case atStart => exact ⟨rfl, rfl⟩
    case round =>
      obtain ⟨rfl, rfl⟩ := hrel
      have HB := hideP hb
      clear hb
      go_wp2_with fail
      go_end0
      have hb := HB.out
      subst hgx
      exact ⟨rfl, ⟨hb.os, hb.tape, hb.output, hb.size, fun k hk _ => hb.block k hk⟩, Kz.of_below hb⟩
  · have hlt := hbx.lt
    have hS : SpHO w g c w.heap.size x (w.alloc (.cells #[.int .i64 x.kind, .string x.key, .string x.src, .int .i64 x.n] 71)) := ⟨⟨cur, hbx.alloc _, h3⟩, Box.new _ _ _, by omega, ⟨hb.os, hb.tape, hb.output, hb.size, fun k hk _ => hb.block k hk⟩⟩
    have gl : (n : Int) ≤ (c : Int) := by omega
    have hKz : Hid (∀ w', w.grownBy w' (some g) → (∃ cur', Box w' g 71 cur' ∧ cur'.size = c * 4) → Kz w w') := hideP fun w' hg ⟨c', hb, hs⟩ => Kz.of_grown hg hbx ⟨c', hb, by omega⟩
    clear hbx h3
    go_enter Tryz.func99, Tryz.ntmps99
    go_wp2_with fail
    generalize w.alloc _ = w1 at hS ⊢
    generalize w.heap.size = gx at hS ⊢
    go_loopw [11] (fun i wr => ∃ k : Nat, k ≤ c ∧ i = .int .i64 k ∧ SpHO w g c gx x wr) (fun i _ => c - (intOf i).toNat)
    case atStart => exact ⟨0, Nat.zero_le _, rfl, hS⟩
    case round =>
      clear hS
      obtain ⟨k, hk, rfl, hS⟩ := hrel
      obtain ⟨cr, hcr, hsz⟩ := hS.bx
      by_cases hkc : k < c
      · have g1 : (0 : Int) ≤ (k : Int) := by omega
        have g2 : (k : Int) < (c : Int) := by omega
        have z0 := hS.x.cell 0 (v := .int .i64 x.kind) rfl
        have z1 := hS.x.cell 1 (v := .string x.key) rfl
        have z2 := hS.x.cell 2 (v := .string x.src) rfl
        have z3 := hS.x.cell 3 (v := .int .i64 x.n) rfl
        obtain ⟨⟨⟨_, d0⟩, ⟨_, d1⟩, ⟨_, d2⟩, ⟨_, d3⟩, f0, f1, f2, f3⟩, ho⟩ := box_set4 hcr (k * 4) (by omega) x
        have HN : Hid (SpHO w g c gx x (set4 wr g (k * 4) x)) := hideP ⟨⟨_, ho, by simp [hsz]⟩, box_other4 hS.x hS.ne x, hS.ne, grownO_trans hS.gr (grown_set4 wr g (k * 4) x)⟩
        clear ho hcr hS hsz
        go_wp2_with fail
        go_roundw
        case rel => exact ⟨k + 1, by omega, by go_num, HN.out⟩
        case measure => simp [intOf]; omega
      · have hgr := hS.gr
        have HF := hideP (hKz.out wr hgr ⟨cr, hcr, hsz⟩)
        clear hcr hS
        go_wp2_with fail
        go_end0
        exact ⟨rfl, hgr, HF.out⟩
end Go.Proofs.YtefdipjhjgmokaaGreatDoor
