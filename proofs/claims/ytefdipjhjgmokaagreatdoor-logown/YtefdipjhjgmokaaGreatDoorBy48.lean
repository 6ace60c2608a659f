/-
  rokeep.LogOwn: the walk.
-/
import Derived.Test.YtefdipjhjgmokaaGreatDoorBy31
import Derived.Test.YtefdipjhjgmokaaGreatDoorBy35
import Derived.Test.YtefdipjhjgmokaaGreatDoorBy44
import Derived.Test.YtefdipjhjgmokaaGreatDoorBy45
import Derived.Test.YtefdipjhjgmokaaGreatDoorBy26
import Derived.Test.YtefdipjhjgmokaaGreatDoorBy32
import Derived.Test.YtefdipjhjgmokaaGreatDoorBy33
import Derived.Test.YtefdipjhjgmokaaGreatDoorBy40
import Derived.Test.YtefdipjhjgmokaaGreatDoorBy43
import Derived.Test.YtefdipjhjgmokaaGreatDoorBy34
import Derived.Test.YtefdipjhjgmokaaGreatDoorBy47
import Derived.Test.YtefdipjhjgmokaaGreatDoorBy19
import Derived.Deep.RegionHeld3
set_option linter.unusedVariables false
set_option linter.unusedSimpArgs false
namespace Go.Proofs.YtefdipjhjgmokaaGreatDoor
open Go.RowKit

def LoI1 (w : World) (g gc : Nat) (A : Option Addr) (ce : Nat) (xs : List Em) (r0 : Sr) (i : Value) (wr : World) : Prop :=
  ∃ (k : Nat) (s : Ms) (c : Cs), k ≤ xs.length ∧ i = .int .i64 k ∧ LoH w g gc A ce xs [[(xs.map entOf).take k]] [[(xs.map entOf).take k]] [r0] s c wr
/-- the twin is written -/
def LoZ (w : World) (g gc : Nat) (A : Option Addr) (ce : Nat) (xs : List Em) (ct ca : List (List (List Ent))) (st : List Sr) (s : Ms) (c : Cs) (x : Em) (gx gy n0 : Nat) (vs vo : Value) (p q : Value) (W : World) : Prop :=
  p = .pointer (some ⟨gx, 0, none⟩) ∧ q = .pointer (some ⟨gy, 0, none⟩) ∧ ∃ (g1 g2 g3 : Nat) (L : List Rw), r1_ x g1 ∈ L ∧ r2_ x vs g2 ∈ L ∧ r3_ x vo g3 ∈ L ∧
    LoK w g gc A ce xs ct ca st s c x gx gy n0 (.slice (some ⟨g1, 0, none⟩) x.d.length (x.d.length + 3)) (.slice (some ⟨g2, 0, none⟩) x.m.cs.length (x.m.cs.length + 3)) (.slice (some ⟨g3, 0, none⟩) x.m.os.length (x.m.os.length + 3)) L W
set_option maxHeartbeats 8000000 in
set_option maxRecDepth 100000 in
theorem lo_walk (D M L : Option Addr) (cd cm cl : Nat) (ds ms : List Cl) (zs : List Int) (w : World)
    (hD : LS w D ds) (hDl : ds.length ≤ cd) (hDc : cd ≤ 9223372036854775807) (hDn : D = none → cd = 0)
    (hM : LS w M ms) (hMl : ms.length ≤ cm) (hMc : cm ≤ 9223372036854775807) (hMn : M = none → cm = 0)
    (hL : IS w L zs) (hLl : zs.length ≤ cl) (hLc : cl ≤ 9223372036854775807) (hLn : L = none → cl = 0) (hG : Gl w) :
    Calls Tryz.prog 4 #[.slice D ds.length cd, .slice M ms.length cm, .slice L zs.length cl] w fun e w' => e = .returned (.bool true) ∧ Below w.heap.size w w' := by
  have HLS := hideP (fun (W : World) (hb : Below w.heap.size w W) => show IS W L zs ∧ Gl W from ⟨hL.below hb, hG.below hb⟩)
  go_enter Tryz.func4, Tryz.ntmps4
  go_wp2_with fail
  refine (mbegun_any _).mono ?_
  rintro e w1 ⟨rfl, hb1⟩
  replace hD := hD.below hb1
  replace hM := hM.below hb1
  replace hL := hL.below hb1
  clear hG
  go_wp2_with fail
  refine (cbegun_any _).mono ?_
  rintro e w2 ⟨rfl, hb2⟩
  replace hD := hD.below hb2
  replace hM := hM.below hb2
  replace hL := hL.below hb2
  have b2 := hb1.trans (hb2.mono hb1.size)
  clear hb1 hb2
  go_wp2_with fail
  refine (show Calls Tryz.prog 23 #[.int .i64 1] _ (RetNm _ 1) from mnew_ok 1 _ (by decide) (by decide)).mono ?_
  rintro e w3 ⟨s, rfl, hsx, hso, hsct, hb3⟩
  replace hD := hD.below hb3
  replace hM := hM.below hb3
  replace hL := hL.below hb3
  have b3 := b2.trans (hb3.mono b2.size)
  replace hso := hso.mono b2.size
  clear b2 hb3
  go_wp2_with fail
  refine (kmap_is L cl zs _ hL (by omega)).mono ?_
  rintro e w4 ⟨Am, ca, O, co, rfl, hmo, hb4⟩
  replace hD := hD.below hb4
  replace hM := hM.below hb4
  replace hL := hL.below hb4
  have b4 := b3.trans (hb4.mono b3.size)
  replace hso := hso.below hb4
  clear b3 hb4
  go_wp2_with fail
  refine (pairs_is L cl zs _ hL hLl hLc hLn).mono ?_
  rintro e w5 ⟨As, cs', l, rfl, hsv, hsm, hvs, hb5⟩
  replace hD := hD.below hb5
  replace hM := hM.below hb5
  have b5 := b4.trans (hb5.mono b4.size)
  replace hso := hso.below hb5
  have HN := hideP (cnew_ok 1 1 ⟨Am, ca, mpC zs, O, co, mpO zs⟩ As cs' l w5 (by decide) (by decide) (by decide) (by decide) (hmo.below hb5).ms hsv.ps (mp_ok zs) hsm.ok)
  simp only at HN
  clear hb5 b4 hmo hsv hL
  go_wp2_with fail
  refine HN.out.mono ?_
  clear HN
  rintro e w6 ⟨c, rfl, hok, hct0, hst0, hb6⟩
  have hscF : ∀ q, s.F q → ¬ c.F q := fun q hs hc => by have := (hso.lo hs).2; have := (hok.lo hc).1; omega
  have b6 := b5.trans (hb6.mono b5.size)
  have hok6 := hok.mono b5.size
  replace hso := hso.below hb6
  replace hD := hD.below hb6
  replace hM := hM.below hb6
  clear hok hb6 b5
  generalize hr0 : (⟨valOf l, mpC zs, mpO zs, []⟩ : Sr) = r0 at hst0
  have hr00 := hideP (show r0.bs = [] by rw [← hr0])
  have HR0 := hideP (show r0.v = valOf l by rw [← hr0])
  have HVS := hideP hvs
  clear hr0 hsm hvs
  go_wp2_with fail
  refine (entries_any D M cd cm ds ms _ hD hDl hDc hDn hM).mono ?_
  rintro e w7 ⟨Ae, ce, xs, rfl, hew, hgd, hxl, hb7⟩
  generalize hg : s.g = g at ⊢
  generalize hgc : c.s.g = gc at ⊢
  have hI : LoI1 w g gc Ae ce xs r0 (.int .i64 0) w7 := ⟨0, s, c, Nat.zero_le _, rfl, hso.below hb7, hok6.below hb7, hg, hgc, by rw [hsct]; rfl, by rw [hct0]; rfl, by rw [hst0]; rfl, hscF, hew.mono b6.size, Apa.fresh hew hso (Nat.le_refl _), CAp.fresh hew hok6 (Nat.le_refl _), b6.trans (hb7.mono b6.size)⟩
  have HGD := hideP hgd
  have hcap := hew.caps
  have hx24 : xs.length ≤ 24 := by omega
  clear hD hM hDl hDc hDn hMl hMc hMn hok6 hct0 hst0 hew hgd b6 hb7 hg hgc hxl hso hscF hsct hsx
  go_wp2_with fail
  go_loopw [68] (LoI1 w g gc Ae ce xs r0) (fun i _ => xs.length - (intOf i).toNat)
  case atStart => exact hI
  case round =>
    clear hI
    obtain ⟨k, s, c, hk, rfl, h⟩ := hrel
    by_cases hlt : k < xs.length
    · obtain ⟨bb, oo, hA, hbl, p0, p1, p2, p3⟩ := h.ew.el.cells k xs[k] (List.getElem?_eq_getElem hlt)
      have hes := h.ew.el.es _ (List.getElem_mem hlt)
      have hwe := h.ew.we (List.getElem_mem hlt)
      have hgd := HGD.out _ (List.getElem_mem hlt)
      have hxm : xs[k] ∈ xs := List.getElem_mem hlt
      generalize hxk : xs[k] = x at p0 p1 p2 p3 hes hwe hgd hxm
      have al1 := (Below.refl wr.heap.size wr).alloc (Nat.le_refl _) (.cells (emC x) 42)
      have al2 := al1.alloc (by simp) (.cells (emC x) 42)
      have bx1 := (Box.new wr 42 (emC x)).alloc (.cells (emC x) 42)
      have bx2 := Box.new (wr.alloc (.cells (emC x) 42)) 42 (emC x)
      rw [World.size_alloc] at bx2
      have hK0 : LoK w g gc Ae ce xs [[(xs.map entOf).take k]] [[(xs.map entOf).take k]] [r0] s c x wr.heap.size (wr.heap.size + 1) (wr.heap.size + 2) (.slice x.D x.d.length x.c) (.slice x.m.A x.m.cs.length x.m.ca) (.slice x.m.O x.m.os.length x.m.co) [] ((wr.alloc (.cells (emC x) 42)).alloc (.cells (emC x) 42)) :=
        ⟨h.below al2, bx1, bx2, by omega, fun e => by have := h.occ_lt e; omega, fun e => by have := h.occ_lt e; omega, h.be.size, by have := h.be.size; omega, by simp, by have := h.be.size; omega, by simp⟩
      have HK := hideP hK0
      obtain ⟨l1, l2, l3⟩ := hgd.lens
      obtain ⟨cp1, cp2⟩ := hwe.ops.caps
      have HRO := hideP (fun a0 a2 a3 Lr W p (hp : p = Value.agg #[.int .i64 (-7), .string ⟨#[]⟩, .string ⟨#[]⟩, .int .i64 0]) (K : LoK w g gc Ae ce xs [[(xs.map entOf).take k]] [[(xs.map entOf).take k]] [r0] s c x wr.heap.size (wr.heap.size + 1) (wr.heap.size + 2) a0 a2 a3 Lr W) =>
        show Calls Tryz.prog 25 #[.slice x.D x.d.length x.c, p] W (fun e w' => ∃ g1, e = .returned (.slice (some ⟨g1, 0, none⟩) x.d.length (x.d.length + 3)) ∧ LoK w g gc Ae ce xs [[(xs.map entOf).take k]] [[(xs.map entOf).take k]] [r0] s c x wr.heap.size (wr.heap.size + 1) (wr.heap.size + 2) a0 a2 a3 (r1_ x g1 :: Lr) w') from by
          subst hp
          refine (roomyO_any x.D x.c x.d opM W (K.h.ew.el.es _ hxm).ops cp1 cp2 (by omega)).mono ?_
          rintro e w' ⟨g1, rfl, ho, hb⟩
          unfold OO at ho
          rw [show x.d.length + 3 = x.d.length + 3 from rfl] at ho
          exact ⟨g1, rfl, K.add hb (r1_ x g1) ho (show (71 : TypeId) ≠ 42 by decide)⟩)
      have HRS := hideP (fun a0 a2 a3 Lr W p (hp : p = Value.string ⟨#[109, 97, 114, 107]⟩) (K : LoK w g gc Ae ce xs [[(xs.map entOf).take k]] [[(xs.map entOf).take k]] [r0] s c x wr.heap.size (wr.heap.size + 1) (wr.heap.size + 2) a0 a2 a3 Lr W) =>
        show Calls Tryz.prog 26 #[.slice x.m.A x.m.cs.length x.m.ca, p] W (fun e w' => ∃ g2, e = .returned (.slice (some ⟨g2, 0, none⟩) x.m.cs.length (x.m.cs.length + 3)) ∧ LoK w g gc Ae ce xs [[(xs.map entOf).take k]] [[(xs.map entOf).take k]] [r0] s c x wr.heap.size (wr.heap.size + 1) (wr.heap.size + 2) a0 a2 a3 (r2_ x p g2 :: Lr) w') from by
          subst hp
          have hm := (K.h.ew.el.es _ hxm).map
          have hr := roomyS_any x.m.A x.m.ca (x.m.cs.map Value.string) ⟨#[109, 97, 114, 107]⟩ W hm.cuts (by rw [List.length_map]; exact hm.lc) hm.nc (by simp [Value.oneCell']) (by rw [List.length_map]; omega)
          rw [List.length_map] at hr
          refine hr.mono ?_
          rintro e w' ⟨g2, rfl, ho, hb⟩
          unfold OR at ho
          rw [List.length_map] at ho ⊢
          exact ⟨g2, rfl, K.add hb (r2_ x _ g2) ho (show (9 : TypeId) ≠ 42 by decide)⟩)
      have HRI := hideP (fun a0 a2 a3 Lr W p (hp : p = Value.int .i64 (-7)) (K : LoK w g gc Ae ce xs [[(xs.map entOf).take k]] [[(xs.map entOf).take k]] [r0] s c x wr.heap.size (wr.heap.size + 1) (wr.heap.size + 2) a0 a2 a3 Lr W) =>
        show Calls Tryz.prog 27 #[.slice x.m.O x.m.os.length x.m.co, p] W (fun e w' => ∃ g3, e = .returned (.slice (some ⟨g3, 0, none⟩) x.m.os.length (x.m.os.length + 3)) ∧ LoK w g gc Ae ce xs [[(xs.map entOf).take k]] [[(xs.map entOf).take k]] [r0] s c x wr.heap.size (wr.heap.size + 1) (wr.heap.size + 2) a0 a2 a3 (r3_ x p g3 :: Lr) w') from by
          subst hp
          have hm := (K.h.ew.el.es _ hxm).map
          have hr := roomyI_any x.m.O x.m.co (x.m.os.map (Value.int .i64)) (-7) W hm.own.vs (by rw [List.length_map]; exact hm.lo) hm.no (by simp [Value.oneCell']) (by rw [List.length_map]; omega)
          rw [List.length_map] at hr
          refine hr.mono ?_
          rintro e w' ⟨g3, rfl, ho, hb⟩
          unfold OR at ho
          rw [List.length_map] at ho ⊢
          exact ⟨g3, rfl, K.add hb (r3_ x _ g3) ho (show (3 : TypeId) ≠ 42 by decide)⟩)
      have g1 : (0 : Int) ≤ (k : Int) := by omega
      have g2 : (k : Int) < (xs.length : Int) := by omega
      have HOC := hideP (fun q (e : Occ s c Ae xs q) => show q < wr.heap.size + 2 by have := h.occ_lt e; omega)
      have HAO := hideP (add_one ((xs.map entOf).take k) (entOf x) hgd.chk hgd.bare (by rw [List.length_take, List.length_map]; omega))
      have HTK := hideP (show (xs.map entOf).take k ++ [entOf x] = (xs.map entOf).take (k + 1) by rw [List.take_succ_eq_append_getElem (by simpa using hlt)]; simp [hxk])
      have HGE := hideP hgd
      clear h hes hwe al1 al2 bx1 bx2 hK0 cp1 cp2 l1 l2 l3
      unfold emC at HK
      have HA := hideP hA
      rw [hA]
      go_wp2_with fail
      have hK := HK.out
      clear HK
      have HSC := hideP (fun a0 a2 a3 Lr W (K : LoK w g gc Ae ce xs [[(xs.map entOf).take k]] [[(xs.map entOf).take k]] [r0] s c x wr.heap.size (wr.heap.size + 1) (wr.heap.size + 2) a0 a2 a3 Lr W) => K.gxc)
      have HSY := hideP (fun a0 a2 a3 Lr W (K : LoK w g gc Ae ce xs [[(xs.map entOf).take k]] [[(xs.map entOf).take k]] [r0] s c x wr.heap.size (wr.heap.size + 1) (wr.heap.size + 2) a0 a2 a3 Lr W) => K.gyc)
      generalize (wr.alloc _).alloc _ = w1 at hK ⊢
      generalize hgx : wr.heap.size = gx at hK HRO HRS HRI HSC HSY HOC ⊢
      replace hK := hK.below (Below.refl w1.heap.size w1).drew
      obtain ⟨⟨y0, y2, y3⟩, f0, f2, f3⟩ := HSY.out _ _ _ _ _ hK
      have nxy : ¬ gx = gx + 1 := by omega
      go_cut [13, 14] (LoZ w g gc Ae ce xs [[(xs.map entOf).take k]] [[(xs.map entOf).take k]] [r0] s c x gx (gx + 1) (gx + 2) (.string ⟨#[109, 97, 114, 107]⟩) (.int .i64 (-7)))
      case first =>
        go_region_held3 (fun W => W.cell? ⟨gx, 0, none⟩ = some (.slice x.D x.d.length x.c) ∧ W.cell? ⟨gx, 2, none⟩ = some (.slice x.m.A x.m.cs.length x.m.ca) ∧ W.cell? ⟨gx, 3, none⟩ = some (.slice x.m.O x.m.os.length x.m.co)) (first | with_reducible exact HSC.out _ _ _ _ _ hK | with_reducible exact HSC.out _ _ _ _ _ (LoK.st0 hK _) | with_reducible exact HSC.out _ _ _ _ _ (LoK.st2 hK _ _) | with_reducible exact HSC.out _ _ _ _ _ (LoK.st2 (LoK.st0 hK _) _ _) | with_reducible exact HSC.out _ _ _ _ _ (LoK.st0 (LoK.st2 hK _ _) _)) (first
          | (go_at_call 25; refine (HRO.out _ _ _ _ _ _ (by with_reducible rfl) (by with_reducible first | exact hK | exact LoK.st0 hK _ | exact LoK.st2 hK _ _)).mono ?_; rintro e wn ⟨g1, rfl, hK⟩; obtain ⟨⟨y0, y2, y3⟩, f0, f2, f3⟩ := HSY.out _ _ _ _ _ hK)
          | (go_at_call 26; refine (HRS.out _ _ _ _ _ _ (by with_reducible rfl) (by with_reducible first | exact hK | exact LoK.st0 hK _ | exact LoK.st2 hK _ _)).mono ?_; rintro e wn ⟨g2, rfl, hK⟩; obtain ⟨⟨y0, y2, y3⟩, f0, f2, f3⟩ := HSY.out _ _ _ _ _ hK)
          | (go_at_call 27; refine (HRI.out _ _ _ _ _ _ (by with_reducible rfl) (by with_reducible first | exact hK | exact LoK.st0 hK _ | exact LoK.st2 hK _ _)).mono ?_; rintro e wn ⟨g3, rfl, hK⟩; obtain ⟨⟨y0, y2, y3⟩, f0, f2, f3⟩ := HSY.out _ _ _ _ _ hK))
        all_goals
          go_wp2_with fail
          go_meet
          case rel => (refine ⟨rfl, rfl, g1, g2, g3, _, ?_, ?_, ?_, by with_reducible first | exact hK | exact LoK.st0 hK _ | exact LoK.st2 hK _ _ | exact LoK.st2 (LoK.st0 hK _) _ _ | exact LoK.st0 (LoK.st2 hK _ _) _⟩ <;> simp)
      case rest =>
        clear hK HRO HRS HRI HSC HSY y0 y2 y3 f0 f2 f3
        obtain ⟨rfl, rfl, g1, g2, g3, Lr, m1, m2, m3, hK⟩ := hcut
        have hY := hK.y m1 m2 m3 HOC.out
        have hy1 := hideP hY.n1
        clear hK m1 m2 m3 HOC
        obtain ⟨hl4, hl12, hl13⟩ := HGE.out.lens
        obtain ⟨q1, q2⟩ := HAO.out
        generalize hct0 : [[(xs.map entOf).take k]] = ct0 at hY q1 q2
        generalize hct1 : [[(xs.map entOf).take k ++ [entOf x]]] = ct1 at q2
        generalize hn1 : wc.heap.size = n1 at hY
        have HADM := hideP (fun s c W p (hp : p = Value.agg #[.slice (some ⟨g1, 0, none⟩) x.d.length (x.d.length + 3), .bool x.isM, .slice (some ⟨g2, 0, none⟩) x.m.cs.length (x.m.cs.length + 3), .slice (some ⟨g3, 0, none⟩) x.m.os.length (x.m.os.length + 3)]) (K : LoY w g gc Ae ce xs ct0 ct0 [r0] s c x gx (gx + 1) n1 g1 g2 g3 W) =>
          show Calls Tryz.prog 14 #[.pointer (some ⟨g, 0, none⟩), .int .i64 0, p] W (fun e w' => ∃ s', e = .returned (.int .i64 0) ∧ LoY w g gc Ae ce xs ct1 ct0 [r0] s' c x gx (gx + 1) n1 g1 g2 g3 w') from by
            have hh := madd_any s _ 0 (twin x g1 g2 g3) W K.h.so (K.es hxm)
            rw [K.h.sct, K.h.sg] at hh
            rw [show entOf (twin x g1 g2 g3) = entOf x from rfl, q1, q2] at hh
            subst hp
            refine hh.mono ?_
            rintro e w' ⟨s', rfl, T⟩
            exact ⟨s', rfl, K.s_ T⟩)
        have HADC := hideP (fun s c W p (hp : p = Value.agg #[.slice (some ⟨g1, 0, none⟩) x.d.length (x.d.length + 3), .bool x.isM, .slice (some ⟨g2, 0, none⟩) x.m.cs.length (x.m.cs.length + 3), .slice (some ⟨g3, 0, none⟩) x.m.os.length (x.m.os.length + 3)]) (K : LoY w g gc Ae ce xs ct1 ct0 [r0] s c x gx (gx + 1) n1 g1 g2 g3 W) =>
          show Calls Tryz.prog 14 #[.pointer (some ⟨gc, 0, none⟩), .int .i64 0, p] W (fun e w' => ∃ c', e = .returned (.int .i64 0) ∧ LoY w g gc Ae ce xs ct1 ct1 [r0] s c' x gx (gx + 1) n1 g1 g2 g3 w') from by
            have hh := cadd_any c _ 0 (twin x g1 g2 g3) W K.h.co (K.es hxm)
            rw [K.h.cct, K.h.cg, K.h.st] at hh
            rw [show entOf (twin x g1 g2 g3) = entOf x from rfl, q1, q2] at hh
            subst hp
            refine hh.mono ?_
            rintro e w' ⟨c', rfl, T⟩
            exact ⟨c', rfl, K.c_ T⟩)
        have HSE := hideP (fun s c W p q (hp : p = Value.agg #[.slice x.D x.d.length x.c, .bool x.isM, .slice x.m.A x.m.cs.length x.m.ca, .slice x.m.O x.m.os.length x.m.co]) (hq : q = Value.agg #[.slice (some ⟨g1, 0, none⟩) x.d.length (x.d.length + 3), .bool x.isM, .slice (some ⟨g2, 0, none⟩) x.m.cs.length (x.m.cs.length + 3), .slice (some ⟨g3, 0, none⟩) x.m.os.length (x.m.os.length + 3)]) (K : LoY w g gc Ae ce xs ct1 ct1 [r0] s c x gx (gx + 1) n1 g1 g2 g3 W) =>
          show Calls Tryz.prog 28 #[p, q] W (fun e w' => e = .returned (.bool true) ∧ LoY w g gc Ae ce xs ct1 ct1 [r0] s c x gx (gx + 1) n1 g1 g2 g3 w') from by
            have hh := sameent_any x (twin x g1 g2 g3) W (K.h.ew.el.es _ hxm) (K.es hxm) (by omega)
            rw [sameE_iff.2 (show entOf x = entOf (twin x g1 g2 g3) from rfl)] at hh
            subst hp; subst hq
            refine hh.mono ?_
            rintro e w' ⟨rfl, hb⟩
            exact ⟨rfl, K.below hb⟩)
        have HMO := hideP (fun s c W p q (hp : p = Value.slice (some ⟨g1, 0, none⟩) x.d.length (x.d.length + 3)) (hq : q = Value.agg #[.int .i64 (-7), .string ⟨#[]⟩, .string ⟨#[]⟩, .int .i64 0]) (K : LoY w g gc Ae ce xs ct1 ct1 [r0] s c x gx (gx + 1) n1 g1 g2 g3 W) =>
          show Calls Tryz.prog 29 #[p, q] W (fun e w' => e = .returned (.bool true) ∧ LoY w g gc Ae ce xs ct1 ct1 [r0] s c x gx (gx + 1) n1 g1 g2 g3 w') from by
            subst hp; subst hq
            refine (markO_any _ g1 x.d opM W K.o1 (by omega)).mono ?_
            rintro e w' ⟨rfl, hb⟩
            exact ⟨rfl, K.below hb⟩)
        have HMS := hideP (fun s c W p q (hp : p = Value.slice (some ⟨g2, 0, none⟩) x.m.cs.length (x.m.cs.length + 3)) (hq : q = Value.string ⟨#[109, 97, 114, 107]⟩) (K : LoY w g gc Ae ce xs ct1 ct1 [r0] s c x gx (gx + 1) n1 g1 g2 g3 W) =>
          show Calls Tryz.prog 30 #[p, q] W (fun e w' => e = .returned (.bool true) ∧ w' = W) from by
            have ho := K.o2
            have hh := markS_any _ g2 (x.m.cs.map Value.string) ⟨#[109, 97, 114, 107]⟩ W (by rw [List.length_map]; exact ho) (by rw [List.length_map]; omega)
            rw [List.length_map] at hh
            subst hp; subst hq
            exact hh)
        have HMI := hideP (fun s c W p q (hp : p = Value.slice (some ⟨g3, 0, none⟩) x.m.os.length (x.m.os.length + 3)) (hq : q = Value.int .i64 (-7)) (K : LoY w g gc Ae ce xs ct1 ct1 [r0] s c x gx (gx + 1) n1 g1 g2 g3 W) =>
          show Calls Tryz.prog 31 #[p, q] W (fun e w' => e = .returned (.bool true) ∧ w' = W) from by
            have ho := K.o3
            have hh := markI_any _ g3 (x.m.os.map (Value.int .i64)) (-7) W (by rw [List.length_map]; exact ho) (by rw [List.length_map]; omega)
            rw [List.length_map] at hh
            subst hp; subst hq
            exact hh)
        have HXC := hideP (fun ct ca s c W (K : LoY w g gc Ae ce xs ct ca [r0] s c x gx (gx + 1) n1 g1 g2 g3 W) => K.xc)
        have hYd := hY.below (Below.refl wc.heap.size wc).drew
        clear hY
        go_wp2_with fail
        go_region_held3 (fun W => W.cell? ⟨gx, 0, none⟩ = some (.slice x.D x.d.length x.c) ∧ W.cell? ⟨gx, 1, none⟩ = some (.bool x.isM) ∧ W.cell? ⟨gx, 2, none⟩ = some (.slice x.m.A x.m.cs.length x.m.ca) ∧ W.cell? ⟨gx, 3, none⟩ = some (.slice x.m.O x.m.os.length x.m.co) ∧
          W.cell? ⟨gx + 1, 0, none⟩ = some (.slice (some ⟨g1, 0, none⟩) x.d.length (x.d.length + 3)) ∧ W.cell? ⟨gx + 1, 1, none⟩ = some (.bool x.isM) ∧ W.cell? ⟨gx + 1, 2, none⟩ = some (.slice (some ⟨g2, 0, none⟩) x.m.cs.length (x.m.cs.length + 3)) ∧ W.cell? ⟨gx + 1, 3, none⟩ = some (.slice (some ⟨g3, 0, none⟩) x.m.os.length (x.m.os.length + 3))) (with_reducible exact HXC.out _ _ _ _ _ hYd) (first
          | (go_at_call 14; refine (HADC.out _ _ _ _ (by with_reducible rfl) hYd).mono ?_; rintro e wn ⟨c', rfl, hYd⟩)
          | (go_at_call 14; refine (HADM.out _ _ _ _ (by with_reducible rfl) hYd).mono ?_; rintro e wn ⟨s', rfl, hYd⟩)
          | (go_at_call 28; refine (HSE.out _ _ _ _ _ (by with_reducible rfl) (by with_reducible rfl) hYd).mono ?_; rintro e wn ⟨rfl, hYd⟩)
          | (go_at_call 29; refine (HMO.out _ _ _ _ _ (by with_reducible rfl) (by with_reducible rfl) hYd).mono ?_; rintro e wn ⟨rfl, hYd⟩)
          | (go_at_call 30; refine (HMS.out _ _ _ _ _ (by with_reducible rfl) (by with_reducible rfl) hYd).mono ?_; rintro e wn ⟨rfl, rfl⟩)
          | (go_at_call 31; refine (HMI.out _ _ _ _ _ (by with_reducible rfl) (by with_reducible rfl) hYd).mono ?_; rintro e wn ⟨rfl, rfl⟩))
        as_aux_lemma =>
          clear HADM HADC HSE HMO HMS HMI HXC q1 q2 hl4 hl12 hl13 HAO nxy
          have hgd := HGE.out
          obtain ⟨ht1, ht2, ht3⟩ := ent_text hgd.chk
          have hc0 := hgd.chk
          obtain ⟨_, _, _, _, c0, c1, c2, c3⟩ := hYd.xc
          have hbe := hYd.h.be
          have HEN := hideP (entry_any (twin x g1 g2 g3) wn (hYd.es hxm) (HLS.out wn hbe).2)
          rw [show entOf (twin x g1 g2 g3) = entOf x from rfl, ht1, hc0] at HEN
          have HT := hideP ht3
          generalize bs (entT (entOf x)) = t at HEN HT ht2
          unfold emV emC twin at HEN
          clear ht1 ht3 hc0
          go_wp2_with fail
          refine HEN.out.mono ?_
          clear HEN
          rintro e w4 ⟨rfl, hb4⟩
          have hY4 := hYd.below hb4
          clear hYd hb4 hbe c0 c1 c2 c3
          have HRP := hideP (rdentry_any t w4 (HLS.out w4 hY4.h.be).2 ht2)
          unfold RetRe at HRP
          rw [HT.out] at HRP
          go_wp2_with fail
          refine HRP.out.mono ?_
          clear HRP
          rintro e w5 ⟨p, rfl, hp, hpbd, hpo, hb5⟩
          clear hp hpbd
          have al5 := (Below.refl w5.heap.size w5).alloc (Nat.le_refl _) (.cells (emC p) 42)
          have xp := Box.new w5 42 (emC p)
          have b5 := hb5.trans (al5.mono hb5.size)
          have hp5 := hpo.below al5
          have hplt := hideP (show ∀ k, eB p k → k < (w5.alloc (.cells (emC p) 42)).heap.size from fun k hk => by have := (hpo.we.lo hk).2.1; rw [World.size_alloc]; omega)
          have HB5 := hideP (show w4.heap.size ≤ (w5.alloc (.cells (emC p) 42)).heap.size from b5.size)
          have HRQ := hideP (rdentry_any t (w5.alloc (.cells (emC p) 42)) (HLS.out _ (hY4.below b5).h.be).2 ht2)
          unfold RetRe at HRQ
          rw [HT.out] at HRQ
          unfold emV
          unfold emC at HRQ xp al5 b5 hp5 hplt HB5 ⊢
          clear hpo hb5 al5 ht2
          go_wp2_with fail
          generalize hg5 : w5.heap.size = g5 at xp ⊢
          generalize w5.alloc _ = W5 at HRQ xp b5 hp5 hplt HB5 ⊢
          refine HRQ.out.mono ?_
          clear HRQ hg5
          rintro e w6 ⟨q, rfl, hq, hqbd, hqo, hb6⟩
          have al6 := (Below.refl w6.heap.size w6).alloc (Nat.le_refl _) (.cells (emC q) 42)
          have xq := Box.new w6 42 (emC q)
          have bb6 := hb6.trans (al6.mono hb6.size)
          have b6 := b5.trans (bb6.mono HB5.out)
          have hp6 := hp5.below bb6
          have hq6 := hqo.below al6
          have xp6 := xp.below bb6
          have HW1 := hideP (waste_any _ p _ hp6.we)
          unfold emV emC at HW1
          unfold emV
          unfold emC at xq bb6 b6 hp6 hq6 xp6 ⊢
          clear hqo hb6 al6 bb6 xp hp5 b5
          have z0 := xp6.cell 0 (v := .slice p.D p.d.length p.c) rfl
          have z1 := xp6.cell 1 (v := .bool p.isM) rfl
          have z2 := xp6.cell 2 (v := .slice p.m.A p.m.cs.length p.m.ca) rfl
          have z3 := xp6.cell 3 (v := .slice p.m.O p.m.os.length p.m.co) rfl
          go_wp2_with fail
          refine HW1.out.mono ?_
          clear HW1
          rintro e w7 ⟨rfl, hf7, hk7⟩
          obtain ⟨b7, hq7, xq7⟩ := waste_p hp6 (Nat.le_refl _) b6 hf7 hq6 hplt.out xq
          clear hf7 hk7 z0 z1 z2 z3 xp6 hp6 hq6 xq b6 hplt
          generalize w6.heap.size = g6 at xq7 ⊢
          have hY7 := hY4.below b7
          have HW2 := hideP (waste_any _ _ w7 hY7.eo.we)
          have HQ := hideP (fun (W' : World) (hf : Fr (eB (twin x g1 g2 g3)) w7 W') => hY4.toQ b7 hq7 HB5.out hqbd xq7 hf)
          obtain ⟨_, _, _, _, z0, z1, z2, z3⟩ := hY7.xc
          clear hY7 hY4 hq7 xq7 b7 HB5
          unfold emV emC at HW2
          rw [show (twin x g1 g2 g3).D = some ⟨g1, 0, none⟩ from rfl, show (twin x g1 g2 g3).c = x.d.length + 3 from rfl, show (twin x g1 g2 g3).d = x.d from rfl, show (twin x g1 g2 g3).isM = x.isM from rfl, show (twin x g1 g2 g3).m = ⟨some ⟨g2, 0, none⟩, x.m.cs.length + 3, x.m.cs, some ⟨g3, 0, none⟩, x.m.os.length + 3, x.m.os⟩ from rfl] at HW2
          go_wp2_with fail
          refine HW2.out.mono ?_
          clear HW2
          rintro e w8 ⟨rfl, hf8, hk8⟩
          have hQ8 := HQ.out w8 hf8
          clear HQ hf8 hk8 z0 z1 z2 z3
          have z0 := hQ8.bx.cell 0 (v := .slice x.D x.d.length x.c) rfl
          have z1 := hQ8.bx.cell 1 (v := .bool x.isM) rfl
          have z2 := hQ8.bx.cell 2 (v := .slice x.m.A x.m.cs.length x.m.ca) rfl
          have z3 := hQ8.bx.cell 3 (v := .slice x.m.O x.m.os.length x.m.co) rfl
          have HBN := hideP (bareent_any x w8)
          have HBQ := hideP (fun Db cb => (hq.symm.trans (bare_ent x Db cb).symm : entOf q = _))
          have HBE := hideP (fun W (h : ES W x) => h.bare)
          have HBL := hideP (show (beM x).d.length ≤ 4 by unfold beM; cases x.isM <;> simp [hgd.lens.1])
          clear hq hgd
          unfold emV at HBN
          generalize beM x = b at HBN HBQ HBE HBL
          unfold emC at HBN
          go_wp2_with fail
          refine HBN.out.mono ?_
          clear HBN
          rintro e w9 ⟨rfl, hb9⟩
          clear z0 z1 z2 z3
          have al9 := (Below.refl w9.heap.size w9).alloc (Nat.le_refl _) (.cells (emC b) 42)
          have xb := Box.new w9 42 (emC b)
          have b9 := hb9.trans (al9.mono hb9.size)
          have h9 := hideP hb9.size
          have HBa := hideP (bare_any b.D b.c b.d (w9.alloc (.cells (emC b) 42)) (HBE.out _ ((hQ8.below b9).h.ew.el.es _ hxm)).ops (by have := HBL.out; omega))
          unfold RetBa at HBa
          have HL9 := hideP (show w9.heap.size < (w9.alloc (.cells (emC b) 42)).heap.size by rw [World.size_alloc]; omega)
          unfold emC at HBa xb b9 HL9
          have HB8 := hideP hb9.size
          clear hb9 al9
          go_wp2_with fail
          refine HBa.out.mono ?_
          clear HBa
          rintro e w10 ⟨Db, cb, rfl, hob, hb10⟩
          generalize w9.alloc _ = W9 at xb b9 HL9 hob hb10
          generalize w9.heap.size = g9 at xb HL9 HB8 ⊢
          have xb10 := xb.below hb10
          have b10 := b9.trans (hb10.mono b9.size)
          have f11 : Fr (fun k => k = g9) w10 (w10.setCell ⟨g9, 0, none⟩ (.slice Db (b.d.map bare).length cb)) := Fr.of_set _ _ _ rfl
          have b11 : Below w8.heap.size w8 (w10.setCell ⟨g9, 0, none⟩ (.slice Db (b.d.map bare).length cb)) := f11.below (fun k hk => by rw [hk]; exact HB8.out) b10.size b10
          have xb11 := xb10.set 0 (.slice Db (b.d.map bare).length cb)
          have hob11 := f11.own hob fun k hk e => by have := (World.ownsRow.lt hob k hk).1; have := HL9.out; omega
          have z0 := xb10.cell 0 (v := .slice b.D b.d.length b.c) rfl
          have f0 := xb10.frozen 0
          have hQ11 := hQ8.below b11
          have hEb : ES (w10.setCell ⟨g9, 0, none⟩ (.slice Db (b.d.map bare).length cb)) ⟨Db, cb, b.d.map bare, b.isM, b.m⟩ :=
            ⟨OO.os (B := W9.heap.size) (c := cb) hob11, (HBE.out _ (hQ11.h.ew.el.es _ hxm)).map, fun o ho => hqbd o (by
              have := HBQ.out Db cb
              unfold entOf at this
              injection this with _ a2 _ _
              rw [a2]; exact ho)⟩
          have HSQ := hideP (sameent_any q ⟨Db, cb, b.d.map bare, b.isM, b.m⟩ _ (hQ11.eo.es hqbd) hEb (by
              have := HBQ.out Db cb
              unfold entOf at this
              injection this with _ a2 _ _
              have := HBL.out
              rw [a2, List.length_map]; omega))
          rw [sameE_iff.2 (HBQ.out Db cb)] at HSQ
          have HRel := hideP (fun (w' : World) (hb : Below (w10.setCell ⟨g9, 0, none⟩ (.slice Db (b.d.map bare).length cb)).heap.size (w10.setCell ⟨g9, 0, none⟩ (.slice Db (b.d.map bare).length cb)) w') => (hQ11.below hb).h)
          unfold emV emC at HSQ
          simp only at HSQ
          have hQ10 := (hQ8.below b10).bq
          have q0 := hQ10.cell 0 (v := .slice q.D q.d.length q.c) rfl
          have q1 := hQ10.cell 1 (v := .bool q.isM) rfl
          have q2 := hQ10.cell 2 (v := .slice q.m.A q.m.cs.length q.m.ca) rfl
          have q3 := hQ10.cell 3 (v := .slice q.m.O q.m.os.length q.m.co) rfl
          have y1 := xb10.cell 1 (v := .bool b.isM) rfl
          have y2 := xb10.cell 2 (v := .slice b.m.A b.m.cs.length b.m.ca) rfl
          have y3 := xb10.cell 3 (v := .slice b.m.O b.m.os.length b.m.co) rfl
          have ne1 : ¬ g6 = g9 := by have := hQ8.bq.lt; have := HB8.out; omega
          have ne2 : ¬ g9 = g6 := fun e => ne1 e.symm
          clear hQ10 xb xb10 xb11 hob hob11 hb10 b9 b10 b11 f11 hQ8 hQ11 hEb HBQ HBE HBL HL9 HB8 hqbd h9
          generalize b.d.map bare = bd at HSQ HRel ⊢
          go_wp2_with fail
          refine HSQ.out.mono ?_
          clear HSQ
          rintro e w12 ⟨rfl, hb12⟩
          have hF := HRel.out w12 hb12
          clear HRel hb12 z0 f0 q0 q1 q2 q3 y1 y2 y3 ne1 ne2
          go_wp2_with fail
          go_roundw
          case rel => exact ⟨k + 1, _, _, by omega, by go_num, by rw [← HTK.out, hct1, ← HA.out]; exact hF⟩
          case measure => simp [intOf]; omega
    · obtain rfl : k = xs.length := by omega
      obtain ⟨es, hes⟩ : ∃ es, xs.map entOf = es := ⟨_, rfl⟩
      have hel : es.length = xs.length := by rw [← hes, List.length_map]
      obtain ⟨f1, f2, f3⟩ := close_one es
      rw [hes, List.take_of_length_le (by omega)] at h
      have HES := hideP hes
      have HEL := hideP hel
      have hxs9 : xs.length < 4611686018427387904 := by omega
      have HFW := hideP (show ∀ y : Em, entOf y ∈ es → y.d.length < 4611686018427387904 from fun y hy => by
        rw [← hes] at hy
        obtain ⟨z, hz, hze⟩ := List.mem_map.1 hy
        have h1 := (HGD.out z hz).few
        have h2 : z.d = y.d := congrArg Ent.d hze
        rw [← h2]; omega)
      clear hel
      have HCM := hideP (mclose_any s _ 0 wr h.so)
      rw [h.sct, f1, f2, f3, h.sg] at HCM
      clear hes
      as_aux_lemma =>
      go_wp2_with fail
      refine HCM.out.mono ?_
      clear HCM
      rintro e w8 ⟨s8, rfl, T8⟩
      have h8 := h.s_ T8
      clear h T8
      have HCC := hideP (cclose_any c _ 0 w8 h8.co)
      rw [h8.cct, f1, f2, f3, h8.cg] at HCC
      go_wp2_with fail
      refine HCC.out.mono ?_
      clear HCC
      rintro e w9 ⟨c9, rfl, T9⟩
      rw [h8.st] at T9
      have h9 := h8.c_ T9
      clear h8 T9 f1 f2 f3
      have HLM := hideP (mlog_pw _ s8.g s8.x s8.AI s8.cI s8.ins s8.added w9 h9.so.mg h9.so.gm)
      rw [show logM (ctM s8.ins) = es by have := h9.sct; unfold Ms.ct at this; rw [this, log_one], h9.sg] at HLM
      go_wp2_with fail
      refine HLM.out.mono ?_
      clear HLM
      rintro e w10 ⟨A2, c2, ys, rfl, hys, hew, hb10, _⟩
      have hW : LoW w9 A2 c2 ys w10 := .of hew hb10
      have hy24 : ys.length ≤ 24 := by
        have h1 : ys.length = es.length := by rw [← hys, List.length_map]
        have := HEL.out; omega
      clear hew hb10 hys
      go_wp2_with fail
      go_loopw [181] (LoI2 w9 A2 c2 ys) (fun i _ => ys.length - (intOf i).toNat)
      case atStart => exact ⟨0, Nat.zero_le _, rfl, hW⟩
      case round =>
        clear hW
        obtain ⟨j, hj, rfl, hW⟩ := hrel
        by_cases hjl : j < ys.length
        · as_aux_lemma =>
          obtain ⟨b2, o2, hA2, hbl, p0, p1, p2, p3⟩ := rowE_cells hW.row j ys[j] (List.getElem?_eq_getElem hjl)
          have hym : ys[j] ∈ ys := List.getElem_mem hjl
          generalize ys[j] = y at p0 p1 p2 p3 hym
          have al := (Below.refl wr.heap.size wr).alloc (Nat.le_refl _) (.cells (emC y) 42)
          have hW1 := hW.below al
          have HWS := hideP (waste_any _ y _ (hW1.we y hym))
          have HST := hideP (fun (w' : World) (hf : Fr (eB y) (wr.alloc (.cells (emC y) 42)) w') (hk : Kz (wr.alloc (.cells (emC y) 42)) w') => hW1.step hym hf hk)
          have gj0 : (0 : Int) ≤ (j : Int) := by omega
          have gj1 : (j : Int) < (ys.length : Int) := by omega
          unfold emV at HWS
          unfold emC at HWS HST
          clear al hW hW1
          subst hA2
          go_wp2_with fail
          refine HWS.out.mono ?_
          clear HWS
          rintro e w11 ⟨rfl, hf, hk⟩
          have hN := HST.out w11 hf hk
          clear HST hf hk
          go_wp2_with fail
          go_roundw
          case rel => exact ⟨j + 1, by omega, by go_num, hN⟩
          case measure => simp [intOf]; omega
        · as_aux_lemma =>
          have h10 := h9.below hW.be
          obtain rfl : j = ys.length := by omega
          clear hW h9 hjl hj
          have HLC := hideP (clog_pw c9 _ wr h10.co)
          rw [h10.cct, log_one, h10.cg] at HLC
          go_wp2_with fail
          refine HLC.out.mono ?_
          clear HLC
          rintro e w11 ⟨A3, c3, zz, rfl, hys, hew, hb11, _⟩
          have hW : LoW wr A3 c3 zz w11 := .of hew hb11
          have hz24 : zz.length ≤ 24 := by
            have h1 : zz.length = es.length := by rw [← hys, List.length_map]
            have := HEL.out; omega
          clear hew hb11 hys
          obtain ⟨w12, hw12⟩ : ∃ w12, w12 = wr := ⟨_, rfl⟩
          rw [← hw12] at hW h10
          clear hw12
          go_wp2_with fail
          go_loopw [193] (LoI2 w12 A3 c3 zz) (fun i _ => zz.length - (intOf i).toNat)
          case atStart => exact ⟨0, Nat.zero_le _, rfl, hW⟩
          case round =>
            clear hW
            obtain ⟨j, hj, rfl, hW⟩ := hrel
            by_cases hjl : j < zz.length
            · as_aux_lemma =>
              obtain ⟨b2, o2, hA2, hbl, p0, p1, p2, p3⟩ := rowE_cells hW.row j zz[j] (List.getElem?_eq_getElem hjl)
              have hym : zz[j] ∈ zz := List.getElem_mem hjl
              generalize zz[j] = y at p0 p1 p2 p3 hym
              have al := (Below.refl wr.heap.size wr).alloc (Nat.le_refl _) (.cells (emC y) 42)
              have hW1 := hW.below al
              have HWS := hideP (waste_any _ y _ (hW1.we y hym))
              have HST := hideP (fun (w' : World) (hf : Fr (eB y) (wr.alloc (.cells (emC y) 42)) w') (hk : Kz (wr.alloc (.cells (emC y) 42)) w') => hW1.step hym hf hk)
              have gj0 : (0 : Int) ≤ (j : Int) := by omega
              have gj1 : (j : Int) < (zz.length : Int) := by omega
              unfold emV at HWS
              unfold emC at HWS HST
              clear al hW hW1
              subst hA2
              go_wp2_with fail
              refine HWS.out.mono ?_
              clear HWS
              rintro e w13 ⟨rfl, hf, hk⟩
              have hN := HST.out w13 hf hk
              clear HST hf hk
              go_wp2_with fail
              go_roundw
              case rel => exact ⟨j + 1, by omega, by go_num, hN⟩
              case measure => simp [intOf]; omega
            · as_aux_lemma =>
              have h12 := h10.below hW.be
              obtain rfl : j = zz.length := by omega
              clear hW h10 hjl hj
              have HWT := hideP (mwaits_any _ s8.g s8.x s8.AI s8.cI s8.ins s8.added wr h12.so.mg h12.so.gm)
              rw [h12.sg] at HWT
              go_wp2_with fail
              refine HWT.out.mono ?_
              clear HWT
              rintro e w13 ⟨A4, c4, rfl, how, hb13⟩
              have HSP := hideP (spoilI_w _ _ _ _ 5 w13 (Wr.of_own how))
              rw [show (nV (waitM (ctM s8.ins))).length = (waitM (ctM s8.ins)).length by simp [nV]] at HSP
              have hbk : ∀ k, blk A4 = some k → wr.heap.size ≤ k := fun k hk => (World.ownsRow.lt how k (bo _ _ hk)).1
              generalize (waitM (ctM s8.ins)).length = nw at HSP ⊢
              clear how
              go_wp2_with fail
              refine HSP.out.mono ?_
              clear HSP
              rintro e w14 ⟨rfl, hg14, _⟩
              have hb14 : Below wr.heap.size wr w14 := (Fr.of_grown (F := fun k => wr.heap.size ≤ k) hg14 hbk).below (fun k hk => hk) hb13.size hb13
              have h14 := h12.below hb14
              clear h12 hb13 hg14 hb14 hbk
              have HLM := hideP (mlog_pw _ s8.g s8.x s8.AI s8.cI s8.ins s8.added w14 h14.so.mg h14.so.gm)
              rw [show logM (ctM s8.ins) = es by have := h14.sct; unfold Ms.ct at this; rw [this, log_one], h14.sg] at HLM
              go_wp2_with fail
              refine HLM.out.mono ?_
              clear HLM
              rintro e w15 ⟨A5, c5, y5, rfl, hys, hew, hb15, _⟩
              have h15 := h14.below hb15
              have HEQ := hideP (eqfE_any A5 Ae c5 ce y5 xs w15 hew.el h15.ew.el (fun y hy => HFW.out y (by rw [← hys]; exact List.mem_map_of_mem hy)) (by have := HEL.out; rw [← hys, List.length_map] at this; omega))
              rw [sameL_true (hys.trans HES.out.symm)] at HEQ
              clear h14 hb15 hew hys
              go_wp2_with fail
              refine HEQ.out.mono ?_
              clear HEQ
              rintro e w16 ⟨rfl, hb16⟩
              have h16 := h15.below hb16
              clear h15 hb16
              have HLC := hideP (clog_pw c9 _ w16 h16.co)
              rw [h16.cct, log_one, h16.cg] at HLC
              go_wp2_with fail
              refine HLC.out.mono ?_
              clear HLC
              rintro e w17 ⟨A6, c6, y6, rfl, hys, hew, hb17, _⟩
              have h17 := h16.below hb17
              have HEQ := hideP (eqfE_any A6 Ae c6 ce y6 xs w17 hew.el h17.ew.el (fun y hy => HFW.out y (by rw [← hys]; exact List.mem_map_of_mem hy)) (by have := HEL.out; rw [← hys, List.length_map] at this; omega))
              rw [sameL_true (hys.trans HES.out.symm)] at HEQ
              clear h16 hb17 hew hys
              go_wp2_with fail
              refine HEQ.out.mono ?_
              clear HEQ
              rintro e w18 ⟨rfl, hb18⟩
              have h18 := h17.below hb18
              clear h17 hb18
              have HPR := hideP (pairs_fr L cl zs w18 (HLS.out w18 h18.be).1 hLl hLc hLn)
              go_wp2_with fail
              refine HPR.out.mono ?_
              clear HPR
              rintro e w19 ⟨As, cs', l2, rfl, hsv, hsm, hvs2, hb19, hfr⟩
              have h19 := h18.below hb19
              have hS : LoS w g gc Ae ce xs [[es, []]] [playR r0 (es.take 0)] s8 c9 (playR r0 (es.take 0)).v As cs' l2 w19 :=
                ⟨h19, hsv, hsm.ok, by rw [show es.take 0 = [] from rfl, playR_nil, HR0.out]; funext q; rw [hvs2, HVS.out], fun hl a ha => ⟨fun e => by have := (h18.co.lo e).2; have := hfr a ha; omega, hsv.blk_lt hl ha⟩⟩
              clear h18 hb19 h19 hsv hsm hvs2 hfr
              go_wp2_with fail
              go_loopw [28, 221] (LoI4 w g gc Ae ce xs es r0) (fun _ i _ => xs.length - (intOf i).toNat)
              case atStart => exact ⟨0, _, _, _, _, _, Nat.zero_le _, rfl, rfl, hS⟩
              case round =>
                clear hS
                obtain ⟨k, s, c, As, cs', l2, hk, rfl, rfl, hS⟩ := hrel
                by_cases hlt : k < xs.length
                · as_aux_lemma =>
                  have hkes : k < es.length := by have := HEL.out; omega
                  obtain ⟨bb, oo, hA, hbl, p0, p1, p2, p3⟩ := hS.h.ew.el.cells k xs[k] (List.getElem?_eq_getElem hlt)
                  have hxm : xs[k] ∈ xs := List.getElem_mem hlt
                  have hgd := HGD.out _ hxm
                  have hxe : es[k] = entOf xs[k] := by have h1 := HES.out; subst h1; simp
                  have HPV := hideP (show (playR r0 (es.take (k + 1))) = stepR (playR r0 (es.take k)) (entOf xs[k]) by rw [playR_take _ _ _ hkes, hxe])
                  generalize xs[k] = x at p0 p1 p2 p3 hxm hgd HPV
                  have al := (Below.refl wr.heap.size wr).alloc (Nat.le_refl _) (.cells (emC x) 42)
                  have bx := Box.new wr 42 (emC x)
                  have hS1 := hS.below al
                  obtain ⟨q1, q2⟩ := lo_step hr00.out hkes
                  have HST := hideP (cstep_any c _ 0 _ hS1.h.co)
                  rw [hS1.h.cct, log_one, hS1.h.st, q1, q2, hS1.h.cg] at HST
                  have HNX := hideP (fun (c' : Cs) (w' : World) (T : c.To (wr.alloc (.cells (emC x) 42)) w.heap.size c' w' [[es, []]] [playR r0 (es.take (k + 1))]) => And.intro (hS1.step T) (T.fr.box bx fun e => by have := (hS.h.co.lo e).2; omega))
                  have gk0 : (0 : Int) ≤ (k : Int) := by omega
                  have gk1 : (k : Int) < (xs.length : Int) := by omega
                  generalize cpB es [playR r0 (es.take k)] 0 = qb at HST
                  have HA := hideP hA
                  unfold emC at HST HNX
                  clear q1 q2 al bx hS hS1 hxe
                  rw [hA]
                  go_wp2_with fail
                  refine HST.out.mono ?_
                  clear HST
                  rintro e w2 ⟨c2, rfl, T2⟩
                  obtain ⟨hS2, bx2⟩ := HNX.out c2 w2 T2
                  clear HNX T2
                  have z0 := bx2.cell 0 (v := .slice x.D x.d.length x.c) rfl
                  have z1 := bx2.cell 1 (v := .bool x.isM) rfl
                  clear bx2
                  cases hM : x.isM
                  · rw [hM] at z1
                    have hchk : chkD x.d = 0 := by have := hgd.chk; unfold chkE entOf at this; simp only [hM] at this; simpa using this
                    have HRN := hideP (rrun_ok As x.D cs' x.c l2 x.d w2 hS2.sv hS2.ok (hS2.h.ew.el.es _ hxm).ops hchk)
                    have hv2 : (playR r0 (es.take (k + 1))).v = (doneV (playR r0 (es.take k)).v x.d).1 := by rw [HPV.out]; unfold stepR entOf; simp [hM]
                    have HV2 := hideP hv2
                    clear HPV hgd hchk hv2
                    go_wp2_with fail
                    refine HRN.out.mono ?_
                    clear HRN
                    rintro e w3 ⟨A5, c5, l5, rfl, ho5, hok5, hv5, hb5⟩
                    have hS3 : LoS w g gc Ae ce xs [[es, []]] [playR r0 (es.take (k + 1))] s c2 (playR r0 (es.take (k + 1))).v A5 c5 l5 w3 := hS2.put hb5 ho5 hok5 (by rw [hv5, hS2.ev, HV2.out])
                    clear hS2 ho5 hok5 hv5 hb5 HV2 z0 z1
                    obtain ⟨r, hr, hrl⟩ := hS3.rep
                    have HAL := hideP (show Calls Tryz.prog 19 #[.pointer (some ⟨gc, 0, none⟩), .int .i64 0] w3 (fun e w' => ∃ A cp, e = .returned (.tuple #[.slice A l5.length cp, .int .i64 0]) ∧ OV w' w3.heap.size A cp l5 ∧ Below w3.heap.size w3 w') from by
                      have h1 := call_any c2 _ 0 r w3 hS3.h.co hr
                      rw [hrl, hS3.h.cg] at h1
                      exact h1)
                    go_wp2_with fail
                    refine HAL.out.mono ?_
                    clear HAL
                    rintro e w4 ⟨Aa, na, rfl, hoa, hb4⟩
                    obtain ⟨lp, hlp⟩ : ∃ lp, lp = ptL r.m.cs r.m.os ((0 : Nat) : Int) r.l := ⟨_, rfl⟩
                    have HPT := hideP (show Calls Tryz.prog 41 #[.pointer (some ⟨gc, 0, none⟩), .int .i64 0, .int .i64 0] w4 (fun e w' => ∃ A cp, e = .returned (.tuple #[.slice A lp.length cp, .int .i64 0]) ∧ OV w' w4.heap.size A cp lp ∧ Below w4.heap.size w4 w') from by
                      have h1 := cpart_any c2 _ 0 0 r w4 (hS3.h.co.below hb4) hr (by decide)
                      rw [← hlp, hS3.h.cg] at h1
                      exact h1)
                    clear hlp
                    go_wp2_with fail
                    refine HPT.out.mono ?_
                    clear HPT
                    rintro e w5 ⟨Ab, nb, rfl, hopt, hb5⟩
                    have HDN := hideP (show Calls Tryz.prog 42 #[.pointer (some ⟨gc, 0, none⟩), .int .i64 0] w5 (fun e w' => ∃ A cp, e = .returned (.tuple #[.slice A r.bs.length cp, .int .i64 0]) ∧ OR w' w5.heap.size 4 A cp (r.bs.map Value.bool) ∧ Below w5.heap.size w5 w') from by
                      have h1 := cdone_any c2 _ 0 r w5 ((hS3.h.co.below hb4).below hb5) hr
                      rw [hS3.h.cg] at h1
                      exact h1)
                    go_wp2_with fail
                    refine HDN.out.mono ?_
                    clear HDN
                    rintro e w6 ⟨Ad, nd, rfl, hod, hb6⟩
                    have b5 := hb4.trans (hb5.mono hb4.size)
                    have b6 := b5.trans (hb6.mono b5.size)
                    have hoa6 := (hoa.below hb5).below hb6
                    have hopt6 := hopt.below hb6
                    have HEQ := hideP (equal_same Aa A5 na c5 l5 w6 hoa6.sv.ps (hS3.sv.below b6).ps (by have := hS3.ok.small; omega))
                    have hla : ∀ k, blk Aa = some k → w3.heap.size ≤ k ∧ k < w4.heap.size := fun k hk => World.ownsRow.lt hoa k (bo _ _ hk)
                    have hlb : ∀ k, blk Ab = some k → w4.heap.size ≤ k ∧ k < w5.heap.size := fun k hk => World.ownsRow.lt hopt k (bo _ _ hk)
                    have hld : ∀ k, blk Ad = some k → w5.heap.size ≤ k := fun k hk => (World.ownsRow.lt hod k (bo _ _ hk)).1
                    have hna : na ≤ 9223372036854775807 := by rcases Wr.of_own hoa with ⟨_, _, h1⟩ | ⟨_, _, _, _, _, _, _, h1⟩ <;> omega
                    have hnb : nb ≤ 9223372036854775807 := by rcases Wr.of_own hopt with ⟨_, _, h1⟩ | ⟨_, _, _, _, _, _, _, h1⟩ <;> omega
                    have hz4 := hideP hb4.size
                    have hz5 := hideP hb5.size
                    clear hb4 hb5 hb6 b5 hoa hopt hr hrl
                    go_wp2_with fail
                    refine HEQ.out.mono ?_
                    clear HEQ
                    rintro e w7 ⟨rfl, hb7⟩
                    have b7 := b6.trans (hb7.mono b6.size)
                    have HSA := hideP (pspoil_any _ Aa na l5 ⟨#[115, 112, 111, 105, 108, 116]⟩ 0 w7 (hoa6.below hb7) hna)
                    have hopt7 := hopt6.below hb7
                    have hod7 := hod.below hb7
                    clear hoa6 hopt6 hod b6 hb7 hna
                    go_wp2_with fail
                    refine HSA.out.mono ?_
                    clear HSA
                    rintro e w8 ⟨rfl, hg8⟩
                    have f8 : Fr (fun k => w3.heap.size ≤ k ∧ k < w4.heap.size) w7 w8 := Fr.of_grown hg8 hla
                    have b8 := f8.below (fun k hk => hk.1) b7.size b7
                    have hopt8 := f8.own hopt7 fun k hk e => by have := (World.ownsRow.lt hopt7 k hk).1; omega
                    have hod8 := f8.own hod7 fun k hk e => by have := (World.ownsRow.lt hod7 k hk).1; have := hz5.out; omega
                    clear hg8 f8 b7 hopt7 hod7 hla
                    have HSB := hideP (pspoil_any _ Ab nb lp ⟨#[115, 112, 111, 105, 108, 116]⟩ 0 w8 hopt8 hnb)
                    go_wp2_with fail
                    refine HSB.out.mono ?_
                    clear HSB
                    rintro e w9 ⟨rfl, hg9⟩
                    have f9 : Fr (fun k => w4.heap.size ≤ k ∧ k < w5.heap.size) w8 w9 := Fr.of_grown hg9 hlb
                    have b9 := f9.below (fun k hk => Nat.le_trans hz4.out hk.1) b8.size b8
                    have hod9 := f9.own hod8 fun k hk e => by have := (World.ownsRow.lt hod8 k hk).1; omega
                    clear hg9 f9 b8 hopt8 hod8 hlb
                    have HSD := hideP (spoilB_any _ Ad nd (r.bs.map Value.bool) false w9 hod9)
                    rw [List.length_map] at HSD
                    go_wp2_with fail
                    refine HSD.out.mono ?_
                    clear HSD
                    rintro e w10 ⟨rfl, hg10⟩
                    have f10 : Fr (fun k => w5.heap.size ≤ k) w9 w10 := Fr.of_grown hg10 hld
                    have b10 := f10.below (fun k hk => Nat.le_trans (Nat.le_trans hz4.out hz5.out) hk) b9.size b9
                    have hN := hideP (hS3.below b10)
                    clear hg10 f10 b9 hod9 hld b10 hS3
                    go_wp2_with fail
                    go_roundw
                    case rel => exact ⟨k + 1, _, _, _, _, _, by omega, rfl, by go_num, by rw [← HA.out]; exact hN.out⟩
                    case measure => simp [intOf]; omega
                  · rw [hM] at z1
                    have hv2 : (playR r0 (es.take (k + 1))).v = (playR r0 (es.take k)).v := by rw [HPV.out]; unfold stepR entOf; simp [hM]
                    rw [← hv2] at hS2
                    have hS3 := hS2
                    clear HPV hgd hv2 hS2
                    obtain ⟨A5, hA5⟩ : ∃ A5, A5 = As := ⟨_, rfl⟩
                    subst hA5
                    obtain ⟨c5, hc5⟩ : ∃ c5, c5 = cs' := ⟨_, rfl⟩
                    subst hc5
                    obtain ⟨l5, hl5⟩ : ∃ l5, l5 = l2 := ⟨_, rfl⟩
                    subst hl5
                    obtain ⟨w3, hw3⟩ : ∃ w3, w3 = w2 := ⟨_, rfl⟩
                    subst hw3
                    obtain ⟨r, hr, hrl⟩ := hS3.rep
                    have HAL := hideP (show Calls Tryz.prog 19 #[.pointer (some ⟨gc, 0, none⟩), .int .i64 0] w3 (fun e w' => ∃ A cp, e = .returned (.tuple #[.slice A l5.length cp, .int .i64 0]) ∧ OV w' w3.heap.size A cp l5 ∧ Below w3.heap.size w3 w') from by
                      have h1 := call_any c2 _ 0 r w3 hS3.h.co hr
                      rw [hrl, hS3.h.cg] at h1
                      exact h1)
                    go_wp2_with fail
                    refine HAL.out.mono ?_
                    clear HAL
                    rintro e w4 ⟨Aa, na, rfl, hoa, hb4⟩
                    obtain ⟨lp, hlp⟩ : ∃ lp, lp = ptL r.m.cs r.m.os ((0 : Nat) : Int) r.l := ⟨_, rfl⟩
                    have HPT := hideP (show Calls Tryz.prog 41 #[.pointer (some ⟨gc, 0, none⟩), .int .i64 0, .int .i64 0] w4 (fun e w' => ∃ A cp, e = .returned (.tuple #[.slice A lp.length cp, .int .i64 0]) ∧ OV w' w4.heap.size A cp lp ∧ Below w4.heap.size w4 w') from by
                      have h1 := cpart_any c2 _ 0 0 r w4 (hS3.h.co.below hb4) hr (by decide)
                      rw [← hlp, hS3.h.cg] at h1
                      exact h1)
                    clear hlp
                    go_wp2_with fail
                    refine HPT.out.mono ?_
                    clear HPT
                    rintro e w5 ⟨Ab, nb, rfl, hopt, hb5⟩
                    have HDN := hideP (show Calls Tryz.prog 42 #[.pointer (some ⟨gc, 0, none⟩), .int .i64 0] w5 (fun e w' => ∃ A cp, e = .returned (.tuple #[.slice A r.bs.length cp, .int .i64 0]) ∧ OR w' w5.heap.size 4 A cp (r.bs.map Value.bool) ∧ Below w5.heap.size w5 w') from by
                      have h1 := cdone_any c2 _ 0 r w5 ((hS3.h.co.below hb4).below hb5) hr
                      rw [hS3.h.cg] at h1
                      exact h1)
                    go_wp2_with fail
                    refine HDN.out.mono ?_
                    clear HDN
                    rintro e w6 ⟨Ad, nd, rfl, hod, hb6⟩
                    have b5 := hb4.trans (hb5.mono hb4.size)
                    have b6 := b5.trans (hb6.mono b5.size)
                    have hoa6 := (hoa.below hb5).below hb6
                    have hopt6 := hopt.below hb6
                    have HEQ := hideP (equal_same Aa A5 na c5 l5 w6 hoa6.sv.ps (hS3.sv.below b6).ps (by have := hS3.ok.small; omega))
                    have hla : ∀ k, blk Aa = some k → w3.heap.size ≤ k ∧ k < w4.heap.size := fun k hk => World.ownsRow.lt hoa k (bo _ _ hk)
                    have hlb : ∀ k, blk Ab = some k → w4.heap.size ≤ k ∧ k < w5.heap.size := fun k hk => World.ownsRow.lt hopt k (bo _ _ hk)
                    have hld : ∀ k, blk Ad = some k → w5.heap.size ≤ k := fun k hk => (World.ownsRow.lt hod k (bo _ _ hk)).1
                    have hna : na ≤ 9223372036854775807 := by rcases Wr.of_own hoa with ⟨_, _, h1⟩ | ⟨_, _, _, _, _, _, _, h1⟩ <;> omega
                    have hnb : nb ≤ 9223372036854775807 := by rcases Wr.of_own hopt with ⟨_, _, h1⟩ | ⟨_, _, _, _, _, _, _, h1⟩ <;> omega
                    have hz4 := hideP hb4.size
                    have hz5 := hideP hb5.size
                    clear hb4 hb5 hb6 b5 hoa hopt hr hrl
                    go_wp2_with fail
                    refine HEQ.out.mono ?_
                    clear HEQ
                    rintro e w7 ⟨rfl, hb7⟩
                    have b7 := b6.trans (hb7.mono b6.size)
                    have HSA := hideP (pspoil_any _ Aa na l5 ⟨#[115, 112, 111, 105, 108, 116]⟩ 0 w7 (hoa6.below hb7) hna)
                    have hopt7 := hopt6.below hb7
                    have hod7 := hod.below hb7
                    clear hoa6 hopt6 hod b6 hb7 hna
                    go_wp2_with fail
                    refine HSA.out.mono ?_
                    clear HSA
                    rintro e w8 ⟨rfl, hg8⟩
                    have f8 : Fr (fun k => w3.heap.size ≤ k ∧ k < w4.heap.size) w7 w8 := Fr.of_grown hg8 hla
                    have b8 := f8.below (fun k hk => hk.1) b7.size b7
                    have hopt8 := f8.own hopt7 fun k hk e => by have := (World.ownsRow.lt hopt7 k hk).1; omega
                    have hod8 := f8.own hod7 fun k hk e => by have := (World.ownsRow.lt hod7 k hk).1; have := hz5.out; omega
                    clear hg8 f8 b7 hopt7 hod7 hla
                    have HSB := hideP (pspoil_any _ Ab nb lp ⟨#[115, 112, 111, 105, 108, 116]⟩ 0 w8 hopt8 hnb)
                    go_wp2_with fail
                    refine HSB.out.mono ?_
                    clear HSB
                    rintro e w9 ⟨rfl, hg9⟩
                    have f9 : Fr (fun k => w4.heap.size ≤ k ∧ k < w5.heap.size) w8 w9 := Fr.of_grown hg9 hlb
                    have b9 := f9.below (fun k hk => Nat.le_trans hz4.out hk.1) b8.size b8
                    have hod9 := f9.own hod8 fun k hk e => by have := (World.ownsRow.lt hod8 k hk).1; omega
                    clear hg9 f9 b8 hopt8 hod8 hlb
                    have HSD := hideP (spoilB_any _ Ad nd (r.bs.map Value.bool) false w9 hod9)
                    rw [List.length_map] at HSD
                    go_wp2_with fail
                    refine HSD.out.mono ?_
                    clear HSD
                    rintro e w10 ⟨rfl, hg10⟩
                    have f10 : Fr (fun k => w5.heap.size ≤ k) w9 w10 := Fr.of_grown hg10 hld
                    have b10 := f10.below (fun k hk => Nat.le_trans (Nat.le_trans hz4.out hz5.out) hk) b9.size b9
                    have hN := hideP (hS3.below b10)
                    clear hg10 f10 b9 hod9 hld b10 hS3
                    go_wp2_with fail
                    go_roundw
                    case rel => exact ⟨k + 1, _, _, _, _, _, by omega, rfl, by go_num, by rw [← HA.out]; exact hN.out⟩
                    case measure => simp [intOf]; omega
                · obtain rfl : k = xs.length := by omega
                  have hbe := hS.h.be
                  clear hS
                  go_wp2_with fail
                  go_ret
                  exact ⟨rfl, hbe⟩
end Go.Proofs.YtefdipjhjgmokaaGreatDoor
